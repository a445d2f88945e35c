/-
  The law on MirrorCuts, walked: whatever number and slice come in, it returns true and writes nothing that was there. No condition but a length that fits int.
-/
import Derived.Test.YtillkjkdpkgckaaBack
import Derived.Test.YtillkjkdpkgckaaCut
import Derived.RangeFuncNested
import Derived.RangeFuncBound
import Derived.RangeFuncCalls
namespace Go.Proofs.Ytillkjkdpkgckaa
open Go.RowKit Go.Shelf

attribute [local go_sem] Oper.semAt_some

def mirV (m : Int) (x : Int × Int) : Int := wrap64 (m - 1 - x.2)
theorem mir_all {m : Int} {xs : List Int} (h : CutsOk m xs) : (upto (bkF xs) xs.length).map (mirV m) = mirC m xs := by
  unfold mirC mirTo upto
  rw [List.map_map]
  apply List.map_congr_left
  intro j hj
  rw [List.mem_range] at hj
  have := h.2.2.1 (xs.length - 1 - j) (by omega)
  have := h.1
  show wrap64 (m - 1 - (bkF xs j).2) = _
  exact IntWalk.wrap64_in _ (by simp only [bkF]; omega)

theorem kpB_b {n₀ Bs : Nat} {w : World} (hn : n₀ ≤ w.heap.size) (hB : Bs < w.heap.size) (W : World) (l : Nat) (o o' : Obj) (hl : w.heap.size ≤ l) (h : W.heap[l]? = some o) (h1 : o.isCells = false) (h2 : o.isWalk = false) : KpB n₀ Bs W (W.putObj l o') :=
  ⟨belowK_b hn W l o o' hl h h1 h2, (grownBy_putObj' W l o').block Bs (by have := (Array.getElem?_eq_some_iff.1 h).1; omega) (fun e => by have := Option.some.inj e; omega)⟩

set_option maxRecDepth 100000 in
set_option maxHeartbeats 4000000 in
theorem mirror_in (F : Fence) (n : Nat) (hF : ∀ k, F.fn k) (hro : F.round = none) (hn : 3 ≤ n) (m : Int) (v : Value) (xs : List Int) (w : World) (h : Sp w v xs) (hc : CutsOk m xs)
    (hA : ∀ w', Sp w' v xs → CallsIn F (n - 1) Try.prog 16 #[.int .i64 m, v] w' fun e w2 => e = .returned (.bool true) ∧ Below w'.heap.size w' w2) :
    CallsIn F n Try.prog 25 #[.int .i64 m, v] w fun e w' => ∃ u, e = .returned (.tuple #[u, .bool true]) ∧ Ow w' w.heap.size u (mirC m xs) ∧ Below w.heap.size w w' := by
  have h1 : 1 ≤ n := by omega
  have hmb := hc.1
  have hl9 := hc.2.1
  have HM := Lib.hid (mir_all hc)
  obtain ⟨i0, hi, hz0, hz1, hz2⟩ := info_parts Try.infoI
  have hb0 : Below w.heap.size w (w.alloc (.cells #[.int .i64 m] 3)) := (Below.refl _ w).alloc (Nat.le_refl _) _
  have hA' := hA _ (h.below hb0 (Nat.le_refl _))
  obtain ⟨b, off, cap, rfl, _, _, hbl, hcl⟩ := h
  have HCL := Lib.hid hcl
  have hcm : (w.alloc (.cells #[.int .i64 m] 3)).cell? ⟨w.heap.size, 0, none⟩ = some (.int .i64 m) := (Boxed.new w 3 (.int .i64 m)).cell
  clear hcl hA hc
  refine callsIn_of_wp_marks Try.func25 rfl (hF _) ?_ hro
  simp only [Try.ntmps25, List.size_toArray, List.length_cons, List.length_nil, Nat.reduceAdd, Nat.reduceSub, Array.replicate_succ, Array.replicate_zero, List.push_toArray, List.append_toArray, List.nil_append, List.cons_append]
  gi_wp2_with (first
    | (gi_at_call 16; refine hA'.mono ?_; clear hA'; rintro e w1 ⟨rfl, b1⟩)
    | (gi_at_call 52; refine (backward_in F (n - 1) (hF _) hro _ _ _ _).mono ?_; rintro e w' ⟨rfl, rfl⟩))
  have hlk : w1.cell? ⟨w.heap.size, 0, none⟩ = some (.int .i64 m) := (b1.cell (p := ⟨w.heap.size, 0, none⟩) (by simp)).trans hcm
  have hbw := hb0.trans (b1.mono (by simp))
  have hz1' := hbw.size
  have hlw : w.heap.size < w1.heap.size := by have := b1.size; simp at this; omega
  obtain ⟨N, hN⟩ : ∃ N, w1.heap.size = N := ⟨_, rfl⟩
  have hbO := Boxed.new (w1.alloc (.cells #[] 3)) 22 (.slice (some ⟨w1.heap.size, 0, none⟩) 0 0)
  have hbS := Boxed.new ((w1.alloc (.cells #[] 3)).alloc (.cells #[.slice (some ⟨w1.heap.size, 0, none⟩) 0 0] 22)) 22 (.slice (some ⟨b, off, none⟩) xs.length cap)
  have hrow0 : World.ownsRow _ _ _ _ _ _ _ := ((ow_empty w1).alloc (.cells #[.slice (some ⟨w1.heap.size, 0, none⟩) 0 0] 22)).alloc (.cells #[.slice (some ⟨b, off, none⟩) xs.length cap] 22)
  have hbO := hbO.alloc (.cells #[.slice (some ⟨b, off, none⟩) xs.length cap] 22)
  have hbl0 : Below w1.heap.size w1 (((w1.alloc (.cells #[] 3)).alloc (.cells #[.slice (some ⟨w1.heap.size, 0, none⟩) 0 0] 22)).alloc (.cells #[.slice (some ⟨b, off, none⟩) xs.length cap] 22)) := (((Below.refl _ _).alloc (Nat.le_refl _) _).alloc (by simp) _).alloc (by simp; omega) _
  have hcs : ∀ j, j < xs.length → (((w1.alloc (.cells #[] 3)).alloc (.cells #[.slice (some ⟨w1.heap.size, 0, none⟩) 0 0] 22)).alloc (.cells #[.slice (some ⟨b, off, none⟩) xs.length cap] 22)).cell? ⟨b, off + j, none⟩ = some (.int .i64 (xs.getD j 0)) := fun j hj => (hbl0.cell (p := ⟨b, off + j, none⟩) (by show b < _; omega)).trans ((hbw.cell (p := ⟨b, off + j, none⟩) hbl).trans (HCL.out j hj))
  simp only [World.size_alloc] at hbO hbS
  have hzl : (((w1.alloc (.cells #[] 3)).alloc (.cells #[.slice (some ⟨w1.heap.size, 0, none⟩) 0 0] 22)).alloc (.cells #[.slice (some ⟨b, off, none⟩) xs.length cap] 22)).heap.size = w1.heap.size + 1 + 1 + 1 := by simp
  obtain ⟨Wl, hWl⟩ : ∃ Wl, (((w1.alloc (.cells #[] 3)).alloc (.cells #[.slice (some ⟨w1.heap.size, 0, none⟩) 0 0] 22)).alloc (.cells #[.slice (some ⟨b, off, none⟩) xs.length cap] 22)) = Wl := ⟨_, rfl⟩
  rw [hWl] at hbO hbS hrow0 hbl0 hcs hzl ⊢
  rw [hN] at hbO hbS hrow0 hbl0 hzl hlw ⊢
  clear hWl b1 hcm hb0
  refine wpIn_rangeFunc_ownG hro h1 (gf := 79) (lb := #[.pointer (some ⟨N + 1 + 1, 0, none⟩)]) rfl (hF _) (enters_of Try.func79 (by kernel_rfl) rfl)
    (back_stops F (n - 1) (hF _) hro (by omega) (N + 1 + 1) N b off cap xs (by omega) Wl (by omega) (by omega) (by omega) hbS.cell hcs) KpB.trans (kpB_b (by omega) (by omega)) (Below.refl _ _) (fun _ => rfl)
    (fun pre W => (∃ v, Boxed W (N + 1) 22 v ∧ W.ownsRow N 3 1 v pre.length (pre.map fun p => Value.int .i64 (mirV m p)) ∧ True) ∧ Boxed W (N + 1 + 1) 22 (.slice (some ⟨b, off, none⟩) xs.length cap) ∧ Below N w1 W)
    (fun _ _ _ => False)
    (OwnFrom.and (Own.from (holdsRow_own N (N + 1) 22 3 1 (fun (pre : List (Int × Int)) => pre.length) (fun (pre : List (Int × Int)) => pre.map fun p => Value.int .i64 (mirV m p)) (fun _ _ => True)) _) (OwnFrom.and (Own.from (boxed_own _ _ _) _) (ownFrom_below (by omega) (by omega))))
    (fun _ _ _ _ _ hs _ _ => hs)
    ⟨⟨_, hbO, hrow0, trivial⟩, hbS, hbl0⟩
    (fun x => { tmps := #[.int .i64 m, .slice (some ⟨b, off, none⟩) xs.length cap, .pointer (some ⟨w.heap.size, 0, none⟩), undef, .slice none 0 0, .bool false, .pointer (some ⟨N + 1, 0, none⟩), undef, .int .i64 x.2, .int .i64 m, .slice (some ⟨b, off, none⟩) xs.length cap, .bool true, .bool false, .slice (some ⟨N, 0, none⟩) 0 0, .slice (some ⟨b, off, none⟩) xs.length cap, .func (.func 79) #[] #[.pointer (some ⟨N + 1 + 1, 0, none⟩)], .int .i64 x.1, .int .i64 x.2, undef, undef, undef, undef, undef, undef, undef, undef], defers := [] }) ?assign ?body ?done ?stop
  case assign =>
    intro l x W K hK
    gi_wp2
    exact hK
  case body =>
    rintro l pre x W ⟨⟨v, hv, hrow, _⟩, hs, hB⟩ hlt
    have hc := hv.cell
    have hlW : W.cell? ⟨w.heap.size, 0, none⟩ = some (.int .i64 m) := (hB.cell (p := ⟨w.heap.size, 0, none⟩) hlw).trans hlk
    have hBz := hB.size
    rw [hN] at hBz
    gi_wp2_with (gi_at_builtin; refine wpListIn_append_own _ rfl _ _ 22 rfl N 3 i0 (.int .i64 0) 1 8 Try.underlying22 hi hz0 hz1 hz2 rfl (by decide) _ _ _ rfl (hrow.alloc _) ⟨W.heap.size, 0, none⟩ 1 1 [_] rfl rfl (cell_one_new _ _ _) (by simp [Value.oneCell']) (by unfold maxLen; omega) (by omega) (by simp; omega) ?_; intro v' w3 hown' hgrow _; obtain ⟨g', cap', rfl⟩ := ownsRow_succ hown'; have hs3 := (hs.alloc _).kept hgrow (hs.not_row (by decide) hrow); obtain ⟨hv1, hv2, hr2, hk2, hb2⟩ := hv.appended (by decide) hrow hBz (by omega) hown' hgrow; have hc1 := hv1.cell; have hf1 := hv1.frozen)
    have hs4 := hs3.other (B' := N + 1) (by omega) (.slice (some ⟨g', 0, none⟩) (pre.length + 1) cap')
    exact ⟨hk2.from _, ⟨hb2, hs4.trans hs.symm⟩, ⟨⟨_, hv2, by simpa [mirV] using hr2, trivial⟩, hs4, hB.trans hb2⟩⟩
  case done =>
    rintro D ys W hD rfl ⟨⟨v, hv, hrow, _⟩, hs, hB⟩ hK
    have hc := hv.cell
    gi_wp2
    refine ⟨by simp, .inl ⟨_, _, rfl, run_takeDeferred hK, ?_⟩⟩
    have ho : Ow (W.putObj D (.deferred none)) N v ((upto (bkF xs) xs.length).map (mirV m)) := by
      have := ownsRow_putObj hrow (.deferred none) hK rfl
      unfold Ow
      rw [List.length_map, List.map_map]
      exact this
    rw [HM.out] at ho
    have hbe : Below w.heap.size w (W.putObj D (.deferred none)) := hbw.trans ((hB.mono (Nat.le_of_lt hlw)).trans (belowK_b (w := Wl) (by omega) W D _ _ hD hK rfl rfl))
    exact ⟨_, (by simp [results, Try.results25, go_sem]), v, rfl, ho.mono (Nat.le_of_lt hlw), hbe⟩
  case stop =>
    rintro D c pre W _ _ h _
    exact h.elim

noncomputable def mirR (xs : List Int) (m : Int) : List Int := if cutsB m xs = true then mirC m xs else []
theorem mirR_yes {xs : List Int} {m : Int} (h : cutsB m xs = true) : mirR xs m = mirC m xs := by simp [mirR, h]
theorem mirR_no {xs : List Int} {m : Int} (h : cutsB m xs = false) : mirR xs m = [] := by simp [mirR, h]
theorem mirR_len (xs : List Int) (m : Int) : (mirR xs m).length ≤ 1099511627776 := by
  unfold mirR
  by_cases h : cutsB m xs = true
  · rw [if_pos h]
    have := (cutsB_iff.1 h).2.1
    have := mirTo_len m xs xs.length
    unfold mirC; omega
  · rw [if_neg h]; simp

set_option maxHeartbeats 4000000 in
theorem specMirrorCuts_any (v : Value) (xs : List Int) (m : Int) (w : World) (h : Sp w v xs) (hl : xs.length ≤ 1099511627776) :
    Calls Try.prog 24 #[.int .i64 m, v] w fun e w' => ∃ u, e = .returned (.tuple #[u, .bool (cutsB m xs)]) ∧ Ow w' w.heap.size u (mirR xs m) ∧ Below w.heap.size w w' := by
  by_cases hg : cutsB m xs = true
  · have HR := Lib.hid (mirR_yes hg)
    have HG := Lib.hid hg
    have hc := cutsB_iff.1 hg
    have hl9 := hc.2.1
    have hmb := hc.1
    have HC := Lib.hid hc
    have hsp := h
    obtain ⟨b, off, cap, rfl, _, _, hbl, hcl⟩ := h
    have HCL := Lib.hid hcl
    clear hcl
    go_enter Try.func24, Try.ntmps24
    go_wp2_with fail
    refine (chCuts_any _ _ _ _ hsp.sv hl).mono ?_
    rintro e w1 ⟨rfl, b1⟩
    go_wp2_with fail
    clear hg hc
    go_loopw [6, 7] (fun a i wr => ∃ k : Nat, k ≤ xs.length ∧ i = .int .i64 ((xs.length : Int) - 1 - k) ∧ Ow wr w.heap.size a (mirTo m xs k) ∧ Below w.heap.size w wr) (fun _ i _ => (intOf i + 1).toNat)
    case atStart => exact ⟨0, Nat.zero_le _, by simp, by simpa [mirTo] using ow_nil w1 w.heap.size, b1⟩
    case round =>
      obtain ⟨k, hk, rfl, ho, hb⟩ := hrel
      have hsz := hb.size
      have hml := mirTo_len m xs k
      by_cases hlt : k < xs.length
      · obtain ⟨q, hq⟩ : ∃ q : Nat, xs.length = q + 1 + k := ⟨xs.length - 1 - k, by omega⟩
        have em : (xs.length : Int) - 1 - k = (q : Int) := by omega
        have em2 : xs.length - 1 - k = q := by omega
        have hcell := (hb.cell (p := ⟨b, off + q, none⟩) hbl).trans (HCL.out q (by omega))
        have hxb := HC.out.2.2.1 q (by omega)
        have MS := Lib.hid (mirTo_succ m xs k)
        obtain ⟨x, ex⟩ : ∃ x, xs.getD q 0 = x := ⟨_, rfl⟩
        rw [ex] at hcell hxb
        have EX := Lib.hid (show xs.getD (xs.length - 1 - k) 0 = x by rw [em2]; exact ex)
        rw [em]
        have EM := Lib.hid em
        have hqi : (q : Int) < xs.length := by omega
        have hqn : (0 : Int) ≤ q := by omega
        clear ex em em2 hq
        go_wp2_with (at_builtin; refine wpList_append_src rfl _ _ rfl w.heap.size _ (mirTo m xs k) rfl (ho.alloc _) _ [m - 1 - x] rfl (src_one _ _) (by simp only [List.length_cons, List.length_nil]; omega) (by simp; omega) ?_; intro v3 w3 h3 g3)
        have b3 := (hb.alloc hsz _).trans ((ho.alloc _).grown (by simp; omega) g3)
        clear ho g3 hb
        go_roundw
        case rel => exact ⟨k + 1, by omega, by have := EM.out; first | (simp; done) | (simp; omega), by rw [MS.out, EX.out]; exact h3, b3⟩
        case measure => first | (simp [intOf]; done) | (simp [intOf]; omega)
      · obtain rfl : k = xs.length := by omega
        have em : (xs.length : Int) - 1 - (xs.length : Int) = -1 := by omega
        rw [em]
        clear em
        go_wp2
        go_ret2
        exact ⟨_, ret_lb rfl HG.out.symm, by rw [HR.out]; exact ho, hb⟩
  · have hg : cutsB m xs = false := by simpa using hg
    have HR := Lib.hid (mirR_no hg)
    have HG := Lib.hid hg
    go_enter Try.func24, Try.ntmps24
    go_wp2_with fail
    refine (chCuts_any _ _ _ _ h.sv hl).mono ?_
    rintro e w1 ⟨rfl, b1⟩
    go_wp2_with fail
    go_ret2
    exact ⟨_, ret_lb rfl HG.out.symm, by rw [HR.out]; exact ow_nil _ _, b1⟩

set_option maxRecDepth 100000 in
set_option maxHeartbeats 4000000 in
theorem implMirrorCuts_any (v : Value) (xs : List Int) (m : Int) (w : World) (h : Sp w v xs) (hl : xs.length ≤ 1099511627776) :
    Calls Try.prog 25 #[.int .i64 m, v] w fun e w' => ∃ u, e = .returned (.tuple #[u, .bool (cutsB m xs)]) ∧ Ow w' w.heap.size u (mirR xs m) ∧ Below w.heap.size w w' := by
  by_cases hg : cutsB m xs = true
  · rw [mirR_yes hg, hg]
    refine callsIn_wide.1 (mirror_in Fence.wide 6 (fun _ => trivial) rfl (by omega) m v xs w h (cutsB_iff.1 hg) fun w' h' => callsIn_wide.2 ((implAreCuts_any v xs m w' h'.sv hl).mono ?_))
    rintro e w2 ⟨rfl, hb⟩
    exact ⟨ret_bool hg, hb⟩
  · have hg : cutsB m xs = false := by simpa using hg
    have HR := Lib.hid (mirR_no hg)
    have HG := Lib.hid hg
    have hb0 : Below w.heap.size w (w.alloc (.cells #[.int .i64 m] 3)) := (Below.refl _ w).alloc (Nat.le_refl _) _
    have h1 := h.below hb0 (Nat.le_refl _)
    have z0 := hb0.size
    clear h
    go_enter Try.func25, Try.ntmps25
    go_wp2_with fail
    refine (implAreCuts_any _ _ _ _ h1.sv hl).mono ?_
    rintro e w1 ⟨rfl, b1⟩
    have b1 := hb0.trans (b1.mono z0)
    clear hb0 h1
    go_wp2_with fail
    go_ret2
    exact ⟨_, ret_lb rfl HG.out.symm, by rw [HR.out]; exact ow_nil _ _, b1⟩

set_option maxHeartbeats 4000000 in
theorem lawMirrorCuts (v : Value) (xs : List Int) (a1 : Int) (w : World) (h : Sv w v xs) (hm : xs.length ≤ 9223372036854775807) :
    Calls Try.prog 6 #[.int .i64 a1, v] w fun e w' => e = .returned (.bool true) ∧ Below w.heap.size w w' := by
  have hs := h
  obtain ⟨p, cap, rfl, hx⟩ := h
  clear hx
  by_cases hbig : 1048576 < xs.length
  · go_enter Try.func6, Try.ntmps6
    go_wp2
    go_ret
    exact ⟨rfl, Below.refl _ _⟩
  · have hl : xs.length ≤ 1099511627776 := by omega
    have hyl : (mirR xs a1).length ≤ 1099511627776 := mirR_len _ _
    go_enter Try.func6, Try.ntmps6
    go_wp2_with fail
    refine (toIntS_any _ _ _ hs hl).mono ?_
    rintro e w1 ⟨u1, rfl, o1, a1', b1⟩
    go_wp2_with fail
    refine (specMirrorCuts_any _ _ _ _ (o1.sp a1') hl).mono ?_
    rintro e w2 ⟨v2, rfl, o2, b2⟩
    have z1 := b1.size
    have o2 := o2.mono z1
    have t2 := nxt b1 b2
    clear o1 b1 b2 a1'
    go_wp2_with fail
    refine (toIntS_any _ _ _ (hs.below t2 (Nat.le_refl _)) hl).mono ?_
    rintro e w3 ⟨u3, rfl, o3, a3, b3⟩
    have z2 := t2.size
    have p2 := ap_below o2 a3 (Nat.le_refl _)
    have lt3 := own_lt o3 a3
    have q2 := o2.below b3 (Nat.le_refl _)
    have t3 := nxt t2 b3
    clear b3 t2
    go_wp2_with fail
    refine (implMirrorCuts_any _ _ _ _ (o3.sp a3) hl).mono ?_
    rintro e w4 ⟨g4, rfl, o4, b4⟩
    have z3 := t3.size
    have p4 := ap_above o4 a3 lt3
    have p24 := ap_two o2 o4 (by omega)
    have o4 := o4.mono z3
    have q2 := q2.below b4 (Nat.le_refl _)
    have q3 := o3.below b4 (Nat.le_refl _)
    have t4 := nxt t3 b4
    clear o3 b4 t3 o2
    go_wp2_with fail
    refine (eqIntS_yes _ _ _ _ _ o4.sv q2.sv rfl hyl).mono ?_
    rintro e w5 ⟨rfl, b5⟩
    have o4 := o4.below b5 (Nat.le_refl _)
    have q2 := q2.below b5 (Nat.le_refl _)
    have q3 := q3.below b5 (Nat.le_refl _)
    have t5 := nxt t4 b5
    clear b5 t4
    go_wp2_with fail
    refine (toIntS_any _ _ _ (hs.below t5 (Nat.le_refl _)) hl).mono ?_
    rintro e w6 ⟨u6, rfl, o6, -, b6⟩
    have o4 := o4.below b6 (Nat.le_refl _)
    have q2 := q2.below b6 (Nat.le_refl _)
    have q3 := q3.below b6 (Nat.le_refl _)
    have t6 := nxt t5 b6
    clear b6 t5
    go_wp2_with fail
    refine (eqIntS_yes _ _ _ _ _ q3.sv o6.sv rfl hl).mono ?_
    rintro e w7 ⟨rfl, b7⟩
    have o4 := o4.below b7 (Nat.le_refl _)
    have q2 := q2.below b7 (Nat.le_refl _)
    have q3 := q3.below b7 (Nat.le_refl _)
    have t7 := nxt t6 b7
    have z7 := t7.size
    clear b7 t6 o6
    go_wp2_with fail
    refine (markIntS_any _ xs _ 1 _ q3 hl (by omega) (by omega)).mono ?_
    rintro e w8 ⟨rfl, -, g8⟩
    have o4 := o4.kept g8 p4
    have q2 := q2.kept g8 p2
    have t8 := t7.trans (q3.marked z2 (Nat.le_of_lt (own_lt q3 a3)) g8)
    have z8 := t8.size
    clear q3 g8 t7 a3
    go_wp2_with fail
    refine (eqIntS_yes _ _ _ _ _ o4.sv q2.sv rfl hyl).mono ?_
    rintro e w9 ⟨rfl, b9⟩
    have o4 := o4.below b9 (Nat.le_refl _)
    have q2 := q2.below b9 (Nat.le_refl _)
    have t9 := nxt t8 b9
    have z9 := t9.size
    clear b9 t8
    go_wp2_with fail
    refine (markIntS_any _ (mirR xs a1) _ 1 _ o4 hyl (by omega) (by omega)).mono ?_
    rintro e w10 ⟨rfl, o10, g10⟩
    have q2 := q2.kept g10 p24
    have t10 := t9.trans (o4.marked (Nat.le_refl _) z9 g10)
    clear o4 g10 t9
    go_wp2_with fail
    refine (heldIntS_any _ (mirR xs a1).length 1 _ o10.sv hyl (by omega) (by omega)).mono ?_
    rintro e w10' ⟨rfl, rfl⟩
    go_wp2_with fail
    refine (toIntS_any _ _ _ (hs.below t10 (Nat.le_refl _)) hl).mono ?_
    rintro e w11 ⟨u11, rfl, o11, a11, b11⟩
    have o10 := o10.below b11 (Nat.le_refl _)
    have q2 := q2.below b11 (Nat.le_refl _)
    have t11 := nxt t10 b11
    clear b11 t10
    go_wp2_with fail
    refine (implMirrorCuts_any _ _ _ _ (o11.sp a11) hl).mono ?_
    rintro e w12 ⟨h12, rfl, o12, b12⟩
    have o10 := o10.below b12 (Nat.le_refl _)
    have q2 := q2.below b12 (Nat.le_refl _)
    have t12 := nxt t11 b12
    clear b12 t11 o11 a11
    go_wp2_with fail
    refine (eqIntS_yes _ _ _ _ _ o12.sv q2.sv rfl hyl).mono ?_
    rintro e w13 ⟨rfl, b13⟩
    have o10 := o10.below b13 (Nat.le_refl _)
    have t13 := nxt t12 b13
    clear b13 t12 o12 q2
    go_wp2_with fail
    refine (heldIntS_any _ (mirR xs a1).length 1 _ o10.sv hyl (by omega) (by omega)).mono ?_
    rintro e w13' ⟨rfl, rfl⟩
    go_wp2_with fail
    go_ret
    exact ⟨rfl, t13⟩
end Go.Proofs.Ytillkjkdpkgckaa
