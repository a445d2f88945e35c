/-
  Whether two lists are the same, and NeedlessMarks in the model, by their contracts. Condition: slices of at most 2^40 numbers.
-/
import Derived.Test.YthienikceehcoaaRdr
namespace Go.Proofs.Ythienikceehcoaa
open Go.RowKit

theorem ris_pw {lo hi : Int} : ∀ (xs : List Int), RisTo xs lo hi xs.length → xs.Pairwise (fun x y => x < y) := by
  intro xs h
  rw [List.pairwise_iff_getElem]
  intro i j hi hj hij
  have key : ∀ (d i : Nat), i + d + 1 < xs.length → xs.getD i 0 < xs.getD (i + d + 1) 0 := by
    intro d
    induction d with
    | zero => intro i hi; exact h.2 i hi
    | succ d ih => intro i hi; have h1 := ih i (by omega); have h2 := h.2 (i + d + 1) (by omega); have e : i + (d + 1) + 1 = i + d + 1 + 1 := by omega
                   rw [e]; omega
  have := key (j - i - 1) i (by omega)
  rw [show i + (j - i - 1) + 1 = j by omega] at this
  simpa [List.getD_eq_getElem?_getD, List.getElem?_eq_getElem, hi, hj] using this
theorem pw_ris {lo hi : Int} {xs : List Int} (h : xs.Pairwise (fun x y => x < y)) (hm : ∀ x ∈ xs, lo ≤ x ∧ x ≤ hi) : RisTo xs lo hi xs.length := by
  refine ⟨fun j hj => ?_, fun j hj => ?_⟩
  · have : xs.getD j 0 ∈ xs := by rw [List.getD_eq_getElem?_getD, List.getElem?_eq_getElem hj]; exact List.getElem_mem hj
    exact hm _ this
  · have := List.pairwise_iff_getElem.1 h j (j + 1) (by omega) hj (by omega)
    simpa [List.getD_eq_getElem?_getD, List.getElem?_eq_getElem, hj, show j < xs.length by omega] using this
theorem Rul.drop {ms : List Int} (h : Rul ms) {i : Nat} (h0 : 0 < i) (hi : i + 1 < ms.length) : Rul (drL ms (ms.getD i 0)) := by
  have hp := ris_pw ms h.ris
  have hm : ∀ x ∈ drL ms (ms.getD i 0), 0 ≤ x ∧ x ≤ 60 := by
    intro x hx
    obtain ⟨j, hj, rfl⟩ := List.getElem_of_mem (List.mem_filter.1 hx).1
    have := h.ris.1 j hj
    simpa [List.getD_eq_getElem?_getD, List.getElem?_eq_getElem hj] using this
  have hne0 : ¬ ms.getD 0 0 = ms.getD i 0 := by
    have := h.diff (i := 0) (j := i) h0 (by omega); omega
  have hnel : ¬ ms.getD (ms.length - 1) 0 = ms.getD i 0 := by
    have := h.diff (i := i) (j := ms.length - 1) (by omega) (by omega); omega
  have hz := h.zero
  have h2 := h.two
  obtain ⟨a, l, rfl⟩ : ∃ a l, ms = a :: l := by
    cases ms with
    | nil => simp at h2
    | cons a l => exact ⟨a, l, rfl⟩
  have ha : a = 0 := by simpa using hz
  have e : drL (a :: l) ((a :: l).getD i 0) = a :: drL l ((a :: l).getD i 0) := by
    unfold drL
    rw [List.filter_cons]
    have : (!(a == (a :: l).getD i 0)) = true := by
      simp only [List.getD_cons_zero] at hne0
      simpa using hne0
    rw [if_pos this]
  have hmem : (a :: l).getD ((a :: l).length - 1) 0 ∈ drL l ((a :: l).getD i 0) := by
    unfold drL
    rw [List.mem_filter]
    refine ⟨?_, by simpa using hnel⟩
    simp only [List.length_cons] at h2 ⊢
    obtain ⟨q, hq⟩ : ∃ q, l.length = q + 1 := ⟨l.length - 1, by omega⟩
    rw [hq, Nat.add_sub_cancel, List.getD_cons_succ, List.getD_eq_getElem?_getD, List.getElem?_eq_getElem (by omega)]
    exact List.getElem_mem _
  rw [e] at hm ⊢
  refine ⟨?_, pw_ris ?_ hm, by simpa using ha⟩
  · have := List.length_pos_of_mem hmem
    rw [List.length_cons]; omega
  · rw [← e]; exact hp.filter _

theorem Ow.sp0 {w : World} {B : Nat} {v : Value} {ys : List Int} (h : Ow w B v ys) (h0 : 0 < ys.length) : Sp w v ys := by
  have hs := h.sv
  obtain ⟨_, h2⟩ := h
  rcases h2 with ⟨rfl, hn⟩ | ⟨g, cap, cur, rfl, hg, hh, hnc, hcm, hcs, htake⟩
  · have : ys.length = 0 := hn
    omega
  · obtain ⟨p, c2, hv, hx⟩ := hs
    simp only [Value.slice.injEq] at hv
    obtain ⟨rfl, _, rfl⟩ := hv
    refine ⟨g, 0, cap, rfl, hnc, hcm, (Array.getElem?_eq_some_iff.1 hh).1, fun j hj => ?_⟩
    obtain ⟨b2, off2, hp, _, hc⟩ := hx (by omega)
    simp only [Option.some.injEq, Addr.mk.injEq, and_true] at hp
    obtain ⟨rfl, rfl⟩ := hp
    exact hc j hj

theorem take_next {xs : List Int} {k : Nat} {x : Int} (hk : k < xs.length) (hx : xs.getD k 0 = x) : xs.take (k + 1) = xs.take k ++ [x] := by
  rw [List.take_add_one, List.getElem?_eq_getElem hk, ← hx, List.getD_eq_getElem?_getD, List.getElem?_eq_getElem hk]; rfl
set_option maxHeartbeats 4000000 in
set_option maxRecDepth 20000 in
theorem l1Same_any (u v : Value) (xs ys : List Int) (w : World) (hu : Sv w u xs) (hv : Sv w v ys) (hl : xs.length ≤ 1073741824) :
    Calls Try.prog 32 #[u, v] w fun e w' => e = .returned (.bool (decide (xs = ys))) ∧ Below w.heap.size w w' := by
  obtain ⟨p, cap, rfl, hx⟩ := hu
  obtain ⟨q, cap2, rfl, hy⟩ := hv
  by_cases hlen : xs.length = ys.length
  · have HL := Lib.hid hlen
    rw [← hlen] at hy ⊢
    have HX := Lib.hid hx
    have HY := Lib.hid hy
    obtain ⟨R, eR⟩ : ∃ R, decide (xs = ys) = R := ⟨_, rfl⟩
    have RR := Lib.hid eR
    rw [eR]
    clear hx hy hlen eR
    go_enter Try.func32, Try.ntmps32
    go_wp2
    go_loopw [13] (fun i wr => ∃ k : Nat, k ≤ xs.length ∧ i = .int .i64 k ∧ Hid (xs.take k = ys.take k) ∧ Below w.heap.size w wr) (fun i _ => xs.length - (intOf i).toNat)
    case atStart => exact ⟨0, Nat.zero_le _, rfl, Lib.hid (by simp), Below.refl _ _⟩
    case round =>
      obtain ⟨k, hk, rfl, HK, hb⟩ := hrel
      by_cases hlt : k < xs.length
      · obtain ⟨b, off, rfl, hbl, hc⟩ := HX.out (by omega)
        obtain ⟨b2, off2, rfl, hbl2, hc2⟩ := HY.out (by omega)
        have hcx := (hb.cell (p := ⟨b, off + k, none⟩) hbl).trans (hc k hlt)
        have hcy := (hb.cell (p := ⟨b2, off2 + k, none⟩) hbl2).trans (hc2 k hlt)
        obtain ⟨x, ex⟩ : ∃ x, xs.getD k 0 = x := ⟨_, rfl⟩
        obtain ⟨y, ey⟩ : ∃ y, ys.getD k 0 = y := ⟨_, rfl⟩
        rw [ex] at hcx
        rw [ey] at hcy
        have TX := Lib.hid (take_next hlt ex)
        have TY := Lib.hid (take_next (show k < ys.length by rw [← HL.out]; exact hlt) ey)
        have i1 : (k : Int) < xs.length := by omega
        have i0 : (0 : Int) ≤ k := by omega
        have hbd := hb.drew
        by_cases hxy : x = y
        · subst hxy
          clear hc hc2 ex ey
          go_wp2
          go_region
          all_goals
            go_wp2
            go_roundw
            case rel => exact ⟨k + 1, by omega, by go_num, Lib.hid (by rw [TX.out, TY.out, HK.out]), by first | exact hb | exact below_drewN hb _⟩
            case measure => simp only [intOf]; omega
        · have dxy : (x == y) = false := by simpa using hxy
          have R2 : Hid (R = false) := Lib.hid (by
            rw [← RR.out, decide_eq_false_iff_not]
            intro e
            rw [← e, ex] at ey
            exact hxy ey)
          clear hc hc2 ex ey hxy
          go_wp2
          go_region
          all_goals
            go_wp2
            go_ret
            exact ⟨ret_bool R2.out.symm, by first | exact hb | exact below_drewN hb _⟩
      · have hke : k = xs.length := by omega
        have R2 : Hid (R = true) := Lib.hid (by
          rw [← RR.out, decide_eq_true_iff]
          have := HK.out
          rw [hke, List.take_length] at this
          rw [this, List.take_of_length_le (by rw [HL.out]; exact Nat.le_refl _)])
        subst hke
        go_wp2
        go_ret
        exact ⟨ret_bool R2.out.symm, hb⟩
  · have R2 := Lib.hid (show decide (xs = ys) = false by rw [decide_eq_false_iff_not]; intro e; exact hlen (by rw [e]))
    have dl : ((xs.length : Int) == (ys.length : Int)) = false := by rw [beq_eq_false_iff_ne]; omega
    clear hx hy
    go_enter Try.func32, Try.ntmps32
    go_wp2
    go_ret
    exact ⟨ret_bool R2.out.symm, Below.refl _ _⟩

noncomputable def ndT (ms : List Int) (m : Int) : Bool := decide (wiK (drL ms m) true ((lastM (drL ms m)).toNat + 1) = wiK ms true ((lastM ms).toNat + 1))
/-- Of the first k marks behind 0 those that are needless. -/
noncomputable def nmK (ms : List Int) (k : Nat) : List Int := ((List.range k).map fun j => ms.getD (j + 1) 0).filter (ndT ms)
theorem nmK_yes {ms : List Int} {k : Nat} {m : Int} (hm : ms.getD (k + 1) 0 = m) (h : ndT ms m = true) : nmK ms (k + 1) = nmK ms k ++ [m] := by
  unfold nmK; rw [List.range_succ, List.map_append, List.filter_append]; simp only [List.map_cons, List.map_nil, hm, List.filter_cons, h, List.filter_nil, if_true]
theorem nmK_no {ms : List Int} {k : Nat} {m : Int} (hm : ms.getD (k + 1) 0 = m) (h : ndT ms m = false) : nmK ms (k + 1) = nmK ms k := by
  unfold nmK; rw [List.range_succ, List.map_append, List.filter_append]; simp only [List.map_cons, List.map_nil, hm, List.filter_cons, h, List.filter_nil, Bool.false_eq_true, if_false, List.append_nil]
theorem nmK_len (ms : List Int) (k : Nat) : (nmK ms k).length ≤ k := by
  unfold nmK; exact Nat.le_trans (List.length_filter_le _ _) (by simp)
noncomputable def nmR (ms : List Int) : List Int := if rulB ms = true then nmK ms (ms.length - 2) else []
theorem nmR_len (ms : List Int) (hl : ms.length ≤ 1099511627776) : (nmR ms).length ≤ 1099511627776 := by
  unfold nmR
  split
  · have := nmK_len ms (ms.length - 2); omega
  · simp

set_option maxHeartbeats 8000000 in
set_option maxRecDepth 20000 in
theorem specNeedlessMarks_any (v : Value) (ms : List Int) (w : World) (h : Sp w v ms) (hl : ms.length ≤ 1099511627776) :
    Calls Try.prog 17 #[v] w fun e w' => ∃ u, e = .returned (.tuple #[u, .bool (rulB ms)]) ∧ Ow w' w.heap.size u (nmR ms) ∧ Below w.heap.size w w' := by
  have HS := Lib.hid h.sv
  by_cases hg : rulB ms = true
  · have S := rulB_iff.1 hg
    have HT := Lib.hid S
    have HP := Lib.hid h
    have RG := Lib.hid (ruGood_any v ms w HS.out hl)
    rw [hg] at RG
    have Q := Lib.hid (show nmR ms = nmK ms (ms.length - 2) by simp [nmR, hg])
    rw [hg]
    have hlb := S.last_bd
    have h2 := S.two
    have RD := fun (x : Int) W hW => Lib.hid (ruDrop_any v ms x W hW (by omega))
    have RW := fun W hW => Lib.hid (ruWith_true v ms W hW S)
    obtain ⟨b, off, cap, rfl, hcap, hcm, hbl, hc⟩ := h
    have HC := Lib.hid hc
    obtain ⟨n, hn⟩ : ∃ n, ms.length = n + 2 := ⟨ms.length - 2, by omega⟩
    have HN := Lib.hid hn
    have hn2 : n ≤ 59 := by omega
    have hcap1 : ¬ cap = 1 := by omega
    have hcap0 : ¬ cap - 1 = 0 := by omega
    have hcm : cap ≤ 9223372036854775807 := by unfold maxLen at hcm; exact hcm
    have c1 : (n : Int) + 1 ≤ (cap : Int) := by omega
    have c2 : (1 : Int) ≤ (n : Int) + 1 := by omega
    have c3 : (1 : Int) ≤ (cap : Int) := by omega
    rw [hn, Nat.add_sub_cancel] at Q
    have HP2 := HP
    rw [hn] at RG RD RW HS HP2 ⊢
    clear S hc hlb HP
    go_enter Try.func17, Try.ntmps17
    go_wp2_with fail
    refine RG.out.mono ?_
    rintro e w1 ⟨rfl, b1⟩
    clear RG
    go_wp2
    rw [show n + 2 - 1 - 1 = n by omega]
    go_loopw [4, 16] (fun t i wr => ∃ k : Nat, k ≤ n ∧ i = .int .i64 k ∧ Ow wr w.heap.size t (nmK ms k) ∧ Below w.heap.size w wr) (fun _ i _ => n - (intOf i).toNat)
    case atStart => exact ⟨0, Nat.zero_le _, rfl, World.ownsRow_nil _ _ _ _, b1⟩
    case round =>
      obtain ⟨k, hk, rfl, ho, hb⟩ := hrel
      have hz := hb.size
      have hml := nmK_len ms k
      by_cases hkn : k < n
      · have hcj := (hb.cell (p := ⟨b, off + (1 + k), none⟩) hbl).trans (HC.out (1 + k) (by rw [HN.out]; omega))
        rw [← Nat.add_assoc off] at hcj
        rw [show 1 + k = k + 1 by omega] at hcj
        have DR := HT.out.drop (i := k + 1) (by omega) (by rw [HN.out]; omega)
        obtain ⟨m, em⟩ : ∃ m, ms.getD (k + 1) 0 = m := ⟨_, rfl⟩
        rw [em] at hcj DR
        have DR := Lib.hid DR
        have SY := Lib.hid (nmK_yes em)
        have SN := Lib.hid (nmK_no em)
        clear em
        go_wp2_with fail
        refine (RD m _ (HS.out.below hb (Nat.le_refl _))).out.mono ?_
        rintro e w2 ⟨u2, rfl, o2, b2⟩
        have hb2 := nxt hb b2
        have ho2 := ho.below b2 (Nat.le_refl _)
        clear ho hb
        go_wp2_with fail
        refine (ruWith_true _ _ _ (o2.sp0 (by have := DR.out.two; omega)) DR.out).mono ?_
        rintro e w3 ⟨u3, rfl, o3, b3⟩
        have hb3 := nxt hb2 b3
        have ho3 := ho2.below b3 (Nat.le_refl _)
        clear ho2 hb2 b2 o2
        go_wp2_with fail
        refine (RW _ (HP2.out.below hb3 (Nat.le_refl _))).out.mono ?_
        rintro e w4 ⟨u4, rfl, o4, b4⟩
        have hb4 := nxt hb3 b4
        have ho4 := ho3.below b4 (Nat.le_refl _)
        have o3 := o3.below b4 (Nat.le_refl _)
        clear ho3 hb3 b3 b4
        have L3 := wiK_len (drL ms m) true ((lastM (drL ms m)).toNat + 1)
        have L4 := DR.out.last_bd
        have SM := Lib.hid (l1Same_any _ _ _ _ _ o3.sv o4.sv (by omega))
        rw [show decide (wiK (drL ms m) true ((lastM (drL ms m)).toNat + 1) = wiK ms true ((lastM ms).toNat + 1)) = ndT ms m from rfl] at SM
        clear o3 o4 L3 L4
        go_wp2_with fail
        refine SM.out.mono ?_
        rintro e w5 ⟨rfl, b5⟩
        have hb5 := nxt hb4 b5
        have ho5 := ho4.below b5 (Nat.le_refl _)
        have hz5 := hb5.size
        clear ho4 hb4 b5 SM
        by_cases ht : ndT ms m = true
        · have S2 := Lib.hid (SY.out ht)
          rw [ht]
          go_wp2_with (at_builtin; refine wpList_append_src rfl _ _ rfl w.heap.size _ (nmK ms k) rfl (ho5.alloc _) _ [m] rfl (src_one _ _) (by simp only [List.length_cons, List.length_nil]; omega) (by simp; omega) ?_; intro v' w6 h6 g6)
          have b6 := (hb5.alloc hz5 _).trans ((ho5.alloc _).grown (by simp; omega) g6)
          clear ho5 g6 hb5
          go_roundw
          case rel => exact ⟨k + 1, by omega, by go_num, by rw [S2.out]; exact h6, b6⟩
          case measure => simp only [intOf]; omega
        · have ht : ndT ms m = false := by simpa using ht
          have S2 := Lib.hid (SN.out ht)
          rw [ht]
          go_wp2
          go_roundw
          case rel => exact ⟨k + 1, by omega, by go_num, by rw [S2.out]; exact ho5, hb5⟩
          case measure => simp only [intOf]; omega
      · have hke : k = n := by omega
        subst hke
        go_wp2
        go_ret2
        exact ⟨_, rfl, by rw [Q.out]; exact ho, hb⟩
  · have hg : rulB ms = false := by simpa using hg
    have Q := Lib.hid (show nmR ms = [] by simp [nmR, hg])
    rw [hg]
    have RG := Lib.hid (ruGood_any v ms w HS.out hl)
    rw [hg] at RG
    clear h
    go_enter Try.func17, Try.ntmps17
    go_wp2_with fail
    refine RG.out.mono ?_
    rintro e w1 ⟨rfl, b1⟩
    go_wp2_with fail
    go_ret2
    exact ⟨_, rfl, by rw [Q.out]; exact World.ownsRow_nil _ _ _ _, b1⟩

end Go.Proofs.Ythienikceehcoaa
