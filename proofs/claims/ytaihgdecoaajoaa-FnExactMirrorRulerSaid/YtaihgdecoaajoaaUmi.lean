/-
  MirrorRuler in the program, by its contract. Condition: slices of at most 2^40 numbers.
-/
import Derived.Test.YtaihgdecoaajoaaUbk
import Derived.RangeFuncNested
import Derived.RangeFuncBound
import Derived.RangeFuncCalls
import Derived.StillTailTactics
import Derived.Deep.RegionHeld3
import Derived.Test.YtaihgdecoaajoaaUwi
import Derived.Deep.RegionWith
import Derived.Deep.CutRange
import Derived.Deep.CutBlock
import Derived.Sort.CutIn
namespace Go.Proofs.Ytaihgdecoaajoaa
open Go.RowKit Go.Shelf

attribute [local go_sem] Oper.semAt_some

def mirV (l : Int) (x : Int × Int) : Int := wrap64 (l - x.2)
theorem mir_all {ms : List Int} (S : Rul ms) : (upto (bkF ms) ms.length).map (mirV (lastM ms)) = mrK ms ms.length := by
  have hl := S.last_bd
  unfold mrK upto
  rw [List.map_map]
  apply List.map_congr_left
  intro j hj
  rw [List.mem_range] at hj
  have := S.bd (ms.length - 1 - j) (by omega)
  show wrap64 (lastM ms - (bkF ms j).2) = _
  exact IntWalk.wrap64_in _ (by simp only [bkF]; omega)
theorem kpB_b {n₀ Bs : Nat} {w : World} (hn : n₀ ≤ w.heap.size) (hB : Bs < w.heap.size) (W : World) (l : Nat) (o o' : Obj) (hl : w.heap.size ≤ l) (h : W.heap[l]? = some o) (h1 : o.isCells = false) (h2 : o.isWalk = false) : KpB n₀ Bs W (W.putObj l o') :=
  ⟨belowK_b hn W l o o' hl h h1 h2, (grownBy_putObj' W l o').block Bs (by have := (Array.getElem?_eq_some_iff.1 h).1; omega) (fun e => by have := Option.some.inj e; omega)⟩
theorem wide_of {F : Fence} (h : F = Fence.wide) {n : Nat} {P : Program} {c : Code} {Q : Exit → Act → World → Prop} {a : Act} {w : World} (hc : c.wp P Q a w) : c.wpIn F n P Q a w := by
  subst h
  exact wpIn_wide.2 hc

set_option maxRecDepth 100000 in
set_option maxHeartbeats 8000000 in
theorem mirror_in (F : Fence) (hFw : F = Fence.wide) (n : Nat) (hF : ∀ k, F.fn k) (hro : F.round = none) (hn : 3 ≤ n) (v : Value) (ms : List Int) (w : World) (h : Sp w v ms) (S : Rul ms)
    (hA : ∀ w', Sp w' v ms → CallsIn F (n - 1) Try.prog 22 #[v] w' fun e w2 => e = .returned (.bool true) ∧ Below w'.heap.size w' w2) :
    CallsIn F n Try.prog 37 #[v] w fun e w' => ∃ u, e = .returned (.tuple #[u, .bool true]) ∧ Ow w' w.heap.size u (mrK ms ms.length) ∧ Below w.heap.size w w' := by
  have h1 : 1 ≤ n := by omega
  have hl61 := S.last_bd.2.2
  have h2 := S.two
  have HM := Lib.hid (mir_all S)
  have HFw := Lib.hid hFw
  have RL := fun W (hW : Below w.heap.size w W) => Lib.hid (rulerLength_any v ms W (h.sv.below hW (Nat.le_refl _)) (by omega) (by omega))
  obtain ⟨i0, hi, hz0, hz1, hz2⟩ := info_parts Try.infoI
  obtain ⟨l, el⟩ : ∃ l, lastM ms = l := ⟨_, rfl⟩
  rw [el] at HM RL
  obtain ⟨b, off, cap, rfl, hcap, hcm, hbl, hcl⟩ := id h
  have hb0 : Below w.heap.size w (w.alloc (.cells #[.slice (some ⟨b, off, none⟩) ms.length cap] 22)) := (Below.refl _ w).alloc (Nat.le_refl _) _
  have hA' := hA _ (h.below hb0 (Nat.le_refl _))
  have HCL := Lib.hid hcl
  have hcm : (w.alloc (.cells #[.slice (some ⟨b, off, none⟩) ms.length cap] 22)).cell? ⟨w.heap.size, 0, none⟩ = some (.slice (some ⟨b, off, none⟩) ms.length cap) := (Boxed.new w 22 _).cell
  clear hcl hA S hFw el h
  refine callsIn_of_wp_marks Try.func37 rfl (hF _) ?_ hro
  simp only [Try.ntmps37, List.size_toArray, List.length_cons, List.length_nil, Nat.reduceAdd, Nat.reduceSub, Array.replicate_succ, Array.replicate_zero, List.push_toArray, List.append_toArray, List.nil_append, List.cons_append]
  gi_wp2_with (first
    | (gi_at_call 22; refine hA'.mono ?_; clear hA'; rintro e w1 ⟨rfl, b1⟩; have hlk : w1.cell? ⟨w.heap.size, 0, none⟩ = some (.slice (some ⟨b, off, none⟩) ms.length cap) := (b1.cell (p := ⟨w.heap.size, 0, none⟩) (by simp)).trans hcm; have hlw0 : w.heap.size < w1.heap.size := (by have := b1.size; simp at this; omega); have hne1 : ¬ w.heap.size = w1.heap.size := (by omega); have hne2 : ¬ w.heap.size = w1.heap.size + 1 := (by omega))
    | (gi_at_call 69; refine (backward_in F (n - 1) (hF _) hro _ _ _ _).mono ?_; rintro e w' ⟨rfl, rfl⟩))
  have hbw := hb0.trans (b1.mono (by simp))
  have hz1' := hbw.size
  have hlw : w.heap.size < w1.heap.size := by have := b1.size; simp at this; omega
  obtain ⟨N, hN⟩ : ∃ N, w1.heap.size = N := ⟨_, rfl⟩
  have hbO := Boxed.new (w1.alloc (.cells #[] 3)) 22 (.slice (some ⟨w1.heap.size, 0, none⟩) 0 0)
  have hbS := Boxed.new ((w1.alloc (.cells #[] 3)).alloc (.cells #[.slice (some ⟨w1.heap.size, 0, none⟩) 0 0] 22)) 22 (.slice (some ⟨b, off, none⟩) ms.length cap)
  have hrow0 : World.ownsRow _ _ _ _ _ _ _ := ((ow_empty w1).alloc (.cells #[.slice (some ⟨w1.heap.size, 0, none⟩) 0 0] 22)).alloc (.cells #[.slice (some ⟨b, off, none⟩) ms.length cap] 22)
  have hbO := hbO.alloc (.cells #[.slice (some ⟨b, off, none⟩) ms.length cap] 22)
  have hbl0 : Below w1.heap.size w1 (((w1.alloc (.cells #[] 3)).alloc (.cells #[.slice (some ⟨w1.heap.size, 0, none⟩) 0 0] 22)).alloc (.cells #[.slice (some ⟨b, off, none⟩) ms.length cap] 22)) := (((Below.refl _ _).alloc (Nat.le_refl _) _).alloc (by simp) _).alloc (by simp; omega) _
  have hcs : ∀ j, j < ms.length → (((w1.alloc (.cells #[] 3)).alloc (.cells #[.slice (some ⟨w1.heap.size, 0, none⟩) 0 0] 22)).alloc (.cells #[.slice (some ⟨b, off, none⟩) ms.length cap] 22)).cell? ⟨b, off + j, none⟩ = some (.int .i64 (ms.getD j 0)) := fun j hj => (hbl0.cell (p := ⟨b, off + j, none⟩) (by show b < _; omega)).trans ((hbw.cell (p := ⟨b, off + j, none⟩) hbl).trans (HCL.out j hj))
  simp only [World.size_alloc] at hbO hbS
  have hzl : (((w1.alloc (.cells #[] 3)).alloc (.cells #[.slice (some ⟨w1.heap.size, 0, none⟩) 0 0] 22)).alloc (.cells #[.slice (some ⟨b, off, none⟩) ms.length cap] 22)).heap.size = w1.heap.size + 1 + 1 + 1 := by simp
  obtain ⟨Wl, hWl⟩ : ∃ Wl, (((w1.alloc (.cells #[] 3)).alloc (.cells #[.slice (some ⟨w1.heap.size, 0, none⟩) 0 0] 22)).alloc (.cells #[.slice (some ⟨b, off, none⟩) ms.length cap] 22)) = Wl := ⟨_, rfl⟩
  rw [hWl] at hbO hbS hrow0 hbl0 hcs hzl ⊢
  rw [hN] at hbO hbS hrow0 hbl0 hzl hlw ⊢
  clear hWl b1 hcm hb0
  refine wpIn_rangeFunc_ownG hro h1 (gf := 87) (lb := #[.pointer (some ⟨N + 1 + 1, 0, none⟩)]) rfl (hF _) (enters_of Try.func87 (by kernel_rfl) rfl)
    (back_stops F (n - 1) (hF _) hro (by omega) (N + 1 + 1) N b off cap ms (by omega) Wl (by omega) (by omega) (by omega) hbS.cell hcs) KpB.trans (kpB_b (by omega) (by omega)) (Below.refl _ _) (fun _ => rfl)
    (fun pre W => (∃ v, Boxed W (N + 1) 22 v ∧ W.ownsRow N 3 1 v pre.length (pre.map fun p => Value.int .i64 (mirV l p)) ∧ True) ∧ Boxed W (N + 1 + 1) 22 (.slice (some ⟨b, off, none⟩) ms.length cap) ∧ Below N w1 W)
    (fun _ _ _ => False)
    (OwnFrom.and (Own.from (holdsRow_own N (N + 1) 22 3 1 (fun (pre : List (Int × Int)) => pre.length) (fun (pre : List (Int × Int)) => pre.map fun p => Value.int .i64 (mirV l p)) (fun _ _ => True)) _) (OwnFrom.and (Own.from (boxed_own _ _ _) _) (ownFrom_below (by omega) (by omega))))
    (fun _ _ _ _ _ hs _ _ => hs)
    ⟨⟨_, hbO, hrow0, trivial⟩, hbS, hbl0⟩
    (fun x => { tmps := #[.slice (some ⟨b, off, none⟩) ms.length cap, .pointer (some ⟨w.heap.size, 0, none⟩), .slice none 0 0, .bool false, .pointer (some ⟨N + 1, 0, none⟩), undef, .int .i64 x.2, .slice (some ⟨b, off, none⟩) ms.length cap, .bool true, .bool false, .slice (some ⟨N, 0, none⟩) 0 0, .slice (some ⟨b, off, none⟩) ms.length cap, .func (.func 87) #[] #[.pointer (some ⟨N + 1 + 1, 0, none⟩)], .int .i64 x.1, .int .i64 x.2, undef, undef, undef, undef, undef, undef, undef, undef], defers := [] }) ?assign ?body ?done ?stop
  case assign =>
    intro l x W K hK
    gi_wp2
    exact hK
  case body =>
    rintro l' pre x W ⟨⟨v, hv, hrow, _⟩, hs, hB⟩ hlt
    have HFW := HFw.out
    subst HFW
    have hc := hv.cell
    have hlW : W.cell? ⟨w.heap.size, 0, none⟩ = some (.slice (some ⟨b, off, none⟩) ms.length cap) := (hB.cell (p := ⟨w.heap.size, 0, none⟩) hlw).trans hlk
    have hBz := hB.size
    rw [hN] at hBz
    gi_wp2
    have hvd : Boxed W.drew (N + 1) 22 v := hv
    have hrowd : W.drew.ownsRow N 3 1 v pre.length (pre.map fun p => Value.int .i64 (mirV l p)) := hrow
    have hsd : Boxed W.drew (N + 1 + 1) 22 (.slice (some ⟨b, off, none⟩) ms.length cap) := hs
    have hBzd : N ≤ W.drew.heap.size := hBz
    have hBd : Below N W W.drew := (Below.refl _ _).drew
    have O5 : Ow (W.drew.alloc (.cells #[.int .i64 (mirV l x)] 3)) N v (pre.map (mirV l)) := by
      refine Ow.alloc (w := W.drew) ?_ _
      unfold Ow
      rw [List.length_map, List.map_map]
      exact hrow
    have S0 : W.drew.cell? ⟨w.heap.size, 0, none⟩ = some (.slice (some ⟨b, off, none⟩) ms.length cap) := hlW
    have S5 : (W.drew.alloc (.cells #[.int .i64 (mirV l x)] 3)).cell? ⟨w.heap.size, 0, none⟩ = some (.slice (some ⟨b, off, none⟩) ms.length cap) := ((Below.refl N W.drew).alloc hBzd _).cell (p := ⟨w.heap.size, 0, none⟩) hlw |>.trans S0
    have hcd : W.drew.cell? ⟨N + 1, 0, none⟩ = some v := hc
    have hnl : N + 1 < W.heap.size := block_lt_of_cell hc
    have hne5 : ¬ N + 1 = W.heap.size := by omega
    have hne6 : ¬ N + 1 = W.drew.heap.size := hne5
    have hcd5 : (W.drew.alloc (.cells #[.int .i64 (mirV l x)] 3)).cell? ⟨N + 1, 0, none⟩ = some v := (hvd.alloc _).cell
    have RLd := RL W.drew (hbw.trans ((hB.trans hBd).mono (by omega)))
    have MV : IntKind.i64.wrap (l - x.2) = mirV l x := IntWalk.i64_left _
    refine region_wide (S := fun w' => w'.cell? ⟨w.heap.size, 0, none⟩ = some (.slice (some ⟨b, off, none⟩) ms.length cap)) (by rintro ⟨_, _, h⟩; exact h) (by kernel_rfl) (by intro i o c h; rcases i with _ | _ | _ | _ | _ | _ | _ | _ | i <;> simp at h <;> subst h <;> simp) ?_
    refine wpAnyH_take (i := 1) (v := .slice (some ⟨b, off, none⟩) ms.length cap) rfl (by kernel_rfl) (by kernel_rfl) (by kernel_rfl) (fun _ _ _ h => h) (Or.inl ⟨by rfl, fun w hSw => by (go_simp; try rfl)⟩) S0 ?_
    refine wpAnyH_take (i := 3) (v := .int .i64 x.2) rfl (by kernel_rfl) (by kernel_rfl) (by kernel_rfl) (fun _ _ _ h => h) (Or.inl ⟨by rfl, fun w hSw => by (go_simp; try rfl)⟩) S0 ?_
    refine wpAnyH_ready (rs := [0, 2]) (by kernel_rfl) (by simp) (AllReadyH.cons rfl (fun K hK => ?_) (AllReadyH.cons rfl (fun K hK => ?_) AllReadyH.nil))
    · go_simp
      refine hK.out _ _ S0 (fun _ => ?_)
      clear hK K
      refine wpAnyH_ready (rs := [2]) (by kernel_rfl) (by simp) (AllReadyH.cons rfl (fun K hK => ?_) AllReadyH.nil)
      go_simp
      go_at_call 65
      refine RLd.out.mono ?_
      rintro e w4 ⟨rfl, rfl⟩
      refine hK.out _ _ S0 (fun _ => ?_)
      clear hK K
      refine wpAnyH_take (i := 4) (v := .int .i64 (mirV l x)) rfl (by kernel_rfl) (by kernel_rfl) (by kernel_rfl) (fun _ _ _ h => h) (Or.inl ⟨by rfl, fun w hSw => by (go_simp; try rfl)⟩) S0 ?_
      refine wpAnyH_ready (rs := [5]) (by kernel_rfl) (by simp) (AllReadyH.cons rfl (fun K hK => ?_) AllReadyH.nil)
      go_simp
      refine hK.out _ _ S5 (fun _ => ?_)
      clear hK K
      refine wpAnyH_ready (rs := [6]) (by kernel_rfl) (by simp) (AllReadyH.cons rfl (fun K hK => ?_) AllReadyH.nil)
      refine step_append_src rfl (.tmp 15) (.tmp 20) rfl N v (pre.map (mirV l)) rfl O5 _ [mirV l x] rfl (by exact src_one _ _) (by simp only [List.length_map, List.length_cons, List.length_nil]; omega) (by simp; omega) ?_
      intro v6 w6 h6 g6
      obtain ⟨hv1, hv2, hr2, hk2, hb2⟩ := hvd.appended (by decide) hrowd hBzd (by omega) h6 g6
      have hs3 := (hsd.alloc (.cells #[.int .i64 (mirV l x)] 3)).kept g6 (hsd.not_row (by decide) hrowd)
      have hc1 := hv1.cell
      have hf1 := hv1.frozen
      have S6 : w6.cell? ⟨w.heap.size, 0, none⟩ = some (.slice (some ⟨b, off, none⟩) ms.length cap) := ((((Below.refl N W.drew).alloc hBzd (.cells #[.int .i64 (mirV l x)] 3)).grown g6 (by simp; omega) (fun k e => (World.ownsRow.lt hrowd k e).1)).cell (p := ⟨w.heap.size, 0, none⟩) hlw).trans S0
      have h6L : (pre.map (mirV l) ++ [mirV l x]).length = pre.length + 1 := by simp
      rcases Ow.form h6 with ⟨_, e3⟩ | ⟨g, c6, hv6, _, _⟩
      · rw [e3] at h6L; simp at h6L
      rw [h6L] at hv6
      subst hv6
      refine hK.out _ _ S6 (fun _ => ?_)
      clear hK K
      refine wpAnyH_ready (rs := [7]) (by kernel_rfl) (by simp) (AllReadyH.cons rfl (fun K hK => ?_) AllReadyH.nil)
      go_simp
      refine hK.out _ _ (by exact (((Below.refl N w6).setCell (p := ⟨N + 1, 0, none⟩) (by show N ≤ N + 1; omega) _).cell (p := ⟨w.heap.size, 0, none⟩) hlw).trans S6) (fun _ => ?_)
      clear hK K
      refine wpAnyH_done (by kernel_rfl) ?_ _
      have hs4 := hs3.other (B' := N + 1) (by omega) (.slice (some ⟨g, 0, none⟩) (pre.length + 1) c6)
      exact ⟨((KeepsOthers.drew W).trans hk2).from _, ⟨hBd.trans hb2, hs4.trans hs.symm⟩, ⟨⟨_, hv2, by simpa [Function.comp_def] using hr2, trivial⟩, hs4, hB.trans (hBd.trans hb2)⟩⟩
    · go_simp
      go_at_call 65
      refine RLd.out.mono ?_
      rintro e w4 ⟨rfl, rfl⟩
      refine hK.out _ _ S0 (fun _ => ?_)
      clear hK K
      refine wpAnyH_take (i := 4) (v := .int .i64 (mirV l x)) rfl (by kernel_rfl) (by kernel_rfl) (by kernel_rfl) (fun _ _ _ h => h) (Or.inl ⟨by rfl, fun w hSw => by (go_simp; try rfl)⟩) S0 ?_
      refine wpAnyH_ready (rs := [0, 5]) (by kernel_rfl) (by simp) (AllReadyH.cons rfl (fun K hK => ?_) (AllReadyH.cons rfl (fun K hK => ?_) AllReadyH.nil))
      · go_simp
        refine hK.out _ _ S0 (fun _ => ?_)
        clear hK K
        refine wpAnyH_ready (rs := [5]) (by kernel_rfl) (by simp) (AllReadyH.cons rfl (fun K hK => ?_) AllReadyH.nil)
        go_simp
        refine hK.out _ _ S5 (fun _ => ?_)
        clear hK K
        refine wpAnyH_ready (rs := [6]) (by kernel_rfl) (by simp) (AllReadyH.cons rfl (fun K hK => ?_) AllReadyH.nil)
        refine step_append_src rfl (.tmp 15) (.tmp 20) rfl N v (pre.map (mirV l)) rfl O5 _ [mirV l x] rfl (by exact src_one _ _) (by simp only [List.length_map, List.length_cons, List.length_nil]; omega) (by simp; omega) ?_
        intro v6 w6 h6 g6
        obtain ⟨hv1, hv2, hr2, hk2, hb2⟩ := hvd.appended (by decide) hrowd hBzd (by omega) h6 g6
        have hs3 := (hsd.alloc (.cells #[.int .i64 (mirV l x)] 3)).kept g6 (hsd.not_row (by decide) hrowd)
        have hc1 := hv1.cell
        have hf1 := hv1.frozen
        have S6 : w6.cell? ⟨w.heap.size, 0, none⟩ = some (.slice (some ⟨b, off, none⟩) ms.length cap) := ((((Below.refl N W.drew).alloc hBzd (.cells #[.int .i64 (mirV l x)] 3)).grown g6 (by simp; omega) (fun k e => (World.ownsRow.lt hrowd k e).1)).cell (p := ⟨w.heap.size, 0, none⟩) hlw).trans S0
        have h6L : (pre.map (mirV l) ++ [mirV l x]).length = pre.length + 1 := by simp
        rcases Ow.form h6 with ⟨_, e3⟩ | ⟨g, c6, hv6, _, _⟩
        · rw [e3] at h6L; simp at h6L
        rw [h6L] at hv6
        subst hv6
        refine hK.out _ _ S6 (fun _ => ?_)
        clear hK K
        refine wpAnyH_ready (rs := [7]) (by kernel_rfl) (by simp) (AllReadyH.cons rfl (fun K hK => ?_) AllReadyH.nil)
        go_simp
        refine hK.out _ _ (by exact (((Below.refl N w6).setCell (p := ⟨N + 1, 0, none⟩) (by show N ≤ N + 1; omega) _).cell (p := ⟨w.heap.size, 0, none⟩) hlw).trans S6) (fun _ => ?_)
        clear hK K
        refine wpAnyH_done (by kernel_rfl) ?_ _
        have hs4 := hs3.other (B' := N + 1) (by omega) (.slice (some ⟨g, 0, none⟩) (pre.length + 1) c6)
        exact ⟨((KeepsOthers.drew W).trans hk2).from _, ⟨hBd.trans hb2, hs4.trans hs.symm⟩, ⟨⟨_, hv2, by simpa [Function.comp_def] using hr2, trivial⟩, hs4, hB.trans (hBd.trans hb2)⟩⟩
      · go_simp
        refine hK.out _ _ S5 (fun _ => ?_)
        clear hK K
        refine wpAnyH_ready (rs := [0]) (by kernel_rfl) (by simp) (AllReadyH.cons rfl (fun K hK => ?_) AllReadyH.nil)
        go_simp
        refine hK.out _ _ S5 (fun _ => ?_)
        clear hK K
        refine wpAnyH_ready (rs := [6]) (by kernel_rfl) (by simp) (AllReadyH.cons rfl (fun K hK => ?_) AllReadyH.nil)
        refine step_append_src rfl (.tmp 15) (.tmp 20) rfl N v (pre.map (mirV l)) rfl O5 _ [mirV l x] rfl (by exact src_one _ _) (by simp only [List.length_map, List.length_cons, List.length_nil]; omega) (by simp; omega) ?_
        intro v6 w6 h6 g6
        obtain ⟨hv1, hv2, hr2, hk2, hb2⟩ := hvd.appended (by decide) hrowd hBzd (by omega) h6 g6
        have hs3 := (hsd.alloc (.cells #[.int .i64 (mirV l x)] 3)).kept g6 (hsd.not_row (by decide) hrowd)
        have hc1 := hv1.cell
        have hf1 := hv1.frozen
        have S6 : w6.cell? ⟨w.heap.size, 0, none⟩ = some (.slice (some ⟨b, off, none⟩) ms.length cap) := ((((Below.refl N W.drew).alloc hBzd (.cells #[.int .i64 (mirV l x)] 3)).grown g6 (by simp; omega) (fun k e => (World.ownsRow.lt hrowd k e).1)).cell (p := ⟨w.heap.size, 0, none⟩) hlw).trans S0
        have h6L : (pre.map (mirV l) ++ [mirV l x]).length = pre.length + 1 := by simp
        rcases Ow.form h6 with ⟨_, e3⟩ | ⟨g, c6, hv6, _, _⟩
        · rw [e3] at h6L; simp at h6L
        rw [h6L] at hv6
        subst hv6
        refine hK.out _ _ S6 (fun _ => ?_)
        clear hK K
        refine wpAnyH_ready (rs := [7]) (by kernel_rfl) (by simp) (AllReadyH.cons rfl (fun K hK => ?_) AllReadyH.nil)
        go_simp
        refine hK.out _ _ (by exact (((Below.refl N w6).setCell (p := ⟨N + 1, 0, none⟩) (by show N ≤ N + 1; omega) _).cell (p := ⟨w.heap.size, 0, none⟩) hlw).trans S6) (fun _ => ?_)
        clear hK K
        refine wpAnyH_done (by kernel_rfl) ?_ _
        have hs4 := hs3.other (B' := N + 1) (by omega) (.slice (some ⟨g, 0, none⟩) (pre.length + 1) c6)
        exact ⟨((KeepsOthers.drew W).trans hk2).from _, ⟨hBd.trans hb2, hs4.trans hs.symm⟩, ⟨⟨_, hv2, by simpa [Function.comp_def] using hr2, trivial⟩, hs4, hB.trans (hBd.trans hb2)⟩⟩
  case done =>
    rintro D ys W hD rfl ⟨⟨v, hv, hrow, _⟩, hs, hB⟩ hK
    have hc := hv.cell
    gi_wp2
    refine ⟨by simp, .inl ⟨_, _, rfl, run_takeDeferred hK, ?_⟩⟩
    have ho : Ow (W.putObj D (.deferred none)) N v ((upto (bkF ms) ms.length).map (mirV l)) := by
      have := ownsRow_putObj hrow (.deferred none) hK rfl
      unfold Ow
      rw [List.length_map, List.map_map]
      exact this
    rw [HM.out] at ho
    have hbe : Below w.heap.size w (W.putObj D (.deferred none)) := hbw.trans ((hB.mono (Nat.le_of_lt hlw)).trans (belowK_b (w := Wl) (by omega) W D _ _ hD hK rfl rfl))
    exact ⟨_, (by simp [results, Try.results37, go_sem]), v, rfl, ho.mono (Nat.le_of_lt hlw), hbe⟩
  case stop =>
    rintro D c pre W _ _ h _
    exact h.elim

set_option maxRecDepth 100000 in
set_option maxHeartbeats 4000000 in
theorem implMirrorRuler_any (v : Value) (ms : List Int) (w : World) (h : Sp w v ms) (hl : ms.length ≤ 1099511627776) :
    Calls Try.prog 37 #[v] w fun e w' => ∃ u, e = .returned (.tuple #[u, .bool (rulB ms)]) ∧ Ow w' w.heap.size u (mrR ms) ∧ Below w.heap.size w w' := by
  by_cases hg : rulB ms = true
  · rw [show mrR ms = mrK ms ms.length by simp [mrR, hg], hg]
    refine callsIn_wide.1 (mirror_in Fence.wide rfl 6 (fun _ => trivial) rfl (by omega) v ms w h (rulB_iff.1 hg) fun w' h' => callsIn_wide.2 ((implIsRuler_any v ms w' h' hl).mono ?_))
    rintro e w2 ⟨rfl, hb⟩
    exact ⟨ret_bool hg, hb⟩
  · have hg : rulB ms = false := by simpa using hg
    have HR := Lib.hid (show mrR ms = [] by simp [mrR, hg])
    have HG := Lib.hid hg
    obtain ⟨b, off, cap, rfl, r1, r2, r3, r4⟩ := id h
    have hb0 : Below w.heap.size w (w.alloc (.cells #[.slice (some ⟨b, off, none⟩) ms.length cap] 22)) := (Below.refl _ w).alloc (Nat.le_refl _) _
    have IR := Lib.hid (implIsRuler_any _ ms _ (h.below hb0 (Nat.le_refl _)) hl)
    have z0 := hb0.size
    rw [hg] at IR ⊢
    clear h r1 r2 r3 r4
    go_enter Try.func37, Try.ntmps37
    go_wp2_with fail
    refine IR.out.mono ?_
    rintro e w1 ⟨rfl, b1⟩
    have b1 := hb0.trans (b1.mono z0)
    clear hb0 IR
    go_wp2_with fail
    go_ret2
    exact ⟨_, rfl, by rw [HR.out]; exact ow_nilR _ _, b1⟩
end Go.Proofs.Ytaihgdecoaajoaa
