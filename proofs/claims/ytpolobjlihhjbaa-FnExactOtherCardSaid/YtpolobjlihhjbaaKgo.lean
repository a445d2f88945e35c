/-
  NeedlessCards in the model, by contract. No condition but lengths that fit int.
-/
import Derived.Test.YtpolobjlihhjbaaKgn
import Derived.Test.YtpolobjlihhjbaaKgh
import Derived.Test.YtpolobjlihhjbaaKgf
namespace Go.Proofs.Ytpolobjlihhjbaa
open Go.RowKit

theorem erase_getD {Ls : List (List Int)} {k j : Nat} : (Ls.eraseIdx k).getD j [] = if j < k then Ls.getD j [] else Ls.getD (j + 1) [] := by
  simp only [List.getD_eq_getElem?_getD, List.getElem?_eraseIdx]
  split <;> rfl
theorem CaG.erase {n : Int} {Ls : List (List Int)} (g : CaG n Ls) (k : Nat) : CaG n (Ls.eraseIdx k) := by
  by_cases hk : k < Ls.length
  · have e : (Ls.eraseIdx k).length = Ls.length - 1 := List.length_eraseIdx_of_lt hk
    have hl := g.len
    refine ⟨g.lo, g.hi, by omega, fun j hj => ?_⟩
    rw [erase_getD]
    split
    · exact g.ris j (by omega)
    · exact g.ris (j + 1) (by omega)
  · rw [List.eraseIdx_of_length_le (by omega)]; exact g
/-- The cards among the first j without each of which cards tell all. -/
def ndK (Ls : List (List Int)) (m : Nat) : Nat → List Int
  | 0 => []
  | j + 1 => if 0 < lsX (Ls.eraseIdx j) m then ndK Ls m j ++ [(j : Int)] else ndK Ls m j
theorem ndK_len (Ls : List (List Int)) (m : Nat) : ∀ j, (ndK Ls m j).length ≤ j := by
  intro j
  induction j with
  | zero => simp [ndK]
  | succ j ih =>
    simp only [ndK]
    split
    · rw [List.length_append, List.length_singleton]; omega
    · omega
theorem ndK_yes {Ls : List (List Int)} {m j : Nat} (h : 0 < lsX (Ls.eraseIdx j) m) : ndK Ls m (j + 1) = ndK Ls m j ++ [(j : Int)] := by simp only [ndK]; rw [if_pos h]
theorem ndK_no {Ls : List (List Int)} {m j : Nat} (h : ¬ 0 < lsX (Ls.eraseIdx j) m) : ndK Ls m (j + 1) = ndK Ls m j := by simp only [ndK]; rw [if_neg h]
noncomputable def ndR (n : Int) (Ls : List (List Int)) : List Int := if caB n Ls = true then ndK Ls n.toNat Ls.length else []
theorem ndR_len (n : Int) (Ls : List (List Int)) : (ndR n Ls).length ≤ 1099511627776 := by
  unfold ndR
  split
  · rename_i h
    have := (caB_iff.1 h).len
    have := ndK_len Ls n.toNat Ls.length
    omega
  · simp

set_option maxHeartbeats 4000000 in
set_option maxRecDepth 20000 in
theorem specNeedlessCards_any (n : Int) (v : Value) (Ls : List (List Int)) (w : World) (h : SrcL w v Ls) (hl : Ls.length ≤ 1099511627776) (hx : ∀ j, j < Ls.length → (rowL Ls j).length ≤ 1099511627776) :
    Calls Try.prog 55 #[.agg #[.int .i64 n, v]] w fun e w' => ∃ u, e = .returned (.tuple #[u, .bool (caB n Ls)]) ∧ Ow w' w.heap.size u (ndR n Ls) ∧ Below w.heap.size w w' := by
  obtain ⟨p, cap, rfl⟩ := svv_form h.svv
  have hb0 : Below w.heap.size w (w.alloc (.cells #[.int .i64 n, .slice p Ls.length cap] 27)) := (Below.refl _ w).alloc (Nat.le_refl _) _
  have CG := caGood_any n _ Ls _ (h.svv.below hb0 (Nat.le_refl _)) hl hx
  have hz : w.heap.size < (w.alloc (.cells #[.int .i64 n, .slice p Ls.length cap] 27)).heap.size := by simp
  have k0 := card_n w n (.slice p Ls.length cap)
  have k1 := card_v w n (.slice p Ls.length cap)
  have H := Lib.hid h
  clear h hx
  cases hg : caB n Ls with
  | false =>
    rw [hg] at CG
    have CG := Lib.hid CG
    have AT : Hid (ndR n Ls = []) := Lib.hid (by unfold ndR; rw [hg]; rfl)
    clear hg k0 k1
    go_enter Try.func55, Try.ntmps55
    go_wp2_with (go_at_call 64; refine CG.out.mono ?_; rintro e w1 ⟨rfl, b1⟩; have B1 := nxt hb0 b1)
    go_ret2
    exact ⟨_, rfl, by rw [AT.out]; exact ow_nil _ _, B1⟩
  | true =>
    rw [hg] at CG
    have CG := Lib.hid CG
    have G := Lib.hid (caB_iff.1 hg)
    have hl12 := G.out.len
    have AT : Hid (ndR n Ls = ndK Ls n.toNat Ls.length) := Lib.hid (by unfold ndR; rw [hg]; rfl)
    have K0 := Lib.hid k0
    have K1 := Lib.hid k1
    clear hg k0 k1
    go_enter Try.func55, Try.ntmps55
    go_wp2_with (go_at_call 64; refine CG.out.mono ?_; rintro e w1 ⟨rfl, b1⟩; have B1 := nxt hb0 b1; have c0 := (b1.cell (p := ⟨w.heap.size, 0, none⟩) hz).trans K0.out; have c1 := (b1.cell (p := ⟨w.heap.size, 1, none⟩) hz).trans K1.out; have z1 := Nat.lt_of_lt_of_le hz b1.size; clear b1)
    go_loopw [4, 12] (fun v i wr => ∃ k : Nat, k ≤ Ls.length ∧ i = .int .i64 k ∧ Ow wr (w.heap.size + 1) v (ndK Ls n.toNat k) ∧ Below w.heap.size w wr ∧ wr.cell? ⟨w.heap.size, 0, none⟩ = some (.int .i64 n) ∧ wr.cell? ⟨w.heap.size, 1, none⟩ = some (.slice p Ls.length cap) ∧ w.heap.size < wr.heap.size) (fun _ i _ => Ls.length - (intOf i).toNat)
    case atStart => exact ⟨0, Nat.zero_le _, rfl, ow_nil _ _, B1, c0, c1, z1⟩
    case round =>
      clear B1 c0 c1 z1 hb0 hz
      obtain ⟨k, hk, rfl, ho, hb, hc0, hc1, hgt⟩ := hrel
      by_cases hlt : k < Ls.length
      · have FA := Lib.hid (caOwn_any n k (.slice p Ls.length cap) Ls wr (H.out.below hb (Nat.le_refl _)) G.out)
        rw [owK_erase] at FA
        have FL := Lib.hid (fun (u : Value) W hs => caLeast_any n u (Ls.eraseIdx k) W hs (G.out.erase k))
        have YES := fun h => ndK_yes (Ls := Ls) (m := n.toNat) (j := k) h
        have NO := fun h => ndK_no (Ls := Ls) (m := n.toNat) (j := k) h
        have hcl := ndK_len Ls n.toNat k
        obtain ⟨E, eE⟩ : ∃ E, Ls.eraseIdx k = E := ⟨_, rfl⟩
        rw [eE] at FA FL YES NO
        obtain ⟨z, ez⟩ : ∃ z : Int, lsX E n.toNat = z := ⟨_, rfl⟩
        obtain ⟨L, eL⟩ : ∃ L, ndK Ls n.toNat k = L := ⟨_, rfl⟩
        rw [ez] at FL YES NO
        rw [eL] at ho YES NO hcl
        clear eE ez eL
        by_cases hq : 0 < z
        · have HN := Lib.hid (YES hq)
          clear YES NO
          go_wp2_with (first
            | (go_at_call 92; refine FA.out.mono ?_; rintro e w1 ⟨u, rfl, oa, b1⟩; have oa := oa.svv; have o1 := ho.below b1 (Nat.le_refl _); have B1 : Below w.heap.size w w1 := nxt hb b1; have c0 := (b1.cell (p := ⟨w.heap.size, 0, none⟩) hgt).trans hc0; have c1 := (b1.cell (p := ⟨w.heap.size, 1, none⟩) hgt).trans hc1; have g1 := Nat.lt_of_lt_of_le hgt b1.size; clear ho hb hc0 hc1 hgt b1)
            | (go_at_call 81; refine (FL.out _ _ oa).mono ?_; rintro e w2 ⟨rfl, b2⟩; have o2 := o1.below b2 (Nat.le_refl _); have B2 : Below w.heap.size w w2 := nxt B1 b2; have d0 := (b2.cell (p := ⟨w.heap.size, 0, none⟩) g1).trans c0; have d1 := (b2.cell (p := ⟨w.heap.size, 1, none⟩) g1).trans c1; have g2 := Nat.lt_of_lt_of_le g1 b2.size; clear oa o1 B1 c0 c1 g1 b2)
            | (at_builtin; refine wpList_append_src rfl _ _ rfl (w.heap.size + 1) _ L rfl (o2.alloc _) _ [(k : Int)] rfl (src_one _ _) (by simp only [List.length_cons, List.length_nil]; omega) (by simp; omega) ?_; intro v' w3 h3 g3))
          have bg := (o2.alloc _).grown (by simp; omega) g3
          have b3 := (B2.alloc (Nat.le_of_lt g2) _).trans (bg.mono (Nat.le_succ _))
          have ba : Below w2.heap.size w2 (w2.alloc (.cells #[.int .i64 (k : Int)] 3)) := (Below.refl _ _).alloc (Nat.le_refl _) _
          have d0 := (bg.cell (p := ⟨w.heap.size, 0, none⟩) (Nat.lt_succ_self _)).trans ((ba.cell (p := ⟨w.heap.size, 0, none⟩) g2).trans d0)
          have d1 := (bg.cell (p := ⟨w.heap.size, 1, none⟩) (Nat.lt_succ_self _)).trans ((ba.cell (p := ⟨w.heap.size, 1, none⟩) g2).trans d1)
          have z3 := Nat.lt_of_lt_of_le g2 (Nat.le_trans ba.size bg.size)
          clear o2 g3 B2 bg ba g2
          go_roundw
          case rel => exact ⟨k + 1, by omega, by go_num, by rw [HN.out]; exact h3, b3, d0, d1, z3⟩
          case measure => simp only [intOf]; omega
        · have HN := Lib.hid (NO hq)
          clear YES NO
          go_wp2_with (first
            | (go_at_call 92; refine FA.out.mono ?_; rintro e w1 ⟨u, rfl, oa, b1⟩; have oa := oa.svv; have o1 := ho.below b1 (Nat.le_refl _); have B1 : Below w.heap.size w w1 := nxt hb b1; have c0 := (b1.cell (p := ⟨w.heap.size, 0, none⟩) hgt).trans hc0; have c1 := (b1.cell (p := ⟨w.heap.size, 1, none⟩) hgt).trans hc1; have g1 := Nat.lt_of_lt_of_le hgt b1.size; clear ho hb hc0 hc1 hgt b1)
            | (go_at_call 81; refine (FL.out _ _ oa).mono ?_; rintro e w2 ⟨rfl, b2⟩; have o2 := o1.below b2 (Nat.le_refl _); have B2 : Below w.heap.size w w2 := nxt B1 b2; have d0 := (b2.cell (p := ⟨w.heap.size, 0, none⟩) g1).trans c0; have d1 := (b2.cell (p := ⟨w.heap.size, 1, none⟩) g1).trans c1; have g2 := Nat.lt_of_lt_of_le g1 b2.size; clear oa o1 B1 c0 c1 g1 b2))
          go_roundw
          case rel => exact ⟨k + 1, by omega, by go_num, by rw [HN.out]; exact o2, B2, d0, d1, g2⟩
          case measure => simp only [intOf]; omega
      · have hke : k = Ls.length := by omega
        subst hke
        go_wp2
        go_ret2
        exact ⟨_, rfl, by rw [AT.out]; exact ho.mono (Nat.le_succ _), hb⟩
end Go.Proofs.Ytpolobjlihhjbaa
