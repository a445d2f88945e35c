/-
  The sets with one more stamp, in the program, by its contract. Condition: stamps or none, a room of at most 8.
-/
import Derived.Test.YtmllokooceghiaaTow
import Derived.Test.YtmllokooceghiaaTrc
namespace Go.Proofs.Ytmllokooceghiaa
open Go.RowKit

theorem Ows.some {w : World} {B : Nat} {v : Value} {L : List (List Int)} {m : List Int} (h : Ows w B v (L ++ [m])) : v ≠ .slice none 0 0 := by
  rcases h.form with ⟨_, e⟩ | ⟨g, c, rfl, _⟩
  · simp at e
  · simp

theorem wr_small (l : Nat) (h : l ≤ 500) : wrap64 ((l : Int) + 1) = (l : Int) + 1 := IntWalk.wrap64_in _ (by omega)
theorem wr_smallk (l : Nat) (h : l ≤ 500) : IntKind.i64.wrap ((l : Int) + 1) = (l : Int) + 1 := IntWalk.i64_in _ (by omega)
theorem concat2_z (b : Nat) (v1 v2 : Value) (x1 x2 z : List Int) (w : World) (hh : w.heap[b]? = some (.cells #[v1, v2] 22)) (h1 : Src w v1 x1) (h2 : Src w v2 x2)
    (l1 : x1.length ≤ 1048576) (l2 : x2.length ≤ 1048576) (hz : x1 ++ x2 = z) (hne : x1 ++ x2 ≠ []) :
    Calls Try.prog 69 #[.slice (some ⟨b, 0, none⟩) 2 2] w fun e w' => ∃ g c, e = .returned (.slice (some ⟨g, 0, none⟩) z.length c) ∧ OwP w' w.heap.size (.slice (some ⟨g, 0, none⟩) z.length c) z ∧ Below w.heap.size w w' := by
  subst hz
  refine (concat2_pos b v1 v2 x1 x2 w hh h1 h2 l1 l2 hne).mono ?_
  rintro e w' ⟨u, he, ho, hb⟩
  obtain ⟨g, c, rfl, _, _⟩ := ho.lies
  exact ⟨g, c, he, ho, hb⟩

set_option maxHeartbeats 8000000 in
set_option maxRecDepth 20000 in
theorem nextSets_any (b off cap r : Nat) (st : List Int) (w : World) (hS : st = [] ∨ Stm st) (hb : b < w.heap.size) (hc : ∀ j, j < st.length → w.cell? ⟨b, off + j, none⟩ = some (.int .i64 (st.getD j 0))) (r8 : r ≤ 8) :
    Calls Try.prog 65 #[.slice (some ⟨b, off, none⟩) st.length cap, .int .i64 (r : Int)] w fun e w' => ∃ u, e = .returned u ∧ Ows w' w.heap.size u (nxS (rch st r) st) ∧ u ≠ .slice none 0 0 ∧ Below w.heap.size w w' := by
  have hl6 : st.length ≤ 6 := by
    rcases hS with rfl | S
    · simp
    · exact S.six
  have hlb : 0 ≤ lastS st ∧ lastS st ≤ 500 := by
    rcases hS with rfl | S
    · simp [lastS]
    · have := S.last_bd; omega
  obtain ⟨l, el⟩ : ∃ l : Nat, lastS st = l := ⟨(lastS st).toNat, by omega⟩
  obtain ⟨R, eR⟩ : ∃ R, rch st r = R := ⟨_, rfl⟩
  have hR : R ≤ 4000 := by
    rcases hS with rfl | S
    · rw [← eR, rch_nil r r8]; omega
    · have h1 := (rch_spec S r8).1
      have h2 : (r : Int) * lastS st ≤ 8 * 500 := Int.mul_le_mul (by omega) S.last_bd.2 (by have := S.last_bd; omega) (by omega)
      omega
  have RO : ∀ W, Below w.heap.size w W → Hid (Calls Try.prog 58 #[.slice (some ⟨b, off, none⟩) st.length cap, .int .i64 (r : Int)] W fun e w' => e = .returned (.int .i64 (R : Int)) ∧ Below W.heap.size W w') := fun W hB => Lib.hid (by
    rw [← eR]
    exact reachOf_any b off cap r st W hS (Nat.lt_of_lt_of_le hb hB.size) (fun j hj => (hB.cell (p := ⟨b, off + j, none⟩) hb).trans (hc j hj)) r8)
  have SR : Hid (∀ W, Below w.heap.size w W → Src W (.slice (some ⟨b, off, none⟩) st.length cap) st) := Lib.hid fun W hB => .inr ⟨b, off, cap, rfl, Nat.lt_of_lt_of_le hb hB.size, fun j hj => (hB.cell (p := ⟨b, off + j, none⟩) hb).trans (hc j hj)⟩
  obtain ⟨G, hG⟩ : ∃ G : Nat → List Int, G = fun j => st ++ [((l + 1 + j : Nat) : Int)] := ⟨_, rfl⟩
  have HG : Hid (∀ j : Nat, G j = st ++ [(l : Int) + 1 + (j : Int)]) := Lib.hid fun j => by rw [hG]; simp [Int.natCast_add]
  obtain ⟨H, hH⟩ : ∃ H : Nat, H = min (R + 1) 500 := ⟨_, rfl⟩
  have hmin : min ((R : Int) + 1) 500 = (H : Int) := by omega
  obtain ⟨C, hC⟩ : ∃ C : Nat, C = H - l := ⟨_, rfl⟩
  have Q : Hid (nxS R st = (List.range C).map G) := Lib.hid (by unfold nxS; rw [el, hC, hH, hG]; simp)
  rw [eR, Q.out]
  have HL : Hid (st.length ≤ 1048576) := Lib.hid (by omega)
  have ho0 := Ows.empty w (Nat.le_refl _)
  have hb0 : Below w.heap.size w (w.alloc (.cells #[] 22)) := (Below.refl _ _).alloc (Nat.le_refl _) _
  by_cases hn : st.length = 0
  · have hst : st = [] := List.length_eq_zero_iff.1 hn
    have hl0 : l = 0 := by rw [hst] at el; simp [lastS] at el; first | done | omega | exact el.symm
    subst hl0
    have hlz : (st.length : Int) = 0 := by omega
    have HS := Lib.hid hst
    have HLZ := Lib.hid hn
    rw [hn] at RO SR ⊢
    clear hc hS el eR hG hst hn hlz
    go_enter Try.func65, Try.ntmps65
    go_wp2
    go_loopw [6, 7] (fun x i wr => ∃ j : Nat, j ≤ C ∧ i = .int .i64 (((0 : Nat) : Int) + 1 + (j : Int)) ∧ Ows wr w.heap.size x ((List.range j).map G) ∧ x ≠ .slice none 0 0 ∧ Below w.heap.size w wr) (fun _ i _ => C + 0 + 1 - (intOf i).toNat)
    case atStart => exact ⟨0, Nat.zero_le _, by first | go_num | (simp; done) | (simp; exact wr_small l HL5.out), ho0, by simp, hb0⟩
    case round =>
      clear ho0 hb0
      obtain ⟨j, hj, rfl, ho, hne, hb⟩ := hrel
      have hz := hb.size
      have RK := RO wr hb
      by_cases hlt : j < C
      · have hd : decide (((0 : Nat) : Int) + 1 + (j : Int) ≤ (H : Int)) = true := by simp; omega
        have hln : ((List.range j).map G).length = j := by simp
        obtain ⟨L, eL⟩ : ∃ L, (List.range j).map G = L := ⟨_, rfl⟩
        rw [eL] at ho hln
        have EL : Hid (L ++ [G j] = (List.range (j + 1)).map G) := Lib.hid (by rw [List.range_succ, List.map_append, eL, List.map_singleton])
        clear eL
        go_wp2_with (first
          | (go_at_call 58; refine RK.out.mono ?_; rintro e w2 ⟨rfl, b2⟩; have hb2 := nxt hb b2; have ho2 := ho.below b2 (Nat.le_refl _); have z2 := b2.size)
          | (go_at_call 69; refine (concat2_z _ _ _ st [((0 : Nat) : Int) + 1 + (j : Int)] (G j) _ (blk_b w2 _ _) (SR.out _ ((hb2.alloc (by omega) _).alloc (by first | omega | (simp; omega)) _)) ((src_onel w2 _).below ((Below.refl _ _).alloc (Nat.le_refl _) _) (Nat.le_refl _)) HL.out (by simp) (HG.out j).symm (by simp)).mono ?_; rintro e w5 ⟨g5, c5, rfl, o5, b5⟩; have b6 := (((Below.refl w2.heap.size w2).alloc (Nat.le_refl _) _).alloc (by simp) _).trans (b5.mono (by simp; omega)); have z6 := b6.size; clear b5)
          | (at_builtin; refine wpList_append_rowL rfl _ _ rfl w.heap.size _ L rfl ((ho2.below b6 (Nat.le_refl _)).below ((Below.refl _ _).alloc (Nat.le_refl _) _) (Nat.le_refl _)) w5.heap.size _ (G j) rfl (Boxed.new _ _ _).cell (OwP.mono (o5.below ((Below.refl _ _).alloc (Nat.le_refl _) _) (Nat.le_refl _)) (by first | omega | (simp; omega))) (by omega) (by first | omega | (simp; omega)) ?_; intro v7 w7 A7))
        have b8 := (hb2.trans (b6.mono (by omega))).trans (((Below.refl _ w5).alloc (Nat.le_refl _) (.cells #[.slice (some ⟨g5, 0, none⟩) (G j).length c5] 22)).mono (by omega))
        have hb8 := b8.trans A7.bel
        have ho8 := A7.ows
        have hn8 := Ows.some ho8
        rw [EL.out] at ho8
        clear ho hb ho2 hb2 b6 b8 o5 A7
        go_roundw
        case rel => exact ⟨j + 1, by omega, by go_num, ho8, hn8, hb8⟩
        case measure => simp [intOf]; omega
      · obtain rfl : j = C := by omega
        have hd : decide (((0 : Nat) : Int) + 1 + (j : Int) ≤ (H : Int)) = false := by simp; omega
        go_wp2_with (go_at_call 58; refine RK.out.mono ?_; rintro e w2 ⟨rfl, b2⟩)
        go_ret
        exact ⟨_, rfl, ho.below b2 (Nat.le_refl _), hne, nxt hb b2⟩
  · obtain ⟨m, hm⟩ : ∃ m, st.length = m + 1 := ⟨st.length - 1, by omega⟩
    have hcell0 : w.cell? ⟨b, off + m, none⟩ = some (.int .i64 (l : Int)) := by
      have := hc m (by omega)
      rw [this, ← el]; unfold lastS; rw [hm]; rfl
    have HM := Lib.hid hm
    have hm5 : m ≤ 5 := by omega
    have HL5 := Lib.hid (show l ≤ 500 by omega)
    have hdl : decide ((0 : Int) < (m : Int) + 1) = true := by rw [decide_eq_true_eq]; omega
    rw [hm] at RO SR ⊢
    clear hc hS el eR hG hn hm
    go_enter Try.func65, Try.ntmps65
    go_wp2
    go_loopw [6, 7] (fun x i wr => ∃ j : Nat, j ≤ C ∧ i = .int .i64 ((l : Int) + 1 + (j : Int)) ∧ Ows wr w.heap.size x ((List.range j).map G) ∧ x ≠ .slice none 0 0 ∧ Below w.heap.size w wr) (fun _ i _ => C + l + 1 - (intOf i).toNat)
    case atStart => exact ⟨0, Nat.zero_le _, by first | go_num | (simp; done) | (simp; exact wr_small l HL5.out), ho0, by simp, hb0⟩
    case round =>
      clear ho0 hb0
      obtain ⟨j, hj, rfl, ho, hne, hb⟩ := hrel
      have hz := hb.size
      have RK := RO wr hb
      by_cases hlt : j < C
      · have hd : decide ((l : Int) + 1 + (j : Int) ≤ (H : Int)) = true := by simp; omega
        have hln : ((List.range j).map G).length = j := by simp
        obtain ⟨L, eL⟩ : ∃ L, (List.range j).map G = L := ⟨_, rfl⟩
        rw [eL] at ho hln
        have EL : Hid (L ++ [G j] = (List.range (j + 1)).map G) := Lib.hid (by rw [List.range_succ, List.map_append, eL, List.map_singleton])
        clear eL
        go_wp2_with (first
          | (go_at_call 58; refine RK.out.mono ?_; rintro e w2 ⟨rfl, b2⟩; have hb2 := nxt hb b2; have ho2 := ho.below b2 (Nat.le_refl _); have z2 := b2.size)
          | (go_at_call 69; refine (concat2_z _ _ _ st [(l : Int) + 1 + (j : Int)] (G j) _ (blk_b w2 _ _) (SR.out _ ((hb2.alloc (by omega) _).alloc (by first | omega | (simp; omega)) _)) ((src_onel w2 _).below ((Below.refl _ _).alloc (Nat.le_refl _) _) (Nat.le_refl _)) HL.out (by simp) (HG.out j).symm (by simp)).mono ?_; rintro e w5 ⟨g5, c5, rfl, o5, b5⟩; have b6 := (((Below.refl w2.heap.size w2).alloc (Nat.le_refl _) _).alloc (by simp) _).trans (b5.mono (by simp; omega)); have z6 := b6.size; clear b5)
          | (at_builtin; refine wpList_append_rowL rfl _ _ rfl w.heap.size _ L rfl ((ho2.below b6 (Nat.le_refl _)).below ((Below.refl _ _).alloc (Nat.le_refl _) _) (Nat.le_refl _)) w5.heap.size _ (G j) rfl (Boxed.new _ _ _).cell (OwP.mono (o5.below ((Below.refl _ _).alloc (Nat.le_refl _) _) (Nat.le_refl _)) (by first | omega | (simp; omega))) (by omega) (by first | omega | (simp; omega)) ?_; intro v7 w7 A7))
        have b8 := (hb2.trans (b6.mono (by omega))).trans (((Below.refl _ w5).alloc (Nat.le_refl _) (.cells #[.slice (some ⟨g5, 0, none⟩) (G j).length c5] 22)).mono (by omega))
        have hb8 := b8.trans A7.bel
        have ho8 := A7.ows
        have hn8 := Ows.some ho8
        rw [EL.out] at ho8
        clear ho hb ho2 hb2 b6 b8 o5 A7
        go_roundw
        case rel => exact ⟨j + 1, by omega, by go_num, ho8, hn8, hb8⟩
        case measure => simp [intOf]; omega
      · obtain rfl : j = C := by omega
        have hd : decide ((l : Int) + 1 + (j : Int) ≤ (H : Int)) = false := by simp; omega
        go_wp2_with (go_at_call 58; refine RK.out.mono ?_; rintro e w2 ⟨rfl, b2⟩)
        go_ret
        exact ⟨_, rfl, ho.below b2 (Nat.le_refl _), hne, nxt hb b2⟩
end Go.Proofs.Ytmllokooceghiaa
