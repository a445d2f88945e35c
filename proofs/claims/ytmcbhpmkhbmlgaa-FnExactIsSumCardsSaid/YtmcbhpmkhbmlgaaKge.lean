/-
  Cards in the model: the numbers for which answers have at most so many lies, by contract. Condition: there are cards and answers.
-/
import Derived.Test.YtmcbhpmkhbmlgaaKgd
namespace Go.Proofs.Ytmcbhpmkhbmlgaa
open Go.RowKit

theorem ow_nil (w : World) (B : Nat) : Ow w B (.slice none 0 0) [] := World.ownsRow_nil _ _ _ _
theorem anW_low (Ls : List (List Int)) (x : Int) : ∀ j, j < (anW Ls x).length → ((anW Ls x).getD j 0).toNat < 128 := fun j hj => by
  rw [List.getD_eq_getElem?_getD, anW_at (by rw [anW_len] at hj; exact hj)]
  simp only [Option.getD_some]
  split <;> decide
/-- How far the answers of x are from others, and the last card where they differ. -/
theorem far_any (Ls : List (List Int)) (x : Int) (a : List UInt8) (w : World) (hl : Ls.length ≤ 12) (ha : a.length = Ls.length) :
    Calls Try.prog 51 #[.string (bstr (anW Ls x)), .string (bstr a)] w fun e w' => e = .returned (.tuple #[.int .i64 (farN Ls x a), .int .i64 (laK (anW Ls x) a Ls.length)]) ∧ Below w.heap.size w w' := by
  have h := caApart_any (anW Ls x) a w (anW_low Ls x) (by rw [anW_len]; omega) (by rw [anW_len]; omega)
  rw [anW_len] at h
  exact h
theorem card_rows {n : Int} {Ls : List (List Int)} (g : CaG n Ls) : ∀ j, j < Ls.length → (rowL Ls j).length ≤ 1099511627776 := fun j hj => by
  have := g.row hj
  show (Ls.getD j []).length ≤ _
  omega

set_option maxHeartbeats 4000000 in
set_option maxRecDepth 20000 in
theorem caWith_any (n lies : Int) (v : Value) (Ls : List (List Int)) (a : List UInt8) (w : World) (h : Svv w v Ls) (g : CaG n Ls) (ha : a.length = Ls.length) :
    Calls Try.prog 41 #[.agg #[.int .i64 n, v], .string (bstr a), .int .i64 lies] w fun e w' => ∃ u, e = .returned u ∧ Ow w' w.heap.size u (cwK Ls a lies n.toNat) ∧ Below w.heap.size w w' := by
  obtain ⟨p, cap, rfl⟩ := svv_form h
  have hlo := g.lo
  have hhi := g.hi
  have hl12 := g.len
  obtain ⟨m, rfl⟩ : ∃ m : Nat, n = m := ⟨n.toNat, by omega⟩
  have hR := Lib.hid (card_rows g)
  have hA := Lib.hid ha
  obtain ⟨s, es⟩ : ∃ s, bstr a = s := ⟨_, rfl⟩
  have ES := Lib.hid es
  rw [es, Int.toNat_natCast]
  have H := Lib.hid h
  clear h g es ha
  have hb0 : Below w.heap.size w (w.alloc (.cells #[.int .i64 (m : Int), .slice p Ls.length cap] 36)) := (Below.refl _ w).alloc (Nat.le_refl _) _
  go_enter Try.func41, Try.ntmps41
  go_wp2
  go_loopw [7, 8] (fun v i wr => ∃ k : Nat, k ≤ m ∧ i = .int .i64 k ∧ Ow wr (w.heap.size + 1) v (cwK Ls a lies k) ∧ Below w.heap.size w wr ∧ wr.cell? ⟨w.heap.size, 0, none⟩ = some (.int .i64 (m : Int)) ∧ wr.cell? ⟨w.heap.size, 1, none⟩ = some (.slice p Ls.length cap) ∧ w.heap.size < wr.heap.size) (fun _ i _ => m - (intOf i).toNat)
  case atStart => exact ⟨0, Nat.zero_le _, rfl, by rw [cwK_zero]; exact ow_nil _ _, hb0, card_n w m _, card_v w m _, by simp⟩
  case round =>
    clear hb0
    obtain ⟨k, hk, rfl, ho, hb, hc0, hc1, hgt⟩ := hrel
    by_cases hlt : k < m
    · have FA := Lib.hid (caAnswers_any (m : Int) k (.slice p Ls.length cap) Ls wr (H.out.below hb (Nat.le_refl _)) hl12 hR.out)
      have FP := fun W => far_any Ls k a W hl12 hA.out
      rw [ES.out] at FP
      have YES := fun h => cwK_yes (Ls := Ls) (a := a) (lies := lies) (k := k) h
      have NO := fun h => cwK_no (Ls := Ls) (a := a) (lies := lies) (k := k) h
      have hcl := cwK_len Ls a lies k
      obtain ⟨S, eS⟩ : ∃ S, bstr (anW Ls k) = S := ⟨_, rfl⟩
      obtain ⟨q, eq⟩ : ∃ q : Nat, farN Ls k a = q := ⟨_, rfl⟩
      obtain ⟨z, ez⟩ : ∃ z : Int, laK (anW Ls k) a Ls.length = z := ⟨_, rfl⟩
      obtain ⟨L, eL⟩ : ∃ L, cwK Ls a lies k = L := ⟨_, rfl⟩
      rw [eS] at FA FP
      rw [eq] at FP YES NO
      rw [ez] at FP
      rw [eL] at ho YES NO hcl
      have FP : ∀ W, Hid _ := fun W => Lib.hid (FP W)
      clear eS eq ez eL
      by_cases hq : (q : Int) ≤ lies
      · have HN := Lib.hid (YES hq)
        clear YES NO
        go_wp2_with (first
          | (go_at_call 52; refine FA.out.mono ?_; rintro e w1 ⟨rfl, b1⟩; have o1 := ho.below b1 (Nat.le_refl _); have B1 : Below w.heap.size w w1 := nxt hb b1; have c0 := (b1.cell (p := ⟨w.heap.size, 0, none⟩) hgt).trans hc0; have c1 := (b1.cell (p := ⟨w.heap.size, 1, none⟩) hgt).trans hc1; have g1 := Nat.lt_of_lt_of_le hgt b1.size; clear ho hb hc0 hc1 hgt b1)
          | (go_at_call 51; refine (FP _).out.mono ?_; rintro e w2 ⟨rfl, b2⟩; have o2 := o1.below b2 (Nat.le_refl _); have B2 : Below w.heap.size w w2 := nxt B1 b2; have d0 := (b2.cell (p := ⟨w.heap.size, 0, none⟩) g1).trans c0; have d1 := (b2.cell (p := ⟨w.heap.size, 1, none⟩) g1).trans c1; have g2 := Nat.lt_of_lt_of_le g1 b2.size; clear o1 B1 c0 c1 g1 b2)
          | (at_builtin; refine wpList_append_src rfl _ _ rfl (w.heap.size + 1) _ L rfl (o2.alloc _) _ [(k : Int)] rfl (src_one _ _) (by simp only [List.length_cons, List.length_nil]; omega) (by simp; omega) ?_; intro v' w3 h3 g3))
        have bg := (o2.alloc _).grown (by simp; omega) g3
        have b3 := (B2.alloc (Nat.le_of_lt g2) _).trans (bg.mono (Nat.le_succ _))
        have ba : Below w2.heap.size w2 (w2.alloc (.cells #[.int .i64 (k : Int)] 3)) := (Below.refl _ _).alloc (Nat.le_refl _) _
        have d0 := (bg.cell (p := ⟨w.heap.size, 0, none⟩) (Nat.lt_succ_self _)).trans ((ba.cell (p := ⟨w.heap.size, 0, none⟩) g2).trans d0)
        have d1 := (bg.cell (p := ⟨w.heap.size, 1, none⟩) (Nat.lt_succ_self _)).trans ((ba.cell (p := ⟨w.heap.size, 1, none⟩) g2).trans d1)
        have z3 := Nat.lt_of_lt_of_le g2 (Nat.le_trans ba.size bg.size)
        clear o2 g3 B2 bg ba g2
        go_roundw
        case rel => exact ⟨k + 1, by omega, by go_num, by rw [HN.out]; exact h3, b3, d0, d1, z3⟩
        case measure => simp only [intOf]; omega
      · have HN := Lib.hid (NO hq)
        clear YES NO
        go_wp2_with (first
          | (go_at_call 52; refine FA.out.mono ?_; rintro e w1 ⟨rfl, b1⟩; have o1 := ho.below b1 (Nat.le_refl _); have B1 : Below w.heap.size w w1 := nxt hb b1; have c0 := (b1.cell (p := ⟨w.heap.size, 0, none⟩) hgt).trans hc0; have c1 := (b1.cell (p := ⟨w.heap.size, 1, none⟩) hgt).trans hc1; have g1 := Nat.lt_of_lt_of_le hgt b1.size; clear ho hb hc0 hc1 hgt b1)
          | (go_at_call 51; refine (FP _).out.mono ?_; rintro e w2 ⟨rfl, b2⟩; have o2 := o1.below b2 (Nat.le_refl _); have B2 : Below w.heap.size w w2 := nxt B1 b2; have d0 := (b2.cell (p := ⟨w.heap.size, 0, none⟩) g1).trans c0; have d1 := (b2.cell (p := ⟨w.heap.size, 1, none⟩) g1).trans c1; have g2 := Nat.lt_of_lt_of_le g1 b2.size; clear o1 B1 c0 c1 g1 b2))
        go_roundw
        case rel => exact ⟨k + 1, by omega, by go_num, by rw [HN.out]; exact o2, B2, d0, d1, g2⟩
        case measure => simp only [intOf]; omega
    · have hke : k = m := by omega
      subst hke
      go_wp2
      go_ret
      exact ⟨_, rfl, ho.mono (Nat.le_succ _), hb⟩

end Go.Proofs.Ytmcbhpmkhbmlgaa
