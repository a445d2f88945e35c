/-
  All sums of pieces, increasing, in the model, by its contract. Conditions: pieces.
-/
import Derived.Test.YtnbbfpanidmpgaaWaysc
import Derived.Test.YtnbbfpanidmpgaaPutd
namespace Go.Proofs.Ytnbbfpanidmpgaa
open Go.RowKit

def selTo (P : Nat → Bool) : Nat → List Int
  | 0 => []
  | k + 1 => selTo P k ++ (if P k = true then [(k : Int)] else [])
theorem selTo_yes {P : Nat → Bool} {k : Nat} (h : P k = true) : selTo P (k + 1) = selTo P k ++ [(k : Int)] := by rw [selTo, if_pos h]
theorem selTo_no {P : Nat → Bool} {k : Nat} (h : P k = false) : selTo P (k + 1) = selTo P k := by rw [selTo, if_neg (by simp [h]), List.append_nil]
theorem selTo_len (P : Nat → Bool) : ∀ k, (selTo P k).length ≤ k := by
  intro k
  induction k with
  | zero => simp [selTo]
  | succ k ih => simp only [selTo, List.length_append]; split <;> simp <;> omega
theorem selTo_mono (P : Nat → Bool) (k : Nat) : ∀ d, (selTo P k).length ≤ (selTo P (k + d)).length := by
  intro d
  induction d with
  | zero => exact Nat.le_refl _
  | succ d ih =>
    rw [show k + (d + 1) = (k + d) + 1 by omega]
    simp only [selTo, List.length_append]
    omega
def isS (xs : List Int) (j : Nat) : Bool := !(Wy xs j == 0)
def isG (xs : List Int) (j : Nat) : Bool := Wy xs j == 0
theorem isS_no {xs : List Int} {j : Nat} (h : Wy xs j = 0) : isS xs j = false := by simp [isS, h]
theorem isS_yes {xs : List Int} {j : Nat} (h : ¬ Wy xs j = 0) : isS xs j = true := by simpa [isS] using h
theorem isG_no {xs : List Int} {j : Nat} (h : ¬ Wy xs j = 0) : isG xs j = false := by simpa [isG] using h
theorem isG_yes {xs : List Int} {j : Nat} (h : Wy xs j = 0) : isG xs j = true := by simp [isG, h]

set_option maxHeartbeats 4000000 in
theorem piSums_any (v : Value) (xs : List Int) (w : World) (h : Sv w v xs) (hg : Good xs) :
    Calls Try.prog 88 #[v] w fun e w' => ∃ u, e = .returned u ∧ Ow w' w.heap.size u (selTo (isS xs) (top xs + 1)) ∧ Below w.heap.size w w' := by
  obtain ⟨htop, htop2⟩ := hg.top
  have HL := Lib.hid (waysList_len xs)
  have HTOP := Lib.hid htop
  clear htop
  go_enter Try.func88, Try.ntmps88
  go_wp2_with fail
  refine (piWays_any _ _ _ h hg).mono ?_
  rintro e w1 ⟨u, rfl, o1, a1, b1⟩
  obtain ⟨p, cap, rfl, hx⟩ := o1.sv
  rw [HL.out] at hx ⊢
  obtain ⟨T, eT⟩ : ∃ T, T = top xs := ⟨_, rfl⟩
  have HT := Lib.hid eT
  rw [← eT] at hx htop2 ⊢
  obtain ⟨b, off, rfl, hbl, hc⟩ := hx (by omega)
  have HC := Lib.hid hc
  clear hc hx a1 o1 eT
  have z1 := b1.size
  go_wp2
  go_loopw [3, 9] (fun a i wr => ∃ k : Nat, k ≤ T + 1 ∧ i = .int .i64 k ∧ Ow wr w1.heap.size a (selTo (isS xs) k) ∧ Below w1.heap.size w1 wr) (fun _ i _ => T + 1 - (intOf i).toNat)
  case atStart => exact ⟨0, by omega, rfl, World.ownsRow_nil _ _ _ _, Below.refl _ _⟩
  case round =>
    obtain ⟨k, hk, rfl, ho, hb⟩ := hrel
    have hz := hb.size
    by_cases hlt : k < T + 1
    · have hcell := (hb.cell (p := ⟨b, off + k, none⟩) hbl).trans (HC.out k hlt)
      rw [waysList_at xs k (by rw [← HT.out]; exact hlt)] at hcell
      have hsl := selTo_len (isS xs) k
      have hnn := (Wy_bd xs k).1
      by_cases hzero : Wy xs k = 0
      · have S := Lib.hid (selTo_no (isS_no hzero))
        rw [hzero] at hcell
        clear hzero hnn
        go_wp2
        go_roundw
        case rel => exact ⟨k + 1, by omega, by go_num, by rw [S.out]; exact ho, hb⟩
        case measure => simp only [intOf]; omega
      · have S := Lib.hid (selTo_yes (isS_yes hzero))
        obtain ⟨a, ea⟩ : ∃ a, Wy xs k = a := ⟨_, rfl⟩
        rw [ea] at hcell hnn hzero
        have ha : 0 < a := by omega
        clear hzero hnn ea
        go_wp2_with (at_builtin; refine wpList_append_src rfl _ _ rfl w1.heap.size _ (selTo (isS xs) k) rfl (ho.alloc _) _ [(k : Int)] rfl (src_one _ _) (by simp only [List.length_cons, List.length_nil]; omega) (by simp; omega) ?_; intro v' w3 h3 g3)
        have b3 := (hb.alloc hz _).trans ((ho.alloc _).grown (by simp; omega) g3)
        clear ho g3 hcell hb
        go_roundw
        case rel => exact ⟨k + 1, by omega, by go_num, by rw [S.out]; exact h3, b3⟩
        case measure => simp only [intOf]; omega
    · have hkT : k = T + 1 := by omega
      subst hkT
      go_wp2
      go_ret
      exact ⟨_, rfl, by rw [← HT.out]; exact ho.mono z1, nxt b1 hb⟩


end Go.Proofs.Ytnbbfpanidmpgaa
