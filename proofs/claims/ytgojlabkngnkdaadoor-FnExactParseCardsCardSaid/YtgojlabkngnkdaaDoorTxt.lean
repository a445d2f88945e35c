/-
  Decimal numerals in the model: the model's digits are Lib.decDigits. Condition: numbers below 2^40.
-/
import Derived.Test.YtgojlabkngnkdaaDoorGood
import Derived.Lib.ItoaNum
import Derived.Laws.BytesArg
import Derived.Deep.RegionWith
import Derived.BigRegion
import Derived.IntWalk
namespace Go.Proofs.YtgojlabkngnkdaaDoor
open Go.RowKit

def bstr (l : List UInt8) : ByteArray := ⟨l.toArray⟩
theorem bstr_app (x y : List UInt8) : bstr x ++ bstr y = bstr (x ++ y) := ByteArray.mk_append_mk x y
theorem bstr_size (x : List UInt8) : (bstr x).size = x.length := by simp [bstr, ByteArray.size]
theorem ret_str {a b : ByteArray} (h : a = b) : Ending.returned (.string a) = .returned (.string b) := by rw [h]

/-- string of one fresh byte -/
theorem conv_digit (w : World) (d : Int) : (convert 86 9 (.slice (some ⟨w.heap.size, 0, none⟩) 1 1)).run Tryd.prog (w.alloc (.cells #[.int .u8 d] 5))
    = .ok (.string (bstr [UInt8.ofNat d.toNat])) (w.alloc (.cells #[.int .u8 d] 5)) := by
  have h := run_convert_bytes_arg (P := Tryd.prog) (w.alloc (.cells #[.int .u8 d] 5)) 86 5 Tryd.underlying86 Tryd.underlying5 w.heap.size 0 1 1 [d] rfl
    (fun i hi => by
      have : i = 0 := by omega
      subst this
      rw [World.cell?_alloc_at _ _ _ _ rfl]; rfl) 9 Tryd.underlying9
  exact h

/-- .. that lies in any world -/
theorem conv_at (w : World) (b : Nat) (d : Int) (h : w.cell? ⟨b, 0, none⟩ = some (.int .u8 d)) : (convert 86 9 (.slice (some ⟨b, 0, none⟩) 1 1)).run Tryd.prog w = .ok (.string (bstr [UInt8.ofNat d.toNat])) w := by
  have h := run_convert_bytes_arg (P := Tryd.prog) w 86 5 Tryd.underlying86 Tryd.underlying5 b 0 1 1 [d] rfl
    (fun i hi => by
      have : i = 0 := by omega
      subst this
      rw [h]; rfl) 9 Tryd.underlying9
  exact h

theorem digits_le : ∀ n : Nat, (Lib.decDigits n).length ≤ n + 1 := by
  intro n
  induction n using Nat.strongRecOn with
  | ind n ih =>
    by_cases h : n < 10
    · rw [Lib.decDigits_one h]; simp
    · rw [Lib.decDigits, dif_neg h]
      have := ih (n / 10) (by omega)
      simp only [List.length_append, List.length_singleton]
      omega
theorem digits_small {n : Nat} (h : n < 10) : bstr [UInt8.ofNat (48 + n)] = bstr (Lib.decDigits n) := by rw [Lib.decDigits_one h]
theorem digits_big {n : Nat} (h : ¬ n < 10) : bstr (Lib.decDigits (n / 10)) ++ bstr [UInt8.ofNat (48 + n % 10)] = bstr (Lib.decDigits n) := by
  rw [bstr_app, Lib.decDigits.eq_1 n, dif_neg h]

theorem cell_alloc_below {w w1 : World} {x : Value} {t : TypeId} (b : Below ((w.alloc (.cells #[x] t)).drew).heap.size ((w.alloc (.cells #[x] t)).drew) w1) : w1.cell? ⟨w.heap.size, 0, none⟩ = some x := by
  rw [b.cell (by simp)]
  simp

set_option maxHeartbeats 1000000 in
set_option maxRecDepth 100000 in
theorem l1Num_small (n : Nat) (w : World) (hn : n < 10) :
    Calls Tryd.prog 54 #[.int .i64 n] w fun e w' => e = .returned (.string (bstr (Lib.decDigits n))) ∧ Below w.heap.size w w' := by
  have hcv := conv_digit w (48 + n)
  go_enter Tryd.func54, Tryd.ntmps54
  go_wp2
  go_ret
  exact ⟨ret_str (digits_small hn), (Below.refl _ _).alloc (Nat.le_refl _) _⟩

set_option maxHeartbeats 1000000 in
set_option maxRecDepth 100000 in
theorem l1Num_step (n q r : Int) (S C : ByteArray) (w : World) (h10 : 10 ≤ n) (hm : n ≤ 1099511627776) (hq : n.tdiv 10 = q) (hr : n.tmod 10 = r) (hq0 : 0 ≤ q) (hq1 : q ≤ 1099511627776) (hr0 : 0 ≤ r) (hr1 : r ≤ 9) (hS : ¬ S.size + C.size > 9223372036854775807)
    (hC : ∀ (w : World) (b : Nat), w.cell? ⟨b, 0, none⟩ = some (.int .u8 (48 + r)) → (convert 86 9 (.slice (some ⟨b, 0, none⟩) 1 1)).run Tryd.prog w = .ok (.string C) w)
    (ih : ∀ w : World, Calls Tryd.prog 54 #[.int .i64 q] w fun e w' => e = .returned (.string S) ∧ Below w.heap.size w w') :
    Calls Tryd.prog 54 #[.int .i64 n] w fun e w' => e = .returned (.string (S ++ C)) ∧ Below w.heap.size w w' := by
  have hcA := hC (w.alloc (.cells #[.int .u8 (48 + r)] 5)).drew w.heap.size (by simp)
  have hcB : ∀ w : World, (convert 86 9 (.slice (some ⟨w.heap.size, 0, none⟩) 1 1)).run Tryd.prog (w.alloc (.cells #[.int .u8 (48 + r)] 5)) = .ok (.string C) (w.alloc (.cells #[.int .u8 (48 + r)] 5)) := fun w => hC _ _ (by simp)
  have HC := Lib.hid hC
  clear hC
  have hw1 : IntKind.i64.wrap q = q := IntWalk.i64_in _ (by omega)
  have hw2 : IntKind.i64.wrap (48 + r) = 48 + r := IntWalk.i64_in _ (by omega)
  have hw3 : IntKind.u8.wrap (48 + r) = 48 + r := by rw [IntKind.wrap_u8]; omega
  have IH : ∀ w, Hid (Calls Tryd.prog 54 #[.int .i64 q] w fun e w' => e = .returned (.string S) ∧ Below w.heap.size w w') := fun w => Lib.hid (ih w)
  clear ih
  go_enter Tryd.func54, Tryd.ntmps54
  go_wp2
  go_region_with (go_at_call 54; go_must (refine ((IH _).out).mono ?_; rintro e w1 ⟨rfl, b1⟩; have B1 : Below w.heap.size w w1 := (by first | exact (Below.refl _ w).drew.trans b1 | exact (((Below.refl _ w).alloc (Nat.le_refl _) _).drew).trans (b1.mono (by simp))); have Z1 := B1.size; (first | (have hcC := HC.out w1 w.heap.size (cell_alloc_below b1)) | skip)))
  all_goals
    go_wp2
    go_ret
    exact ⟨rfl, by first | exact B1 | exact B1.alloc Z1 _⟩

theorem l1Num_any (n : Nat) : ∀ (w : World) (_ : n ≤ 1099511627776),
    Calls Tryd.prog 54 #[.int .i64 n] w fun e w' => e = .returned (.string (bstr (Lib.decDigits n))) ∧ Below w.heap.size w w' := by
  induction n using Nat.strongRecOn with
  | ind n ih =>
    intro w hm
    by_cases hn : n < 10
    · exact l1Num_small n w hn
    · have hs := digits_le (n / 10)
      rw [← digits_big hn]
      refine l1Num_step n (n / 10 : Nat) (n % 10 : Nat) _ _ w (by omega) (by omega) ?_ ?_ (by omega) (by omega) (by omega) (by omega) ?_ (fun w b hb => ?_) (fun w => ih (n / 10) (by omega) w (by omega))
      · rw [Int.tdiv_eq_ediv_of_nonneg (by omega)]; omega
      · rw [Int.tmod_eq_emod_of_nonneg (by omega)]; omega
      · rw [bstr_size, bstr_size]; simp only [List.length_singleton]; omega
      · exact conv_at w b _ hb

end Go.Proofs.YtgojlabkngnkdaaDoor
