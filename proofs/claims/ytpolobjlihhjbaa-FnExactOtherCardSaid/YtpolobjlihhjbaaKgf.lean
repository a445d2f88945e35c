/-
  AreCards, AnswersOf, NumbersTold and NumbersWithLies in the model, by contracts. Conditions: at most 2^40 lists of at most 2^40 numbers.
-/
import Derived.Test.YtpolobjlihhjbaaKge
namespace Go.Proofs.Ytpolobjlihhjbaa
open Go.RowKit

theorem ret_sb {a b : ByteArray} {c d : Bool} (h : a = b) (g : c = d) : Ending.returned (.tuple #[.string a, .bool c]) = .returned (.tuple #[.string b, .bool d]) := by rw [h, g]
theorem ret_vb {u v : Value} {c d : Bool} (h : u = v) (g : c = d) : Ending.returned (.tuple #[u, .bool c]) = .returned (.tuple #[v, .bool d]) := by rw [h, g]
noncomputable def aoB (n : Int) (Ls : List (List Int)) (x : Int) : Bool := caB n Ls && inB x 0 (n - 1)
noncomputable def aoT (n : Int) (Ls : List (List Int)) (x : Int) : ByteArray := if aoB n Ls x = true then bstr (anW Ls x) else ⟨#[]⟩
noncomputable def nlB (n : Int) (Ls : List (List Int)) (a : List UInt8) (lies : Int) : Bool := askB n Ls a && inB lies 0 12
noncomputable def nlR (n : Int) (Ls : List (List Int)) (a : List UInt8) (lies : Int) : List Int := if nlB n Ls a lies = true then cwK Ls a lies n.toNat else []
theorem nlR_len (n : Int) (Ls : List (List Int)) (a : List UInt8) (lies : Int) : (nlR n Ls a lies).length ≤ 128 := by
  unfold nlR
  split
  · rename_i h
    unfold nlB at h
    rw [Bool.and_eq_true] at h
    have := (askB_iff.1 h.1).1.hi
    have := cwK_len Ls a lies n.toNat
    omega
  · simp

set_option maxHeartbeats 1000000 in
theorem specAreCards_any (n : Int) (v : Value) (Ls : List (List Int)) (w : World) (h : Svv w v Ls) (hl : Ls.length ≤ 1099511627776) (hx : ∀ j, j < Ls.length → (rowL Ls j).length ≤ 1099511627776) :
    Calls Try.prog 21 #[.agg #[.int .i64 n, v]] w fun e w' => e = .returned (.bool (caB n Ls)) ∧ Below w.heap.size w w' := by
  have hb0 : Below w.heap.size w (w.alloc (.cells #[.int .i64 n, v] 27)) := (Below.refl _ w).alloc (Nat.le_refl _) _
  have CG := Lib.hid (caGood_any n v Ls _ (h.below hb0 (Nat.le_refl _)) hl hx)
  go_enter Try.func21, Try.ntmps21
  go_wp2_with fail
  refine CG.out.mono ?_
  rintro e w1 ⟨rfl, b1⟩
  go_wp2_with fail
  go_ret
  exact ⟨rfl, nxt hb0 b1⟩

set_option maxHeartbeats 2000000 in
set_option maxRecDepth 20000 in
theorem specAnswersOf_any (n x : Int) (v : Value) (Ls : List (List Int)) (w : World) (h : Svv w v Ls) (hl : Ls.length ≤ 1099511627776) (hx : ∀ j, j < Ls.length → (rowL Ls j).length ≤ 1099511627776) :
    Calls Try.prog 29 #[.agg #[.int .i64 n, v], .int .i64 x] w fun e w' => e = .returned (.tuple #[.string (aoT n Ls x), .bool (aoB n Ls x)]) ∧ Below w.heap.size w w' := by
  have hb0 : Below w.heap.size w (w.alloc (.cells #[.int .i64 n, v] 27)) := (Below.refl _ w).alloc (Nat.le_refl _) _
  have CG := caGood_any n v Ls _ (h.below hb0 (Nat.le_refl _)) hl hx
  have hz : w.heap.size < (w.alloc (.cells #[.int .i64 n, v] 27)).heap.size := by simp
  have k0 := card_n w n v
  have k1 := card_v w n v
  cases hg : caB n Ls with
  | false =>
    rw [hg] at CG
    have CG := Lib.hid CG
    have AB : Hid (aoB n Ls x = false) := Lib.hid (by unfold aoB; rw [hg]; rfl)
    have AT : Hid (aoT n Ls x = ⟨#[]⟩) := Lib.hid (by unfold aoT; rw [AB.out]; rfl)
    clear hg k0 k1
    go_enter Try.func29, Try.ntmps29
    go_wp2_with (go_at_call 64; refine CG.out.mono ?_; rintro e w1 ⟨rfl, b1⟩; have B1 := nxt hb0 b1)
    go_ret2
    exact ⟨ret_sb AT.out.symm AB.out.symm, B1⟩
  | true =>
    rw [hg] at CG
    have CG := Lib.hid CG
    have G := caB_iff.1 hg
    have hlo := G.lo
    have hhi := G.hi
    by_cases hin : inB x 0 (n - 1) = true
    · have AB : Hid (aoB n Ls x = true) := Lib.hid (by unfold aoB; rw [hg, hin]; rfl)
      have AT : Hid (aoT n Ls x = bstr (anW Ls x)) := Lib.hid (by unfold aoT; rw [AB.out]; rfl)
      have FA := fun W (hW : Below w.heap.size w W) => Lib.hid (caAnswers_any n x v Ls W (h.below hW (Nat.le_refl _)) G.len (card_rows G))
      clear hg
      go_enter Try.func29, Try.ntmps29
      go_wp2_with (first
        | (go_at_call 64; refine CG.out.mono ?_; rintro e w1 ⟨rfl, b1⟩; have B1 := nxt hb0 b1; have c0 := (b1.cell (p := ⟨w.heap.size, 0, none⟩) hz).trans k0; have c1 := (b1.cell (p := ⟨w.heap.size, 1, none⟩) hz).trans k1; clear k0 k1)
        | (go_at_call 69; refine (l1In_any _ _ _ _).mono ?_; rw [hin]; rintro e w2 ⟨rfl, rfl⟩)
        | (go_at_call 76; refine (FA _ B1).out.mono ?_; rintro e w3 ⟨rfl, b3⟩; have B3 := nxt B1 b3))
      go_ret2
      exact ⟨ret_sb AT.out.symm AB.out.symm, B3⟩
    · have hin : inB x 0 (n - 1) = false := by simpa using hin
      have AB : Hid (aoB n Ls x = false) := Lib.hid (by unfold aoB; rw [hg, hin]; rfl)
      have AT : Hid (aoT n Ls x = ⟨#[]⟩) := Lib.hid (by unfold aoT; rw [AB.out]; rfl)
      clear hg
      go_enter Try.func29, Try.ntmps29
      go_wp2_with (first
        | (go_at_call 64; refine CG.out.mono ?_; rintro e w1 ⟨rfl, b1⟩; have B1 := nxt hb0 b1; have c0 := (b1.cell (p := ⟨w.heap.size, 0, none⟩) hz).trans k0; have c1 := (b1.cell (p := ⟨w.heap.size, 1, none⟩) hz).trans k1; clear k0 k1)
        | (go_at_call 69; refine (l1In_any _ _ _ _).mono ?_; rw [hin]; rintro e w2 ⟨rfl, rfl⟩))
      go_ret2
      exact ⟨ret_sb AT.out.symm AB.out.symm, B1⟩

set_option maxHeartbeats 2000000 in
set_option maxRecDepth 20000 in
theorem specNumbersWithLies_any (n lies : Int) (v : Value) (Ls : List (List Int)) (a : List UInt8) (w : World) (h : Svv w v Ls) (hl : Ls.length ≤ 1099511627776) (hx : ∀ j, j < Ls.length → (rowL Ls j).length ≤ 1099511627776) :
    Calls Try.prog 42 #[.agg #[.int .i64 n, v], .string (bstr a), .int .i64 lies] w fun e w' => ∃ u, e = .returned (.tuple #[u, .bool (nlB n Ls a lies)]) ∧ Ow w' w.heap.size u (nlR n Ls a lies) ∧ Below w.heap.size w w' := by
  have hb0 : Below w.heap.size w (w.alloc (.cells #[.int .i64 n, v] 27)) := (Below.refl _ w).alloc (Nat.le_refl _) _
  have CG := caAsked_any n v Ls a _ (h.below hb0 (Nat.le_refl _)) hl hx
  have hz : w.heap.size < (w.alloc (.cells #[.int .i64 n, v] 27)).heap.size := by simp
  have k0 := card_n w n v
  have k1 := card_v w n v
  have FA := fun (g : askB n Ls a = true) W (hW : Below w.heap.size w W) => Lib.hid (caWith_any n lies v Ls a W (h.below hW (Nat.le_refl _)) (askB_iff.1 g).1 (askB_iff.1 g).2.1)
  obtain ⟨s, es⟩ : ∃ s, bstr a = s := ⟨_, rfl⟩
  rw [es] at CG FA ⊢
  clear es
  cases hg : askB n Ls a with
  | false =>
    rw [hg] at CG
    have CG := Lib.hid CG
    have AB : Hid (nlB n Ls a lies = false) := Lib.hid (by unfold nlB; rw [hg]; rfl)
    have AT : Hid (nlR n Ls a lies = []) := Lib.hid (by unfold nlR; rw [AB.out]; rfl)
    clear hg k0 k1 FA
    go_enter Try.func42, Try.ntmps42
    go_wp2_with (go_at_call 79; refine CG.out.mono ?_; rintro e w1 ⟨rfl, b1⟩; have B1 := nxt hb0 b1)
    go_ret2
    exact ⟨_, ret_vb rfl AB.out.symm, by rw [AT.out]; exact ow_nil _ _, B1⟩
  | true =>
    rw [hg] at CG
    have CG := Lib.hid CG
    have FA := FA hg
    by_cases hin : inB lies 0 12 = true
    · have AB : Hid (nlB n Ls a lies = true) := Lib.hid (by unfold nlB; rw [hg, hin]; rfl)
      have AT : Hid (nlR n Ls a lies = cwK Ls a lies n.toNat) := Lib.hid (by unfold nlR; rw [AB.out]; rfl)
      clear hg
      go_enter Try.func42, Try.ntmps42
      go_wp2_with (first
        | (go_at_call 79; refine CG.out.mono ?_; rintro e w1 ⟨rfl, b1⟩; have B1 := nxt hb0 b1; have c0 := (b1.cell (p := ⟨w.heap.size, 0, none⟩) hz).trans k0; have c1 := (b1.cell (p := ⟨w.heap.size, 1, none⟩) hz).trans k1; clear k0 k1)
        | (go_at_call 69; refine (l1In_any _ _ _ _).mono ?_; rw [hin]; rintro e w2 ⟨rfl, rfl⟩)
        | (go_at_call 80; refine (FA _ B1).out.mono ?_; rintro e w3 ⟨u, rfl, o3, b3⟩; have O3 := o3.mono B1.size; have B3 := nxt B1 b3; clear o3))
      go_ret2
      exact ⟨_, ret_vb rfl AB.out.symm, by rw [AT.out]; exact O3, B3⟩
    · have hin : inB lies 0 12 = false := by simpa using hin
      have AB : Hid (nlB n Ls a lies = false) := Lib.hid (by unfold nlB; rw [hg, hin]; rfl)
      have AT : Hid (nlR n Ls a lies = []) := Lib.hid (by unfold nlR; rw [AB.out]; rfl)
      clear hg FA
      go_enter Try.func42, Try.ntmps42
      go_wp2_with (first
        | (go_at_call 79; refine CG.out.mono ?_; rintro e w1 ⟨rfl, b1⟩; have B1 := nxt hb0 b1; have c0 := (b1.cell (p := ⟨w.heap.size, 0, none⟩) hz).trans k0; have c1 := (b1.cell (p := ⟨w.heap.size, 1, none⟩) hz).trans k1; clear k0 k1)
        | (go_at_call 69; refine (l1In_any _ _ _ _).mono ?_; rw [hin]; rintro e w2 ⟨rfl, rfl⟩))
      go_ret2
      exact ⟨_, ret_vb rfl AB.out.symm, by rw [AT.out]; exact ow_nil _ _, B1⟩

end Go.Proofs.Ytpolobjlihhjbaa
