/-
  AreCards, AnswersOf, NumbersTold and NumbersWithLies in the model, by contracts. Conditions: at most 2^40 lists of at most 2^40 numbers.
-/
import Derived.Test.YtmcbhpmkhbmlgaaKge
namespace Go.Proofs.Ytmcbhpmkhbmlgaa
open Go.RowKit

theorem ret_vb {u v : Value} {c d : Bool} (h : u = v) (g : c = d) : Ending.returned (.tuple #[u, .bool c]) = .returned (.tuple #[v, .bool d]) := by rw [h, g]
noncomputable def nlB (n : Int) (Ls : List (List Int)) (a : List UInt8) (lies : Int) : Bool := askB n Ls a && inB lies 0 12
noncomputable def nlR (n : Int) (Ls : List (List Int)) (a : List UInt8) (lies : Int) : List Int := if nlB n Ls a lies = true then cwK Ls a lies n.toNat else []
theorem nlR_len (n : Int) (Ls : List (List Int)) (a : List UInt8) (lies : Int) : (nlR n Ls a lies).length ≤ 128 := by
  unfold nlR
  split
  · rename_i h
    unfold nlB at h
    rw [Bool.and_eq_true] at h
    have := (askB_iff.1 h.1).1.hi
    have := cwK_len Ls a lies n.toNat
    omega
  · simp

set_option maxHeartbeats 2000000 in
set_option maxRecDepth 20000 in
theorem specNumbersWithLies_any (n lies : Int) (v : Value) (Ls : List (List Int)) (a : List UInt8) (w : World) (h : Svv w v Ls) (hl : Ls.length ≤ 1099511627776) (hx : ∀ j, j < Ls.length → (rowL Ls j).length ≤ 1099511627776) :
    Calls Try.prog 24 #[.agg #[.int .i64 n, v], .string (bstr a), .int .i64 lies] w fun e w' => ∃ u, e = .returned (.tuple #[u, .bool (nlB n Ls a lies)]) ∧ Ow w' w.heap.size u (nlR n Ls a lies) ∧ Below w.heap.size w w' := by
  have hb0 : Below w.heap.size w (w.alloc (.cells #[.int .i64 n, v] 36)) := (Below.refl _ w).alloc (Nat.le_refl _) _
  have CG := caAsked_any n v Ls a _ (h.below hb0 (Nat.le_refl _)) hl hx
  have hz : w.heap.size < (w.alloc (.cells #[.int .i64 n, v] 36)).heap.size := by simp
  have k0 := card_n w n v
  have k1 := card_v w n v
  have FA := fun (g : askB n Ls a = true) W (hW : Below w.heap.size w W) => Lib.hid (caWith_any n lies v Ls a W (h.below hW (Nat.le_refl _)) (askB_iff.1 g).1 (askB_iff.1 g).2.1)
  obtain ⟨s, es⟩ : ∃ s, bstr a = s := ⟨_, rfl⟩
  rw [es] at CG FA ⊢
  clear es
  cases hg : askB n Ls a with
  | false =>
    rw [hg] at CG
    have CG := Lib.hid CG
    have AB : Hid (nlB n Ls a lies = false) := Lib.hid (by unfold nlB; rw [hg]; rfl)
    have AT : Hid (nlR n Ls a lies = []) := Lib.hid (by unfold nlR; rw [AB.out]; rfl)
    clear hg k0 k1 FA
    go_enter Try.func24, Try.ntmps24
    go_wp2_with (go_at_call 40; refine CG.out.mono ?_; rintro e w1 ⟨rfl, b1⟩; have B1 := nxt hb0 b1)
    go_ret2
    exact ⟨_, ret_vb rfl AB.out.symm, by rw [AT.out]; exact ow_nil _ _, B1⟩
  | true =>
    rw [hg] at CG
    have CG := Lib.hid CG
    have FA := FA hg
    by_cases hin : inB lies 0 12 = true
    · have AB : Hid (nlB n Ls a lies = true) := Lib.hid (by unfold nlB; rw [hg, hin]; rfl)
      have AT : Hid (nlR n Ls a lies = cwK Ls a lies n.toNat) := Lib.hid (by unfold nlR; rw [AB.out]; rfl)
      clear hg
      go_enter Try.func24, Try.ntmps24
      go_wp2_with (first
        | (go_at_call 40; refine CG.out.mono ?_; rintro e w1 ⟨rfl, b1⟩; have B1 := nxt hb0 b1; have c0 := (b1.cell (p := ⟨w.heap.size, 0, none⟩) hz).trans k0; have c1 := (b1.cell (p := ⟨w.heap.size, 1, none⟩) hz).trans k1; clear k0 k1)
        | (go_at_call 45; refine (l1In_any _ _ _ _).mono ?_; rw [hin]; rintro e w2 ⟨rfl, rfl⟩)
        | (go_at_call 41; refine (FA _ B1).out.mono ?_; rintro e w3 ⟨u, rfl, o3, b3⟩; have O3 := o3.mono B1.size; have B3 := nxt B1 b3; clear o3))
      go_ret2
      exact ⟨_, ret_vb rfl AB.out.symm, by rw [AT.out]; exact O3, B3⟩
    · have hin : inB lies 0 12 = false := by simpa using hin
      have AB : Hid (nlB n Ls a lies = false) := Lib.hid (by unfold nlB; rw [hg, hin]; rfl)
      have AT : Hid (nlR n Ls a lies = []) := Lib.hid (by unfold nlR; rw [AB.out]; rfl)
      clear hg FA
      go_enter Try.func24, Try.ntmps24
      go_wp2_with (first
        | (go_at_call 40; refine CG.out.mono ?_; rintro e w1 ⟨rfl, b1⟩; have B1 := nxt hb0 b1; have c0 := (b1.cell (p := ⟨w.heap.size, 0, none⟩) hz).trans k0; have c1 := (b1.cell (p := ⟨w.heap.size, 1, none⟩) hz).trans k1; clear k0 k1)
        | (go_at_call 45; refine (l1In_any _ _ _ _).mono ?_; rw [hin]; rintro e w2 ⟨rfl, rfl⟩))
      go_ret2
      exact ⟨_, ret_vb rfl AB.out.symm, by rw [AT.out]; exact ow_nil _ _, B1⟩

end Go.Proofs.Ytmcbhpmkhbmlgaa
