/-
  NumbersTold and FirstsSum in the model, by contracts. Conditions: at most 2^40 lists of at most 2^40 numbers.
-/
import Derived.Test.YtmcbhpmkhbmlgaaKgj
namespace Go.Proofs.Ytmcbhpmkhbmlgaa
open Go.RowKit

noncomputable def ntR (n : Int) (Ls : List (List Int)) (a : List UInt8) : List Int := if askB n Ls a = true then cwK Ls a 0 n.toNat else []
noncomputable def fuB (n : Int) (Ls : List (List Int)) (a : List UInt8) : Bool := askB n Ls a && fsS Ls a
noncomputable def fuR (n : Int) (Ls : List (List Int)) (a : List UInt8) : Int := if askB n Ls a = true then fsV Ls a else 0
theorem ntR_len (n : Int) (Ls : List (List Int)) (a : List UInt8) : (ntR n Ls a).length ≤ 128 := by
  unfold ntR
  split
  · rename_i h
    have := (askB_iff.1 h).1.hi
    have := cwK_len Ls a 0 n.toNat
    omega
  · simp

set_option maxHeartbeats 2000000 in
set_option maxRecDepth 20000 in
theorem specNumbersTold_any (n : Int) (v : Value) (Ls : List (List Int)) (a : List UInt8) (w : World) (h : Svv w v Ls) (hl : Ls.length ≤ 1099511627776) (hx : ∀ j, j < Ls.length → (rowL Ls j).length ≤ 1099511627776) :
    Calls Try.prog 19 #[.agg #[.int .i64 n, v], .string (bstr a)] w fun e w' => ∃ u, e = .returned (.tuple #[u, .bool (askB n Ls a)]) ∧ Ow w' w.heap.size u (ntR n Ls a) ∧ Below w.heap.size w w' := by
  have hb0 : Below w.heap.size w (w.alloc (.cells #[.int .i64 n, v] 36)) := (Below.refl _ w).alloc (Nat.le_refl _) _
  have CG := caAsked_any n v Ls a _ (h.below hb0 (Nat.le_refl _)) hl hx
  have hz : w.heap.size < (w.alloc (.cells #[.int .i64 n, v] 36)).heap.size := by simp
  have k0 := card_n w n v
  have k1 := card_v w n v
  have FA := fun (g : askB n Ls a = true) W (hW : Below w.heap.size w W) => Lib.hid (caWith_any n 0 v Ls a W (h.below hW (Nat.le_refl _)) (askB_iff.1 g).1 (askB_iff.1 g).2.1)
  obtain ⟨s, es⟩ : ∃ s, bstr a = s := ⟨_, rfl⟩
  rw [es] at CG FA ⊢
  clear es
  cases hg : askB n Ls a with
  | false =>
    rw [hg] at CG
    have CG := Lib.hid CG
    have AT : Hid (ntR n Ls a = []) := Lib.hid (by unfold ntR; rw [hg]; rfl)
    clear hg k0 k1 FA
    go_enter Try.func19, Try.ntmps19
    go_wp2_with (go_at_call 40; refine CG.out.mono ?_; rintro e w1 ⟨rfl, b1⟩; have B1 := nxt hb0 b1)
    go_ret2
    exact ⟨_, rfl, by rw [AT.out]; exact ow_nil _ _, B1⟩
  | true =>
    rw [hg] at CG
    have CG := Lib.hid CG
    have FA := FA hg
    have AT : Hid (ntR n Ls a = cwK Ls a 0 n.toNat) := Lib.hid (by unfold ntR; rw [hg]; rfl)
    clear hg
    go_enter Try.func19, Try.ntmps19
    go_wp2_with (first
      | (go_at_call 40; refine CG.out.mono ?_; rintro e w1 ⟨rfl, b1⟩; have B1 := nxt hb0 b1; have c0 := (b1.cell (p := ⟨w.heap.size, 0, none⟩) hz).trans k0; have c1 := (b1.cell (p := ⟨w.heap.size, 1, none⟩) hz).trans k1; clear k0 k1)
      | (go_at_call 41; refine (FA _ B1).out.mono ?_; rintro e w3 ⟨u, rfl, o3, b3⟩; have O3 := o3.mono B1.size; have B3 := nxt B1 b3; clear o3))
    go_ret2
    exact ⟨_, rfl, by rw [AT.out]; exact O3, B3⟩

set_option maxHeartbeats 2000000 in
set_option maxRecDepth 20000 in
theorem specFirstsSum_any (n : Int) (v : Value) (Ls : List (List Int)) (a : List UInt8) (w : World) (h : Svv w v Ls) (hl : Ls.length ≤ 1099511627776) (hx : ∀ j, j < Ls.length → (rowL Ls j).length ≤ 1099511627776) :
    Calls Try.prog 28 #[.agg #[.int .i64 n, v], .string (bstr a)] w fun e w' => e = .returned (.tuple #[.int .i64 (fuR n Ls a), .bool (fuB n Ls a)]) ∧ Below w.heap.size w w' := by
  have hb0 : Below w.heap.size w (w.alloc (.cells #[.int .i64 n, v] 36)) := (Below.refl _ w).alloc (Nat.le_refl _) _
  have CG := caAsked_any n v Ls a _ (h.below hb0 (Nat.le_refl _)) hl hx
  have hz : w.heap.size < (w.alloc (.cells #[.int .i64 n, v] 36)).heap.size := by simp
  have k0 := card_n w n v
  have k1 := card_v w n v
  have FA := fun (g : askB n Ls a = true) W (hW : Below w.heap.size w W) => Lib.hid (caFirsts_any n v Ls a W (h.below hW (Nat.le_refl _)) (askB_iff.1 g).1 (askB_iff.1 g).2.1)
  obtain ⟨s, es⟩ : ∃ s, bstr a = s := ⟨_, rfl⟩
  rw [es] at CG FA ⊢
  clear es
  cases hg : askB n Ls a with
  | false =>
    rw [hg] at CG
    have CG := Lib.hid CG
    have AT : Hid (fuR n Ls a = 0) := Lib.hid (by unfold fuR; rw [hg]; rfl)
    have AB : Hid (fuB n Ls a = false) := Lib.hid (by unfold fuB; rw [hg]; rfl)
    clear hg k0 k1 FA
    go_enter Try.func28, Try.ntmps28
    go_wp2_with (go_at_call 40; refine CG.out.mono ?_; rintro e w1 ⟨rfl, b1⟩; have B1 := nxt hb0 b1)
    go_ret2
    exact ⟨ret_ib AT.out.symm AB.out.symm, B1⟩
  | true =>
    rw [hg] at CG
    have CG := Lib.hid CG
    have FA := FA hg
    have AT : Hid (fuR n Ls a = fsV Ls a) := Lib.hid (by unfold fuR; rw [hg]; rfl)
    have AB : Hid (fuB n Ls a = fsS Ls a) := Lib.hid (by unfold fuB; rw [hg]; rfl)
    clear hg
    go_enter Try.func28, Try.ntmps28
    go_wp2_with (first
      | (go_at_call 40; refine CG.out.mono ?_; rintro e w1 ⟨rfl, b1⟩; have B1 := nxt hb0 b1; have c0 := (b1.cell (p := ⟨w.heap.size, 0, none⟩) hz).trans k0; have c1 := (b1.cell (p := ⟨w.heap.size, 1, none⟩) hz).trans k1; clear k0 k1)
      | (go_at_call 54; refine (FA _ B1).out.mono ?_; rintro e w3 ⟨rfl, b3⟩; have B3 := nxt B1 b3))
    go_ret2
    exact ⟨ret_ib AT.out.symm AB.out.symm, B3⟩

end Go.Proofs.Ytmcbhpmkhbmlgaa
