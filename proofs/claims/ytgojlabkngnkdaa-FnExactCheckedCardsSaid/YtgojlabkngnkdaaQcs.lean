/-
  The laws' helpers on cards, by their contracts: copied, measured, found equal, marked and found again. Condition: at most 2^20 lists and numbers.
-/
import Derived.Test.YtgojlabkngnkdaaQow
import Derived.Test.YtgojlabkngnkdaaPsk4
import Derived.Test.YtgojlabkngnkdaaKga
namespace Go.Proofs.Ytgojlabkngnkdaa
open Go.RowKit

set_option maxHeartbeats 2000000 in
theorem eqCards_yes (n : Int) (v u : Value) (Ls : List (List Int)) (w : World) (hv : Svv w v Ls) (hu : Svv w u Ls) (hf : Few2 Ls) :
    Calls Try.prog 18 #[.agg #[.int .i64 n, v], .agg #[.int .i64 n, u]] w fun e w' => e = .returned (.bool true) ∧ Below w.heap.size w w' := by
  obtain ⟨p, cap, rfl⟩ := svv_form hv
  obtain ⟨q, cap2, rfl⟩ := svv_form hu
  have hb0 : Below w.heap.size w ((w.alloc (.cells #[.int .i64 n, .slice p Ls.length cap] 36)).alloc (.cells #[.int .i64 n, .slice q Ls.length cap2] 36)) := ((Below.refl _ w).alloc (Nat.le_refl _) _).alloc (by simp) _
  have EQ := Lib.hid (eqIntSS_yes _ _ Ls _ (hv.below hb0 (Nat.le_refl _)) (hu.below hb0 (Nat.le_refl _)) hf)
  clear hv hu hf
  go_enter Try.func18, Try.ntmps18
  go_wp2_with (go_at_call 45; refine EQ.out.mono ?_; rintro e w1 ⟨rfl, b1⟩; have B1 := hb0.trans (b1.mono hb0.size))
  go_ret
  exact ⟨rfl, B1⟩

set_option maxHeartbeats 2000000 in
theorem markCardsO (n : Int) (v : Value) (pl : List (List Int)) (B D : Nat) (k : Int) (w : World) (h : Owa w B D v pl) (hn : pl.length ≤ 1048576) (hf : tot pl pl.length ≤ 1048576) (hk0 : 0 ≤ k) (hk1 : k ≤ 1048577) :
    Calls Try.prog 19 #[.agg #[.int .i64 n, v], .int .i64 k] w fun e w' => e = .returned (.int .i64 (k + tot pl pl.length)) ∧ Owa w' B D v (markL k pl) ∧ Mid B D w w' := by
  obtain ⟨p, cap, rfl⟩ := h.form
  have hb0 : Below w.heap.size w (w.alloc (.cells #[.int .i64 n, .slice p pl.length cap] 36)) := (Below.refl _ w).alloc (Nat.le_refl _) _
  have MK := Lib.hid (markIntSS_own _ pl B D k _ (h.below hb0 (Nat.le_refl _)) hn hf hk0 hk1)
  clear h hf
  go_enter Try.func19, Try.ntmps19
  go_wp2_with (go_at_call 46; refine MK.out.mono ?_; rintro e w1 ⟨rfl, o1, m1⟩)
  go_ret
  exact ⟨rfl, o1, ⟨m1.os.trans hb0.os, m1.tape.trans hb0.tape, m1.output.trans hb0.output, Nat.le_trans hb0.size m1.size, fun i hi hn => (m1.block i (Nat.lt_of_lt_of_le hi hb0.size) hn).trans (hb0.block i hi)⟩⟩

set_option maxHeartbeats 2000000 in
theorem heldCards_any (n : Int) (v : Value) (pl : List (List Int)) (k : Int) (w : World) (h : Svv w v (markL k pl)) (hn : pl.length ≤ 1048576) (hf : tot pl pl.length ≤ 1048576) (hk0 : 0 ≤ k) (hk1 : k ≤ 1048577) :
    Calls Try.prog 20 #[.agg #[.int .i64 n, v], .int .i64 k] w fun e w' => e = .returned (.int .i64 (k + tot pl pl.length)) ∧ Below w.heap.size w w' := by
  obtain ⟨p, cap, rfl⟩ := svv_form h
  have hb0 : Below w.heap.size w (w.alloc (.cells #[.int .i64 n, .slice p (markL k pl).length cap] 36)) := (Below.refl _ w).alloc (Nat.le_refl _) _
  have HE := Lib.hid (heldIntSS_any _ pl k _ (h.below hb0 (Nat.le_refl _)) hn hf hk0 hk1)
  have d : decide (k + (tot pl pl.length : Int) < 0) = false := by simp; omega
  obtain ⟨x, ex⟩ : ∃ x : Int, k + (tot pl pl.length : Int) = x := ⟨_, rfl⟩
  rw [ex] at HE d ⊢
  clear h hf ex
  go_enter Try.func20, Try.ntmps20
  go_wp2_with (go_at_call 47; refine HE.out.mono ?_; rintro e w1 ⟨rfl, rfl⟩)
  go_ret
  exact ⟨rfl, hb0⟩
end Go.Proofs.Ytgojlabkngnkdaa
