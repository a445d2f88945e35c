/-
  The library's Backward: what its iterator hands out, by its contract: each index and number, from the last one on. Condition: a slice of at most 2^20 numbers in memory that the loop's body keeps.
-/
import Derived.RangeFuncBox
import Derived.RangeFuncLeaves
import Derived.Shelf.Abstract
import Derived.WalkKit
import Derived.OwnWalkIn
import Derived.TacticsInMore
import Derived.LoopNIn
import Derived.LoopIn
import Derived.Maps.AppendAt
import Derived.Test.YtdgadabfahmdmaaLpz
import Derived.Deep.RegionHeld3
import Derived.Deep.CutRange
namespace Go.Proofs.Ytdgadabfahmdmaa
open Go.RowKit Go.Shelf

attribute [local go_sem] Oper.semAt_some

/-- What the body of the loop keeps: all below n₀ and the iterator's own box. -/
def KpB (n₀ Bs : Nat) (W W' : World) : Prop := Below n₀ W W' ∧ W'.heap[Bs]? = W.heap[Bs]?
theorem KpB.refl (n₀ Bs : Nat) (W : World) : KpB n₀ Bs W W := ⟨Below.refl _ _, rfl⟩
theorem KpB.trans {n₀ Bs : Nat} {A B C : World} (h : KpB n₀ Bs A B) (k : KpB n₀ Bs B C) : KpB n₀ Bs A C := ⟨h.1.trans k.1, k.2.trans h.2⟩
theorem cell_same {W W' : World} {B : Nat} (h : W'.heap[B]? = W.heap[B]?) : W'.cell? ⟨B, 0, none⟩ = W.cell? ⟨B, 0, none⟩ := by simp only [World.cell?, h]
/-- What comes in the round k. -/
def bkF (zs : List Int) (k : Nat) : Int × Int := ((zs.length : Int) - 1 - k, zs.getD (zs.length - 1 - k) 0)

set_option maxRecDepth 100000 in
set_option maxHeartbeats 2000000 in
theorem back1_in (F : Fence) (n : Nat) (h7 : F.fn 85) (hro : F.round = none) (hn : 1 ≤ n) (l Bs n₀ b off cap : Nat) (a : Option Addr) (zs : List Int) (ha : 0 < zs.length → a = some ⟨b, off, none⟩) (hl : zs.length ≤ 1048576) (hb : 0 < zs.length → b < n₀) (J Jx : Nat → World → Prop)
    (hY : ∀ (k : Nat) W, J k W → k < zs.length → YieldAt F (n - 1) Try.prog l #[.int .i64 (bkF zs k).1, .int .i64 (bkF zs k).2] W fun e W' =>
      (e = .returned (.bool true) ∧ J (k + 1) W' ∧ KpB n₀ Bs W W') ∨ (e = .returned (.bool false) ∧ Jx (k + 1) W'))
    (W : World) (hBs : W.cell? ⟨Bs, 0, none⟩ = some (.slice a zs.length cap)) (hc : ∀ j, j < zs.length → W.cell? ⟨b, off + j, none⟩ = some (.int .i64 (zs.getD j 0))) (h0 : J 0 W) :
    CallsIn F n Try.prog 85 #[.func (.yield l) #[] #[], .pointer (some ⟨Bs, 0, none⟩)] W fun e W' => (∃ v, e = .returned v) ∧
      (J zs.length W' ∨ (∃ k, k ≤ zs.length ∧ Jx k W')) := by
  have HC := Lib.hid hc
  clear hc
  refine callsIn_of_wp Try.func85 rfl h7 ?_ hro
  simp only [Try.ntmps85, List.size_toArray, List.length_cons, List.length_nil, Nat.reduceAdd, Nat.reduceSub, Array.replicate_succ, Array.replicate_zero, List.push_toArray, List.append_toArray, List.nil_append, List.cons_append]
  gi_wp2
  gi_loopw [3] (fun i wr => ∃ k : Nat, k ≤ zs.length ∧ i = .int .i64 ((zs.length : Int) - 1 - k) ∧ J k wr ∧ KpB n₀ Bs W wr) (fun i _ => (intOf i + 1).toNat)
  case atStart => exact ⟨0, Nat.zero_le _, by simp, h0, KpB.refl _ _ _⟩
  case round =>
    obtain ⟨k, hk, rfl, hJs, hnx⟩ := hrel
    by_cases hlt : k < zs.length
    · have hb := hb (by omega)
      obtain rfl := ha (by omega)
      obtain ⟨m, hm⟩ : ∃ m : Nat, zs.length = m + 1 + k := ⟨zs.length - 1 - k, by omega⟩
      have em : (zs.length : Int) - 1 - k = (m : Int) := by omega
      have em2 : zs.length - 1 - k = m := by omega
      have hcx : wr.cell? ⟨b, off + m, none⟩ = some (.int .i64 (zs.getD m 0)) := (hnx.1.cell (p := ⟨b, off + m, none⟩) hb).trans (HC.out m (by omega))
      have hbx : wr.cell? ⟨Bs, 0, none⟩ = some (.slice (some ⟨b, off, none⟩) zs.length cap) := (cell_same hnx.2).trans hBs
      obtain ⟨x, ex⟩ : ∃ x, zs.getD m 0 = x := ⟨_, rfl⟩
      rw [ex] at hcx
      have eb : bkF zs k = ((m : Int), x) := by unfold bkF; rw [em, em2, ex]
      obtain ⟨fn, tmps, assign, body, hy, hR⟩ := hY k wr hJs hlt
      rw [eb] at hy
      dsimp only at hy
      rw [em]
      have hmi : (m : Int) < zs.length := by omega
      have hmn : (0 : Int) ≤ m := by omega
      have EM := Lib.hid em
      clear ex eb em em2 hm
      gi_wp2
      refine hR.mono ?_
      rintro e W3 (⟨rfl, hJ3, hk3⟩ | ⟨rfl, hJx3⟩)
      · gi_wp2
        go_roundw
        case rel => exact ⟨k + 1, by omega, by have := EM.out; first | (simp; done) | (simp; omega), hJ3, hnx.trans hk3⟩
        case measure => first | (simp [intOf]; done) | (simp [intOf]; omega)
      · gi_wp2
        refine bodyPost_ret (results_none rfl _ _ _) rfl ?_
        exact ⟨⟨_, rfl⟩, .inr ⟨k + 1, by omega, hJx3⟩⟩
    · obtain rfl : k = zs.length := by omega
      gi_wp2
      go_end0
      exact ⟨⟨_, rfl⟩, .inl hJs⟩

set_option maxHeartbeats 1000000 in
theorem backward_in (F : Fence) (n : Nat) (h5 : F.fn 58) (hro : F.round = none) (a : Option Addr) (len cap : Nat) (w : World) :
    CallsIn F n Try.prog 58 #[.slice a len cap] w fun e w' => e = .returned (.func (.func 85) #[] #[.pointer (some ⟨w.heap.size, 0, none⟩)]) ∧ w' = w.alloc (.cells #[.slice a len cap] 22) := by
  refine callsIn_of_wp Try.func58 rfl h5 ?_ hro
  simp only [Try.ntmps58, List.size_toArray, List.length_cons, List.length_nil, Nat.reduceAdd, Nat.reduceSub, Array.replicate_succ, Array.replicate_zero, List.push_toArray, List.append_toArray, List.nil_append, List.cons_append]
  gi_wp2
  go_ret
  exact ⟨rfl, rfl⟩
/-- The first k numbers below n. -/
def finTo (n : Nat) : Nat → List (Fin n)
  | 0 => []
  | k + 1 => if h : k < n then finTo n k ++ [⟨k, h⟩] else finTo n k
theorem finTo_succ {n k : Nat} (h : k < n) : finTo n (k + 1) = finTo n k ++ [⟨k, h⟩] := by rw [finTo, dif_pos h]
theorem finTo_len {n : Nat} : ∀ k, k ≤ n → (finTo n k).length = k := by
  intro k
  induction k with
  | zero => intro _; rfl
  | succ k ih => intro h; rw [finTo_succ h, List.length_append, ih (by omega)]; rfl
theorem back_stops (F : Fence) (n : Nat) (h7 : F.fn 85) (hro : F.round = none) (hn : 1 ≤ n) (Bs n₀ b off cap : Nat) (a : Option Addr) (zs : List Int) (ha : 0 < zs.length → a = some ⟨b, off, none⟩) (hl : zs.length ≤ 1048576) (w : World) (hb : 0 < zs.length → b < n₀) (hBs0 : Bs < w.heap.size) (hn₀ : n₀ ≤ w.heap.size)
    (hBs : w.cell? ⟨Bs, 0, none⟩ = some (.slice a zs.length cap)) (hc : ∀ j, j < zs.length → w.cell? ⟨b, off + j, none⟩ = some (.int .i64 (zs.getD j 0))) :
    SeqStopsK F n Try.prog 85 #[.pointer (some ⟨Bs, 0, none⟩)] (fun x : Fin zs.length => #[Value.int .i64 (bkF zs x.1).1, Value.int .i64 (bkF zs x.1).2]) (KpB n₀ Bs) (fun ys => ys = finTo zs.length zs.length) (fun ys => ∃ k, k ≤ zs.length ∧ ys = finTo zs.length k) zs.length w := fun l J Jx W hW _ _ hY h0 => by
  have hc' := (hW.cell (p := ⟨Bs, 0, none⟩) hBs0).trans hBs
  refine (back1_in F n h7 hro hn l Bs n₀ b off cap a zs ha hl hb (fun k W => J (finTo zs.length k) W) (fun k W => Jx (finTo zs.length k) W) (fun k W1 hJ hk => ?_) W hc' (fun j hj => (hW.cell (p := ⟨b, off + j, none⟩) (by show b < _; have := hb (by omega); omega)).trans (hc j hj)) h0).mono ?_
  · have := hY (finTo zs.length k) ⟨k, hk⟩ W1 hJ (by rw [finTo_len k (by omega)]; exact hk)
    rw [finTo_succ hk]
    exact this
  · rintro e W' ⟨he, hj | ⟨k, hk, hj⟩⟩
    · exact ⟨he, .inl ⟨_, rfl, hj⟩⟩
    · exact ⟨he, .inr ⟨_, ⟨k, hk, rfl⟩, hj⟩⟩
end Go.Proofs.Ytdgadabfahmdmaa
