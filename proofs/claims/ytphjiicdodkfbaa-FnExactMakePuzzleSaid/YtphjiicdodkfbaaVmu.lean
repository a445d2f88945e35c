/-
  The library's 128-bit product, of 1 and a small number, and its Repeat of one number, by their contracts. Condition: a number of at most 2^20.
-/
import Derived.Test.YtphjiicdodkfbaaLpz
import Derived.Test.YtphjiicdodkfbaaNum
import Derived.Laws.MathBits
import Derived.Laws.BitsAllLaws
import Derived.Laws.CopyOwn
import Derived.Deep.RegionWith
import Derived.Deep.RegionHeld3
import Derived.IntWalk
namespace Go.Proofs.Ytphjiicdodkfbaa
open Go.RowKit

theorem mul64_any (y : Nat) (hy : y < 4294967296) (w : World) :
    Calls Try.prog 121 #[.int .u64 1, .int .u64 (y : Int)] w fun e w' => e = .returned (.tuple #[.int .u64 0, .int .u64 (y : Int)]) ∧ w = w' := by
  have a1 : bits .and .u64 1 4294967295 = 1 := and_low32 1 (by decide) (by decide)
  have a0 : bits .and .u64 0 4294967295 = 0 := and_low32 0 (by decide) (by decide)
  have a2 : bits .and .u64 (y : Int) 4294967295 = y := by rw [and_low32 _ (by omega) (by omega)]; omega
  have a3 : (y : Int) / 4294967296 = 0 := by omega
  have a4 : IntKind.u64.wrap (y : Int) = y := IntWalk.u64_in _ (by omega)
  have a5 : IntKind.u64.wrap 0 = 0 := rfl
  go_enter Try.func121, Try.ntmps121
  go_wp2
  go_ret2
  exact ⟨rfl, rfl⟩
theorem mul_any (y : Nat) (hy : y < 4294967296) (w : World) :
    Calls Try.prog 109 #[.int .u64 1, .int .u64 (y : Int)] w fun e w' => e = .returned (.tuple #[.int .u64 0, .int .u64 (y : Int)]) ∧ w = w' := by
  go_enter Try.func109, Try.ntmps109
  go_wp2_with (go_at_call 121; refine (mul64_any y hy _).mono ?_; rintro e w' ⟨rfl, rfl⟩)
  go_ret2
  exact ⟨rfl, rfl⟩

/-- The row while it is filled: n times k, and zeros. -/
def rpL (k : Int) (t n : Nat) : List Value := List.replicate n (.int .i64 k) ++ List.replicate (t - n) (.int .i64 0)
theorem rpL_len (k : Int) {t n : Nat} (h : n ≤ t) : (rpL k t n).length = t := by simp [rpL]; omega
theorem rpL_at (k : Int) {t n j : Nat} (h : j < n) : (rpL k t n)[j]? = some (.int .i64 k) := by
  simp [rpL, List.getElem?_append, h]
theorem rpL_splice (k : Int) {t n c : Nat} (_h : n + c ≤ t) : splice (rpL k t n) n (List.replicate c (.int .i64 k)) = rpL k t (n + c) := by
  unfold splice rpL
  rw [List.take_left' (by simp), List.length_replicate, List.drop_append]
  simp only [List.length_replicate, List.drop_replicate]
  rw [show n - (n + c) = 0 by omega, show n + c - n = c by omega, show t - n - c = t - (n + c) by omega, List.replicate_zero, List.nil_append, ← List.append_assoc, List.replicate_append_replicate]
theorem made_rep (k : Int) (t : Nat) : madeCells #[Value.int .i64 0] t = (rpL k t 0).toArray := by
  apply Array.ext_getElem?
  intro i
  by_cases h : i < t
  · simp [madeCells, h, rpL, Nat.mod_one]
  · rw [Array.getElem?_eq_none (by rw [size_madeCells]; omega), Array.getElem?_eq_none (by simp [rpL]; omega)]
theorem rep_one (c : Nat) (k : Int) : ∀ v ∈ List.replicate c (Value.int .i64 k), v.oneCell' = true := by
  intro v hv
  rw [(List.mem_replicate.1 hv).2]; rfl
theorem ow_rep {w : World} {g t : Nat} (k : Int) (h : w.heap[g]? = some (.cells (rpL k t t).toArray 3 (0, 0))) (ht : t ≤ 1048576) : Ow w g (.slice (some ⟨g, 0, none⟩) t t) (List.replicate t k) := by
  refine ow_of_row (n := t) (f := fun _ => .int .i64 k) ⟨_, h, by simp [rpL_len k (Nat.le_refl t)], fun j hj => ?_⟩ (by simp) (by unfold maxLen; omega) (fun j hj => by simp [List.getD_eq_getElem?_getD, hj])
  have := rpL_at k (t := t) (n := t) hj
  simpa using this

set_option maxHeartbeats 4000000 in
set_option maxRecDepth 20000 in
theorem repeat_any (b : Nat) (k : Int) (t : Nat) (w : World) (hb : b < w.heap.size) (hc : w.cell? ⟨b, 0, none⟩ = some (.int .i64 k)) (ht : t ≤ 1048576) :
    Calls Try.prog 81 #[.slice (some ⟨b, 0, none⟩) 1 1, .int .i64 (t : Int)] w fun e w' => e = .returned (.slice (some ⟨w.heap.size, 0, none⟩) t t) ∧ Ow w' w.heap.size (.slice (some ⟨w.heap.size, 0, none⟩) t t) (List.replicate t k) ∧ Below w.heap.size w w' := by
  have hmk := run_make_row' (P := Try.prog) 22 3 (.int .i64 0) 8 Try.underlying22 Try.infoI rfl .i64 .i64 t (by omega) (by omega)
  have MU := fun w => Lib.hid (mul_any t (by omega) w)
  have a1 : IntKind.u64.wrap (t : Int) = t := IntWalk.u64_in _ (by omega)
  have a2 : IntKind.u64.wrap 1 = 1 := rfl
  have a3 : IntKind.i64.wrap (t : Int) = t := IntWalk.i64_in _ (by omega)
  have a4 : ¬ (9223372036854775807 : Int) < t := by omega
  have hsz : (Try.prog.info? 3).map (·.size) = some 1 := by kernel_rfl
  have hb0 : Below w.heap.size w (w.alloc (.cells (madeCells #[.int .i64 0] t) 3)) := (Below.refl _ _).alloc (Nat.le_refl _) _
  have HG0 : Hid ((w.alloc (.cells (madeCells #[.int .i64 0] t) 3)).heap[w.heap.size]? = some (.cells (rpL k t 0).toArray 3 (0, 0))) := Lib.hid (by rw [← made_rep k t]; exact heap_alloc_new w _)
  have HSC : Hid (∀ j v, (List.replicate (min 1 t) (Value.int .i64 k))[j]? = some v → (w.alloc (.cells (madeCells #[.int .i64 0] t) 3)).cell? ((⟨b, 0, none⟩ : Addr).add j) = some v) := Lib.hid (by
    intro j v hv
    rw [List.getElem?_replicate] at hv
    split at hv
    · rename_i hj
      obtain rfl : j = 0 := by omega
      simp only [Option.some.injEq] at hv
      subst hv
      exact (hb0.cell (p := ⟨b, 0, none⟩) hb).trans hc
    · cases hv)
  have RS := Lib.hid (fun (n c : Nat) (h : n + c ≤ t) => rpL_splice k (t := t) (n := n) (c := c) h)
  have hn1 : min 1 t ≤ t := by omega
  have hn2 : 1 ≤ min 1 t ∨ t = 0 := by omega
  have LN : Hid ((List.replicate (min 1 t) (Value.int .i64 k)).length = Nat.min 1 t) := Lib.hid (by simp)
  have GI : Hid (goInt (List.replicate (min 1 t) (Value.int .i64 k)).length = .int .i64 ((min 1 t : Nat) : Int)) := Lib.hid (by simp [goInt])
  obtain ⟨n0, en0⟩ : ∃ n, min 1 t = n := ⟨_, rfl⟩
  rw [en0] at HSC hn1 hn2 LN GI
  go_enter Try.func81, Try.ntmps81
  go_wp2_with (first | (go_at_call 109; refine (MU _).out.mono ?_; rintro e w' ⟨rfl, rfl⟩) | (refine wpList_copy_splice rfl (.tmp 31) (.tmp 32) 22 22 rfl 3 Try.underlying22 hsz _ _ _ _ _ _ rfl rfl w.heap.size 0 (rpL k t 0) 3 HG0.out (List.replicate n0 (.int .i64 k)) LN.out (fun _ => ⟨rfl, _, rfl, HSC.out⟩) (by rw [rpL_len k (Nat.zero_le t), List.length_replicate, Nat.zero_add]; exact hn1) (rep_one n0 k) w.heap.size w hb0 (Nat.le_refl _) ?_; intro w2 HG2 hb2; rw [GI.out]))
  have HG2 : Hid (w2.heap[w.heap.size]? = some (.cells (rpL k t n0).toArray 3 (0, 0))) := Lib.hid (by have := HG2.out; rw [RS.out 0 n0 (by omega), Nat.zero_add] at this; exact this)
  go_loopw [8] (fun i wr => ∃ n : Nat, n ≤ t ∧ (1 ≤ n ∨ t = 0) ∧ i = .int .i64 n ∧ Hid (wr.heap[w.heap.size]? = some (.cells (rpL k t n).toArray 3 (0, 0))) ∧ Below w.heap.size w wr) (fun i _ => t - (intOf i).toNat)
  case atStart => exact ⟨n0, hn1, hn2, rfl, HG2, hb2⟩
  case round =>
    clear HG0 HSC hb0 hn1 hn2 LN GI HG2 hb2 hmk MU
    obtain ⟨n, hn, hn3, rfl, HG, hbw⟩ := hrel
    by_cases hlt : n < t
    · have j0 : (0 : Int) ≤ n := by omega
      have j1 : (n : Int) ≤ t := by omega
      have j2 : (n : Int) < t := by omega
      have j3 : ¬ (t : Int) < n := by omega
      have j4 : ¬ t = n := by omega
      have hm1 : min n (t - n) ≤ t - n := by omega
      have hm2 : 1 ≤ min n (t - n) := by omega
      have HD : Hid (wr.drew.heap[w.heap.size]? = some (.cells (rpL k t n).toArray 3 (0, 0))) := HG
      have LN : Hid ((List.replicate (min n (t - n)) (Value.int .i64 k)).length = Nat.min n (t - n)) := Lib.hid (by simp)
      have GI : Hid (goInt (List.replicate (min n (t - n)) (Value.int .i64 k)).length = .int .i64 ((min n (t - n) : Nat) : Int)) := Lib.hid (by simp [goInt])
      have SC : Hid (∀ j v, (List.replicate (min n (t - n)) (Value.int .i64 k))[j]? = some v → wr.drew.cell? ((⟨w.heap.size, 0, none⟩ : Addr).add j) = some v) := Lib.hid (by
        intro j v hv
        rw [List.getElem?_replicate] at hv
        split at hv
        · rename_i hj
          simp only [Option.some.injEq] at hv
          subst hv
          have h1 := rpL_at k (t := t) (n := n) (j := j) (by omega)
          have h2 : wr.drew.cell? ⟨w.heap.size, j, none⟩ = some (.int .i64 k) := by
            simp only [World.cell?, HD.out]
            simpa using h1
          rw [← h2]
          by_cases e0 : j = 0
          · subst e0; simp [Addr.add]
          · simp [Addr.add, e0]
        · cases hv)
      have HR := Lib.hid (RS.out n (min n (t - n)) (by omega))
      obtain ⟨c, ec⟩ : ∃ c, min n (t - n) = c := ⟨_, rfl⟩
      rw [ec] at hm1 hm2 LN GI SC HR
      have hw1 : IntKind.i64.wrap ((n : Int) + c) = (n : Int) + c := IntWalk.i64_in _ (by omega)
      have EC := Lib.hid ec
      clear HG ec
      go_wp2
      go_region_held3 (fun _ => True) (trivial) ((refine step_copy_splice rfl (.tmp 41) (.tmp 44) 22 22 rfl 3 Try.underlying22 hsz _ _ _ _ _ _ rfl rfl w.heap.size n (rpL k t n) 3 HD.out (List.replicate c (.int .i64 k)) LN.out (fun _ => ⟨rfl, _, rfl, SC.out⟩) (by rw [rpL_len k hn, List.length_replicate]; omega) (rep_one c k) w.heap.size w hbw.drew (Nat.le_refl _) ?_; intro w4 hg4 hb4; rw [GI.out]))
      all_goals
        go_wp2
        go_roundw
        case rel => exact ⟨n + c, by omega, .inl (by omega), by go_num, Lib.hid (by rw [← HR.out]; exact hg4.out), hb4⟩
        case measure => simp only [intOf]; omega
    · obtain rfl : n = t := by omega
      go_wp2
      go_ret
      exact ⟨rfl, ow_rep k HG.out ht, hbw⟩
end Go.Proofs.Ytphjiicdodkfbaa
