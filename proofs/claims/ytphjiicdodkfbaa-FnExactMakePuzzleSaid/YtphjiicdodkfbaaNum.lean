/-
  The sum of all pieces and the run, in the model and in the program, by their contracts. Conditions: the numbers are pieces (where they are not, the callers ask nothing).
-/
import Derived.Test.YtphjiicdodkfbaaGood
namespace Go.Proofs.Ytphjiicdodkfbaa
open Go.RowKit

/-- The loop's state at the piece k: what is left leads to the same sum. -/
def SumAt (xs : List Int) (k : Nat) (s : Int) : Prop := sumFrom s (xs.drop k) = sumFrom 0 xs
def RunAt (xs : List Int) (k : Nat) (s : Int) : Prop := runFrom s (xs.drop k) = runFrom 0 xs
def sumP (xs : List Int) : Int := sumFrom 0 xs
def runP (xs : List Int) : Int := runFrom 0 xs

theorem SumAt.succ {xs : List Int} {k : Nat} {s x : Int} (h : SumAt xs k s) (hk : k < xs.length) (hx : xs.getD k 0 = x) : SumAt xs (k + 1) (s + x) := by
  unfold SumAt at *; rw [← h, sumFrom_step xs k hk s, hx]
theorem SumAt.done {xs : List Int} {k : Nat} {s : Int} (h : SumAt xs k s) (hk : ¬ k < xs.length) : s = sumP xs := by
  unfold SumAt at h; rw [sumFrom_end xs k (by omega)] at h; exact h
theorem RunAt.succ {xs : List Int} {k : Nat} {s x : Int} (h : RunAt xs k s) (hk : k < xs.length) (hx : xs.getD k 0 = x) (hr : ¬ s + 1 < x) : RunAt xs (k + 1) (s + x) := by
  unfold RunAt at *; rw [← h, runFrom_step xs k hk s (by rw [hx]; exact hr), hx]
theorem RunAt.stop {xs : List Int} {k : Nat} {s x : Int} (h : RunAt xs k s) (hk : k < xs.length) (hx : xs.getD k 0 = x) (hr : s + 1 < x) : s = runP xs := by
  unfold RunAt at h; rw [runFrom_stop xs k hk s (by rw [hx]; exact hr)] at h; exact h
theorem RunAt.done {xs : List Int} {k : Nat} {s : Int} (h : RunAt xs k s) (hk : ¬ k < xs.length) : s = runP xs := by
  unfold RunAt at h; rw [runFrom_end xs k (by omega)] at h; exact h
theorem Good.len {xs : List Int} (h : Good xs) : xs.length ≤ 20 := h.1
theorem Good.bd {xs : List Int} (h : Good xs) {k : Nat} (hk : k < xs.length) {x : Int} (hx : xs.getD k 0 = x) : 1 ≤ x ∧ x ≤ 10000 := by
  rw [← hx]; exact h.2.1 k hk
theorem sumFrom_bd : ∀ (l : List Int) (s : Int), (∀ x ∈ l, 1 ≤ x ∧ x ≤ 10000) → s ≤ sumFrom s l ∧ sumFrom s l ≤ s + 10000 * l.length := by
  intro l
  induction l with
  | nil => intro s _; simp [sumFrom]
  | cons a l ih =>
    intro s h
    have h1 := h a (by simp)
    have h2 := ih (s + a) fun x hx => h x (by simp [hx])
    simp only [sumFrom, List.length_cons]
    omega
theorem runFrom_bd : ∀ (l : List Int) (s : Int), (∀ x ∈ l, 1 ≤ x ∧ x ≤ 10000) → s ≤ runFrom s l ∧ runFrom s l ≤ s + 10000 * l.length := by
  intro l
  induction l with
  | nil => intro s _; simp [runFrom]
  | cons a l ih =>
    intro s h
    have h1 := h a (by simp)
    have h2 := ih (s + a) fun x hx => h x (by simp [hx])
    simp only [runFrom, List.length_cons]
    split <;> omega
theorem Good.mem {xs : List Int} (h : Good xs) : ∀ x ∈ xs, 1 ≤ x ∧ x ≤ 10000 := by
  intro x hx
  obtain ⟨k, hk, rfl⟩ := List.getElem_of_mem hx
  have := h.2.1 k hk
  rwa [List.getD_eq_getElem?_getD, List.getElem?_eq_getElem hk] at this
theorem Good.sum {xs : List Int} (h : Good xs) : 0 ≤ sumP xs ∧ sumP xs ≤ 200000 := by
  have h1 := sumFrom_bd xs 0 h.mem; have h2 := h.len; unfold sumP; omega
theorem Good.run {xs : List Int} (h : Good xs) : 0 ≤ runP xs ∧ runP xs ≤ 200000 := by
  have h1 := runFrom_bd xs 0 h.mem; have h2 := h.len; unfold runP; omega

set_option maxHeartbeats 1000000 in
theorem piSum_any (v : Value) (xs : List Int) (w : World) (h : Sv w v xs) (hg : Good xs) :
    Calls Try.prog 106 #[v] w fun e w' => e = .returned (.int .i64 (sumP xs)) ∧ w = w' := by
  have hl := hg.len
  obtain ⟨p, cap, rfl, hx⟩ := h
  go_enter Try.func106, Try.ntmps106
  go_wp2
  go_loop [3, 8] (fun t i => ∃ (k : Nat) (s : Int), k ≤ xs.length ∧ i = .int .i64 k ∧ t = .int .i64 s ∧ 0 ≤ s ∧ s ≤ 10000 * k ∧ SumAt xs k s) (fun _ i => xs.length - (intOf i).toNat)
  case atStart => exact ⟨0, 0, Nat.zero_le _, rfl, rfl, by omega, by omega, rfl⟩
  case round =>
    obtain ⟨k, s, hk, rfl, rfl, hs0, hs1, ha⟩ := hrel
    by_cases hlt : k < xs.length
    · obtain ⟨b, off, rfl, hbl, hc⟩ := hx (by omega)
      have hcell := hc k hlt
      obtain ⟨x, ex⟩ : ∃ x, xs.getD k 0 = x := ⟨_, rfl⟩
      obtain ⟨hx1, hx2⟩ := hg.bd hlt ex
      rw [ex] at hcell
      have EX := Lib.hid ex
      clear hc hx ex
      go_wp2
      go_round
      case rel => exact ⟨k + 1, s + x, by omega, by go_num, rfl, by omega, by omega, ha.succ hlt EX.out⟩
      case measure => simp [intOf]; omega
    · clear hx
      go_wp2
      go_ret
      exact ⟨ret_int (ha.done hlt), rfl⟩

set_option maxHeartbeats 1000000 in
theorem piRun_any (v : Value) (xs : List Int) (w : World) (h : Sv w v xs) (hg : Good xs) :
    Calls Try.prog 108 #[v] w fun e w' => e = .returned (.int .i64 (runP xs)) ∧ w = w' := by
  have hl := hg.len
  obtain ⟨p, cap, rfl, hx⟩ := h
  go_enter Try.func108, Try.ntmps108
  go_wp2
  go_loop [3, 8] (fun t i => ∃ (k : Nat) (s : Int), k ≤ xs.length ∧ i = .int .i64 k ∧ t = .int .i64 s ∧ 0 ≤ s ∧ s ≤ 10000 * k ∧ RunAt xs k s) (fun _ i => xs.length - (intOf i).toNat)
  case atStart => exact ⟨0, 0, Nat.zero_le _, rfl, rfl, by omega, by omega, rfl⟩
  case round =>
    obtain ⟨k, s, hk, rfl, rfl, hs0, hs1, ha⟩ := hrel
    by_cases hlt : k < xs.length
    · obtain ⟨b, off, rfl, hbl, hc⟩ := hx (by omega)
      have hcell := hc k hlt
      obtain ⟨x, ex⟩ : ∃ x, xs.getD k 0 = x := ⟨_, rfl⟩
      obtain ⟨hx1, hx2⟩ := hg.bd hlt ex
      rw [ex] at hcell
      have EX := Lib.hid ex
      clear hc hx ex
      by_cases hr : s + 1 < x
      · go_wp2
        go_ret
        exact ⟨ret_int (ha.stop hlt EX.out hr), rfl⟩
      · go_wp2
        go_round
        case rel => exact ⟨k + 1, s + x, by omega, by go_num, rfl, by omega, by omega, ha.succ hlt EX.out hr⟩
        case measure => simp [intOf]; omega
    · clear hx
      go_wp2
      go_ret
      exact ⟨ret_int (ha.done hlt), rfl⟩

set_option maxHeartbeats 1000000 in
theorem runOf_any (v : Value) (xs : List Int) (w : World) (h : Sv w v xs) (hg : Good xs) :
    Calls Try.prog 114 #[v] w fun e w' => e = .returned (.int .i64 (runP xs)) ∧ w = w' := by
  have hl := hg.len
  obtain ⟨p, cap, rfl, hx⟩ := h
  go_enter Try.func114, Try.ntmps114
  go_wp2
  go_loop [3, 8] (fun t i => ∃ (k : Nat) (s : Int), k ≤ xs.length ∧ i = .int .i64 k ∧ t = .int .i64 s ∧ 0 ≤ s ∧ s ≤ 10000 * k ∧ RunAt xs k s) (fun _ i => xs.length - (intOf i).toNat)
  case atStart => exact ⟨0, 0, Nat.zero_le _, rfl, rfl, by omega, by omega, rfl⟩
  case round =>
    obtain ⟨k, s, hk, rfl, rfl, hs0, hs1, ha⟩ := hrel
    by_cases hlt : k < xs.length
    · obtain ⟨b, off, rfl, hbl, hc⟩ := hx (by omega)
      have hcell := hc k hlt
      obtain ⟨x, ex⟩ : ∃ x, xs.getD k 0 = x := ⟨_, rfl⟩
      obtain ⟨hx1, hx2⟩ := hg.bd hlt ex
      rw [ex] at hcell
      have EX := Lib.hid ex
      clear hc hx ex
      by_cases hr : s + 1 < x
      · go_wp2
        go_ret
        exact ⟨ret_int (ha.stop hlt EX.out hr), rfl⟩
      · go_wp2
        go_round
        case rel => exact ⟨k + 1, s + x, by omega, by go_num, rfl, by omega, by omega, ha.succ hlt EX.out hr⟩
        case measure => simp [intOf]; omega
    · clear hx
      go_wp2
      go_ret
      exact ⟨ret_int (ha.done hlt), rfl⟩

set_option maxHeartbeats 1000000 in
theorem with_any (a b : Int) (w : World) (ha : 0 ≤ a) (ha2 : a ≤ 1000000) (hb : 0 ≤ b) (hb2 : b ≤ 1000000) :
    Calls Try.prog 123 #[.agg #[.int .i64 a], .int .i64 b] w fun e w' => e = .returned (.agg #[.int .i64 (a + b)]) ∧ Below w.heap.size w w' := by
  go_enter Try.func123, Try.ntmps123
  go_wp2
  exact bodyPost_ret (v := .agg #[.int .i64 (a + b)]) (by simp [results, Try.results123, go_sem]) rfl ⟨rfl, (((Below.refl _ _).alloc (Nat.le_refl _) _).alloc (by simp) _)⟩

set_option maxHeartbeats 1000000 in
theorem sumOfAll_any (v : Value) (xs : List Int) (w : World) (h : Sv w v xs) (hg : Good xs) :
    Calls Try.prog 111 #[v] w fun e w' => e = .returned (.agg #[.int .i64 (sumP xs)]) ∧ Below w.heap.size w w' := by
  have hl := hg.len
  obtain ⟨p, cap, rfl, hx⟩ := h
  go_enter Try.func111, Try.ntmps111
  go_wp2
  go_loopw [9] (fun i wr => ∃ (k : Nat) (s : Int), k ≤ xs.length ∧ i = .int .i64 k ∧ 0 ≤ s ∧ s ≤ 10000 * k ∧ SumAt xs k s ∧ wr.cell? ⟨w.heap.size + 1, 0, none⟩ = some (.int .i64 s) ∧ wr.frozen? ⟨w.heap.size + 1, 0, none⟩ = false ∧
      wr.cell? ⟨w.heap.size, 0, none⟩ = some (.int .i64 0) ∧ wr.frozen? ⟨w.heap.size, 0, none⟩ = false ∧ w.heap.size + 2 ≤ wr.heap.size ∧ Below w.heap.size w wr) (fun i _ => xs.length - (intOf i).toNat)
  case atStart => exact ⟨0, 0, Nat.zero_le _, rfl, by omega, by omega, rfl, by simp only [World.cell?, blk_b]; rfl, by simp only [World.frozen?, blk_b]; rfl, by simp only [World.cell?, blk_a]; rfl, by simp only [World.frozen?, blk_a]; rfl, by simp, ((Below.refl _ _).alloc (Nat.le_refl _) _).alloc (by simp) _⟩
  case round =>
    obtain ⟨k, s, hk, rfl, hs0, hs1, ha, c1, f1, c0, f0, hsz, hb⟩ := hrel
    by_cases hlt : k < xs.length
    · obtain ⟨b, off, rfl, hbl, hc⟩ := hx (by omega)
      have hcell := (hb.cell (p := ⟨b, off + k, none⟩) hbl).trans (hc k hlt)
      obtain ⟨x, ex⟩ : ∃ x, xs.getD k 0 = x := ⟨_, rfl⟩
      obtain ⟨hx1, hx2⟩ := hg.bd hlt ex
      rw [ex] at hcell
      have EX := Lib.hid ex
      clear hc hx ex
      go_wp2_with fail
      refine (with_any s x _ hs0 (by omega) (by omega) (by omega)).mono ?_
      rintro e w2 ⟨rfl, b2⟩
      have d1 : w2.cell? ⟨w.heap.size + 1, 0, none⟩ = some (.int .i64 s) := (b2.cell (p := ⟨w.heap.size + 1, 0, none⟩) (by show w.heap.size + 1 < _; omega)).trans c1
      have g1 : w2.frozen? ⟨w.heap.size + 1, 0, none⟩ = false := (b2.frozen (p := ⟨w.heap.size + 1, 0, none⟩) (by show w.heap.size + 1 < _; omega)).trans f1
      have d0 : w2.cell? ⟨w.heap.size, 0, none⟩ = some (.int .i64 0) := (b2.cell (p := ⟨w.heap.size, 0, none⟩) (by show w.heap.size < _; omega)).trans c0
      have g0 : w2.frozen? ⟨w.heap.size, 0, none⟩ = false := (b2.frozen (p := ⟨w.heap.size, 0, none⟩) (by show w.heap.size < _; omega)).trans f0
      have z2 := b2.size
      have b3 := hb.trans (b2.mono (by omega))
      clear c1 f1 c0 f0 b2 hb hcell
      go_wp2
      go_roundw
      case rel =>
        refine ⟨k + 1, s + x, by omega, by go_num, by omega, by omega, ha.succ hlt EX.out, World.cell?_setCell_same _ _ _ d1, (World.frozen?_setCell _ _ _ _).trans g1, (World.cell?_setCell_other _ _ _ _ (by simp)).trans d0, (World.frozen?_setCell _ _ _ _).trans g0, ?_, b3.setCell (by show w.heap.size ≤ w.heap.size + 1; omega) _⟩
        simp [World.setCell]; omega
      case measure => simp [intOf]; omega
    · clear hx
      go_wp2
      refine bodyPost_ret (v := .agg #[.int .i64 (sumP xs)]) ?_ rfl ⟨rfl, hb.setCell (Nat.le_refl _) _⟩
      rw [← ha.done hlt]
      have cz : (wr.setCell ⟨w.heap.size, 0, none⟩ (.int .i64 s)).cell? ⟨w.heap.size, 0, none⟩ = some (.int .i64 s) := World.cell?_setCell_same _ _ _ c0
      simp [cz, results, Try.results111, go_sem]


theorem least_any (a b : Int) (w : World) : Calls Try.prog 78 #[.int .i64 a, .int .i64 b] w fun e w' => e = .returned (.int .i64 (min a b)) ∧ w = w' := by
  by_cases h : a < b
  · go_enter Try.func78, Try.ntmps78
    go_wp2
    go_ret
    exact ⟨ret_int (by omega), rfl⟩
  · go_enter Try.func78, Try.ntmps78
    go_wp2
    go_ret
    exact ⟨ret_int (by omega), rfl⟩

end Go.Proofs.Ytphjiicdodkfbaa
