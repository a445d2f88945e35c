/-
  The program's table of what is drawn from a purse, in memory, and one coin more of a kind (the program's with), by its contract. Conditions: numbers within their bounds.
-/
import Derived.Test.YtdgadabfahmdmaaVtw
import Derived.Test.YtdgadabfahmdmaaVdp
namespace Go.Proofs.Ytdgadabfahmdmaa
open Go.RowKit

/-- A table of n entries in the block g. -/
def Dp (w : World) (g n : Nat) (F : Nat → Dr) : Prop :=
  ∃ c : Array Value, w.heap[g]? = some (.cells c 60 (0, 0)) ∧ c.size = n * 2 ∧
    ∀ j, j < n → c[j * 2]? = some (.int .i64 ((F j).k : Int)) ∧ c[j * 2 + 1]? = some (.int .i64 ((F j).t : Int))
theorem Dp.below {w w' : World} {g n D : Nat} {F : Nat → Dr} (h : Dp w g n F) (hb : Below D w w') (hD : w.heap.size ≤ D) : Dp w' g n F := by
  obtain ⟨c, hg, r⟩ := h
  exact ⟨c, (hb.block g (Nat.lt_of_lt_of_le (Array.getElem?_eq_some_iff.1 hg).1 hD)).trans hg, r⟩
theorem Dp.lt {w : World} {g n : Nat} {F : Nat → Dr} (h : Dp w g n F) : g < w.heap.size := by
  obtain ⟨c, hg, _⟩ := h
  exact (Array.getElem?_eq_some_iff.1 hg).1
theorem Dp.congr {w : World} {g n : Nat} {F G : Nat → Dr} (h : Dp w g n F) (e : ∀ j, j < n → F j = G j) : Dp w g n G := by
  obtain ⟨c, hg, hs, hc⟩ := h
  refine ⟨c, hg, hs, fun j hj => ?_⟩
  rw [← e j hj]
  exact hc j hj
theorem Dp.cells {w : World} {g n : Nat} {F : Nat → Dr} (h : Dp w g n F) {j : Nat} (hj : j < n) :
    w.cell? ⟨g, j * 2, none⟩ = some (.int .i64 ((F j).k : Int)) ∧ w.cell? ⟨g, j * 2 + 1, none⟩ = some (.int .i64 ((F j).t : Int)) ∧
    w.frozen? ⟨g, j * 2, none⟩ = false ∧ w.frozen? ⟨g, j * 2 + 1, none⟩ = false := by
  obtain ⟨c, hg, hs, hc⟩ := h
  have := hc j hj
  refine ⟨?_, ?_, ?_, ?_⟩ <;> simp [World.cell?, World.frozen?, hg, this]
theorem dp_load {w : World} {g n : Nat} {F : Nat → Dr} (h : Dp w g n F) {j : Nat} (hj : j < n) {P : Dr} (e : F j = P) :
    w.cell? ⟨g, j * 2, none⟩ = some (.int .i64 (P.k : Int)) ∧ w.cell? ⟨g, j * 2 + 1, none⟩ = some (.int .i64 (P.t : Int)) := by
  obtain ⟨c1, c2, _⟩ := h.cells hj
  rw [e] at c1 c2
  exact ⟨c1, c2⟩
theorem Dp.set {w : World} {g n j : Nat} {F : Nat → Dr} (h : Dp w g n F) (P : Dr) :
    Dp ((w.setCell ⟨g, j * 2, none⟩ (.int .i64 (P.k : Int))).setCell ⟨g, j * 2 + 1, none⟩ (.int .i64 (P.t : Int))) g n (fun i => if i = j then P else F i) := by
  obtain ⟨cs, hg, hs, hc⟩ := h
  refine ⟨(cs.setIfInBounds (j * 2) (.int .i64 (P.k : Int))).setIfInBounds (j * 2 + 1) (.int .i64 (P.t : Int)), ?_, by simpa using hs, fun i hi => ?_⟩
  · simp [World.setCell, Array.getElem?_modify, hg]
  · by_cases e : i = j
    · subst e
      have h0 : i * 2 < cs.size := by omega
      have h1 : i * 2 + 1 < cs.size := by omega
      simp [h0, h1]
    · have hh := hc i hi
      have n1 : ¬ j * 2 + 1 = i * 2 := by omega
      have n2 : ¬ j * 2 = i * 2 := by omega
      have n3 : ¬ j * 2 + 1 = i * 2 + 1 := by omega
      have n4 : ¬ j * 2 = i * 2 + 1 := by omega
      simp only [if_neg e, Array.getElem?_setIfInBounds]
      rw [if_neg n1, if_neg n2, if_neg n3, if_neg n4]
      exact hh
theorem made2_zero (n i : Nat) (hi : i < n * 2) : (madeCells #[Value.int .i64 0, .int .i64 0] (n * 2))[i]? = some (.int .i64 0) := by
  have h : i % 2 = 0 ∨ i % 2 = 1 := by omega
  rcases h with h | h <;> simp [madeCells, hi, h]
theorem Try.infoD : (Try.prog.info? 60).map (fun i => (i.zero, i.size, i.bytes)) = some (some (.agg #[.int .i64 0, .int .i64 0]), 2, 16) := by kernel_rfl
/-- The table as it begins. -/
theorem dp_start (w : World) (n K : Nat) (hn : 1 ≤ n) :
    Dp (w.alloc (.cells ((madeCells #[Value.int .i64 0, .int .i64 0] (n * 2)).setIfInBounds 0 (.int .i64 (K : Int)) |>.setIfInBounds 1 (.int .i64 0)) 60)) w.heap.size n (dr0 K) := by
  refine ⟨_, heap_alloc_new w _, by simp [size_madeCells], fun j hj => ?_⟩
  have z0 := made2_zero n (j * 2) (by omega)
  have z1 := made2_zero n (j * 2 + 1) (by omega)
  have hsz : (madeCells #[Value.int .i64 0, .int .i64 0] (n * 2)).size = n * 2 := size_madeCells _ _
  by_cases e : j = 0
  · subst e
    have h0 : 0 < n * 2 := by omega
    have h1 : 1 < n * 2 := by omega
    simp [hsz, h0, h1, dr0]
  · simp only [Array.getElem?_setIfInBounds]
    rw [if_neg (by omega), if_neg (by omega), if_neg (by omega), if_neg (by omega), z0, z1]
    simp [dr0, e, Dr.z]
/-- Two cells stored in the block g: all other blocks are as they were. -/
theorem set2_other (w : World) (g i j : Nat) (x y : Value) {h : Nat} (hg : h ≠ g) : ((w.setCell ⟨g, i, none⟩ x).setCell ⟨g, j, none⟩ y).heap[h]? = w.heap[h]? := by
  rw [blk_other _ _ _ hg, blk_other _ _ _ hg]
theorem set2_below {w0 w : World} {B g : Nat} (h : Below B w0 w) (hg : B ≤ g) (i j : Nat) (x y : Value) : Below B w0 ((w.setCell ⟨g, i, none⟩ x).setCell ⟨g, j, none⟩ y) :=
  (h.setCell (p := ⟨g, i, none⟩) hg _).setCell (p := ⟨g, j, none⟩) hg _
theorem set2_cell (w : World) (g i j : Nat) (x y : Value) (p : Addr) {u : Value} (h1 : p ≠ ⟨g, i, none⟩) (h2 : p ≠ ⟨g, j, none⟩) (h : w.cell? p = some u) : ((w.setCell ⟨g, i, none⟩ x).setCell ⟨g, j, none⟩ y).cell? p = some u := by
  rw [World.cell?_setCell_other _ _ _ _ (Ne.symm h2), World.cell?_setCell_other _ _ _ _ (Ne.symm h1)]; exact h
theorem set2_keeps (w : World) (B g i j : Nat) (x y : Value) : KeepsFrom B w ((w.setCell ⟨g, i, none⟩ x).setCell ⟨g, j, none⟩ y) :=
  ((KeepsOthers.setCell _ _ _).from _).trans ((KeepsOthers.setCell _ _ _).from _)

set_option maxHeartbeats 4000000 in
theorem with_z (i p : Int) (w : World) :
    Calls Try.prog 90 #[.agg #[.int .i64 0, .int .i64 0], .int .i64 i, .int .i64 p] w fun e w' => e = .returned (.agg #[.int .i64 0, .int .i64 0]) ∧ Below w.heap.size w w' := by
  by_cases hi : i = 0
  · subst hi
    go_enter Try.func90, Try.ntmps90
    go_wp2
    all_goals exact bodyPost_ret (v := .agg #[.int .i64 0, .int .i64 0]) (by simp [results, Try.results90, go_sem]; try omega) rfl ⟨rfl, ((Below.refl _ _).alloc (Nat.le_refl _) _).alloc (by simp) _⟩
  · have d : ((0 : Int) == i) = false := by rw [beq_eq_false_iff_ne]; omega
    go_enter Try.func90, Try.ntmps90
    go_wp2
    all_goals exact bodyPost_ret (v := .agg #[.int .i64 0, .int .i64 0]) (by simp [results, Try.results90, go_sem]; try omega) rfl ⟨rfl, ((Below.refl _ _).alloc (Nat.le_refl _) _).alloc (by simp) _⟩
set_option maxHeartbeats 4000000 in
theorem with_hit1 (k t p : Int) (h0 : 0 ≤ t) (h1 : t ≤ 1099511627776) (hz : k ≠ 0) (hp : 1 + t ≤ p) (w : World) :
    Calls Try.prog 90 #[.agg #[.int .i64 k, .int .i64 t], .int .i64 k, .int .i64 p] w fun e w' => e = .returned (.agg #[.int .i64 k, .int .i64 (1 + t)]) ∧ Below w.heap.size w w' := by
  have d : (k == 0) = false := by rw [beq_eq_false_iff_ne]; omega
  go_enter Try.func90, Try.ntmps90
  go_wp2
  all_goals exact bodyPost_ret (v := .agg #[.int .i64 k, .int .i64 (1 + t)]) (by simp [results, Try.results90, go_sem]; try omega) rfl ⟨rfl, ((Below.refl _ _).alloc (Nat.le_refl _) _).alloc (by simp) _⟩
set_option maxHeartbeats 4000000 in
theorem with_miss1 (k t p : Int) (h0 : 0 ≤ t) (h1 : t ≤ 1099511627776) (hz : k ≠ 0) (hp : p < 1 + t) (w : World) :
    Calls Try.prog 90 #[.agg #[.int .i64 k, .int .i64 t], .int .i64 k, .int .i64 p] w fun e w' => e = .returned (.agg #[.int .i64 0, .int .i64 0]) ∧ Below w.heap.size w w' := by
  have d : (k == 0) = false := by rw [beq_eq_false_iff_ne]; omega
  go_enter Try.func90, Try.ntmps90
  go_wp2
  all_goals exact bodyPost_ret (v := .agg #[.int .i64 0, .int .i64 0]) (by simp [results, Try.results90, go_sem]; try omega) rfl ⟨rfl, ((Below.refl _ _).alloc (Nat.le_refl _) _).alloc (by simp) _⟩
set_option maxHeartbeats 4000000 in
theorem with_new1 (k t i p : Int) (hz : k ≠ 0) (hi : k ≠ i) (hp : 1 ≤ p) (w : World) :
    Calls Try.prog 90 #[.agg #[.int .i64 k, .int .i64 t], .int .i64 i, .int .i64 p] w fun e w' => e = .returned (.agg #[.int .i64 i, .int .i64 1]) ∧ Below w.heap.size w w' := by
  have d : (k == 0) = false := by rw [beq_eq_false_iff_ne]; omega
  have di : ((k : Int) == i) = false := by rw [beq_eq_false_iff_ne]; omega
  go_enter Try.func90, Try.ntmps90
  go_wp2
  all_goals exact bodyPost_ret (v := .agg #[.int .i64 i, .int .i64 1]) (by simp [results, Try.results90, go_sem]; try omega) rfl ⟨rfl, ((Below.refl _ _).alloc (Nat.le_refl _) _).alloc (by simp) _⟩
set_option maxHeartbeats 4000000 in
theorem with_none1 (k t i p : Int) (hz : k ≠ 0) (hi : k ≠ i) (hp : p < 1) (w : World) :
    Calls Try.prog 90 #[.agg #[.int .i64 k, .int .i64 t], .int .i64 i, .int .i64 p] w fun e w' => e = .returned (.agg #[.int .i64 0, .int .i64 0]) ∧ Below w.heap.size w w' := by
  have d : (k == 0) = false := by rw [beq_eq_false_iff_ne]; omega
  have di : ((k : Int) == i) = false := by rw [beq_eq_false_iff_ne]; omega
  go_enter Try.func90, Try.ntmps90
  go_wp2
  all_goals exact bodyPost_ret (v := .agg #[.int .i64 0, .int .i64 0]) (by simp [results, Try.results90, go_sem]; try omega) rfl ⟨rfl, ((Below.refl _ _).alloc (Nat.le_refl _) _).alloc (by simp) _⟩
set_option maxHeartbeats 4000000 in
theorem with_hit2 (t p : Int) (h0 : 0 ≤ t) (h1 : t ≤ 1099511627776) (hz : t ≠ 0) (hp : 1 + t ≤ p) (w : World) :
    Calls Try.prog 90 #[.agg #[.int .i64 0, .int .i64 t], .int .i64 0, .int .i64 p] w fun e w' => e = .returned (.agg #[.int .i64 0, .int .i64 (1 + t)]) ∧ Below w.heap.size w w' := by
  have d : (t == 0) = false := by rw [beq_eq_false_iff_ne]; omega
  go_enter Try.func90, Try.ntmps90
  go_wp2
  all_goals exact bodyPost_ret (v := .agg #[.int .i64 0, .int .i64 (1 + t)]) (by simp [results, Try.results90, go_sem]; try omega) rfl ⟨rfl, ((Below.refl _ _).alloc (Nat.le_refl _) _).alloc (by simp) _⟩
set_option maxHeartbeats 4000000 in
theorem with_miss2 (t p : Int) (h0 : 0 ≤ t) (h1 : t ≤ 1099511627776) (hz : t ≠ 0) (hp : p < 1 + t) (w : World) :
    Calls Try.prog 90 #[.agg #[.int .i64 0, .int .i64 t], .int .i64 0, .int .i64 p] w fun e w' => e = .returned (.agg #[.int .i64 0, .int .i64 0]) ∧ Below w.heap.size w w' := by
  have d : (t == 0) = false := by rw [beq_eq_false_iff_ne]; omega
  go_enter Try.func90, Try.ntmps90
  go_wp2
  all_goals exact bodyPost_ret (v := .agg #[.int .i64 0, .int .i64 0]) (by simp [results, Try.results90, go_sem]; try omega) rfl ⟨rfl, ((Below.refl _ _).alloc (Nat.le_refl _) _).alloc (by simp) _⟩
set_option maxHeartbeats 4000000 in
theorem with_new2 (t i p : Int) (hz : t ≠ 0) (hi : 0 ≠ i) (hp : 1 ≤ p) (w : World) :
    Calls Try.prog 90 #[.agg #[.int .i64 0, .int .i64 t], .int .i64 i, .int .i64 p] w fun e w' => e = .returned (.agg #[.int .i64 i, .int .i64 1]) ∧ Below w.heap.size w w' := by
  have d : (t == 0) = false := by rw [beq_eq_false_iff_ne]; omega
  have di : ((0 : Int) == i) = false := by rw [beq_eq_false_iff_ne]; omega
  go_enter Try.func90, Try.ntmps90
  go_wp2
  all_goals exact bodyPost_ret (v := .agg #[.int .i64 i, .int .i64 1]) (by simp [results, Try.results90, go_sem]; try omega) rfl ⟨rfl, ((Below.refl _ _).alloc (Nat.le_refl _) _).alloc (by simp) _⟩
set_option maxHeartbeats 4000000 in
theorem with_none2 (t i p : Int) (hz : t ≠ 0) (hi : 0 ≠ i) (hp : p < 1) (w : World) :
    Calls Try.prog 90 #[.agg #[.int .i64 0, .int .i64 t], .int .i64 i, .int .i64 p] w fun e w' => e = .returned (.agg #[.int .i64 0, .int .i64 0]) ∧ Below w.heap.size w w' := by
  have d : (t == 0) = false := by rw [beq_eq_false_iff_ne]; omega
  have di : ((0 : Int) == i) = false := by rw [beq_eq_false_iff_ne]; omega
  go_enter Try.func90, Try.ntmps90
  go_wp2
  all_goals exact bodyPost_ret (v := .agg #[.int .i64 0, .int .i64 0]) (by simp [results, Try.results90, go_sem]; try omega) rfl ⟨rfl, ((Below.refl _ _).alloc (Nat.le_refl _) _).alloc (by simp) _⟩

def drV (d : Dr) : Value := .agg #[.int .i64 (d.k : Int), .int .i64 (d.t : Int)]
theorem drW_any {a : Nat} (d : Dr) (k p : Nat) (w : World) (hd : d.t ≤ a) (ha : a ≤ 1099511627776) :
    Calls Try.prog 90 #[drV d, .int .i64 (k : Int), .int .i64 (p : Int)] w fun e w' => e = .returned (drV (drW k p d)) ∧ Below w.heap.size w w' := by
  by_cases hz : d.k = 0 ∧ d.t = 0
  · have e : drW k p d = Dr.z := by unfold drW; exact if_pos (.inl hz)
    rw [e]
    have := with_z k p w
    unfold drV
    rw [hz.1, hz.2]
    exact this
  · by_cases hk : d.k = k
    · by_cases hp : d.t + 1 ≤ p
      · rw [drW_k hk hz hp]
        have e : drV ⟨k, d.t + 1⟩ = .agg #[.int .i64 (k : Int), .int .i64 (1 + (d.t : Int))] := by
          simp only [drV]
          rw [show ((d.t + 1 : Nat) : Int) = 1 + (d.t : Int) by omega]
        rw [e]
        by_cases h0 : d.k = 0
        · obtain rfl : k = 0 := by omega
          have := with_hit2 d.t p (by omega) (by omega) (by omega) (by omega) w
          unfold drV; rw [h0]; exact this
        · have := with_hit1 k d.t p (by omega) (by omega) (by omega) (by omega) w
          unfold drV; rw [hk]; exact this
      · rw [drW_no (by rw [if_pos hk]; omega)]
        by_cases h0 : d.k = 0
        · have := with_miss2 d.t p (by omega) (by omega) (by omega) (by omega) w
          obtain rfl : k = 0 := by omega
          unfold drV; rw [h0]; exact this
        · have := with_miss1 k d.t p (by omega) (by omega) (by omega) (by omega) w
          unfold drV; rw [hk]; exact this
    · by_cases hp : 1 ≤ p
      · rw [drW_o hk hz hp]
        by_cases h0 : d.k = 0
        · have := with_new2 d.t k p (by omega) (by omega) (by omega) w
          unfold drV; rw [h0]; exact this
        · have := with_new1 d.k d.t k p (by omega) (by omega) (by omega) w
          unfold drV; exact this
      · rw [drW_no (by rw [if_neg hk]; omega)]
        by_cases h0 : d.k = 0
        · have := with_none2 d.t k p (by omega) (by omega) (by omega) w
          unfold drV; rw [h0]; exact this
        · have := with_none1 d.k d.t k p (by omega) (by omega) (by omega) w
          unfold drV; exact this
end Go.Proofs.Ytdgadabfahmdmaa
