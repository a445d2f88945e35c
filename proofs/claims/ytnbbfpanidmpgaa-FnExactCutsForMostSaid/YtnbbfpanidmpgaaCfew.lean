/-
  Plain lists of integers: the fewest cuts for a chain, and that such cuts pay for each chain of up to 63 links. No condition; no program is spoken of here.
-/
import Derived.Test.YtnbbfpanidmpgaaCsum
import Derived.Test.YtnbbfpanidmpgaaCcomb
import Derived.Test.YtnbbfpanidmpgaaCleast
namespace Go.Proofs.Ytnbbfpanidmpgaa

def ins (n : Int) : List Int → List Int
  | [] => [n]
  | a :: l => if n ≤ a then n :: a :: l else a :: ins n l
def isort : List Int → List Int
  | [] => []
  | a :: l => ins a (isort l)
theorem ins_perm (n : Int) : ∀ l, (ins n l).Perm (n :: l) := by
  intro l
  induction l with
  | nil => exact List.Perm.refl _
  | cons a l ih =>
    simp only [ins]
    split
    · exact List.Perm.refl _
    · exact (List.Perm.cons a ih).trans (List.Perm.swap n a l)
theorem ins_pw (n : Int) : ∀ l, l.Pairwise (fun x y => x ≤ y) → (ins n l).Pairwise (fun x y => x ≤ y) := by
  intro l
  induction l with
  | nil => intro _; simp [ins]
  | cons a l ih =>
    intro h
    simp only [ins]
    split
    · rename_i hle
      refine List.pairwise_cons.2 ⟨fun b hb => ?_, h⟩
      rcases List.mem_cons.1 hb with rfl | hb
      · exact hle
      · have := (List.pairwise_cons.1 h).1 b hb; omega
    · rename_i hle
      refine List.pairwise_cons.2 ⟨fun b hb => ?_, ih (List.pairwise_cons.1 h).2⟩
      rcases List.mem_cons.1 ((ins_perm n l).mem_iff.1 hb) with rfl | hb
      · omega
      · exact (List.pairwise_cons.1 h).1 b hb
theorem isort_eq : ∀ l, isort l = sortL l := by
  intro l
  refine sortL_eq ?_ ?_
  · induction l with
    | nil => simp [isort]
    | cons a l ih => exact ins_pw a _ ih
  · induction l with
    | nil => simp [isort]
    | cons a l ih => exact (ins_perm a _).trans (List.Perm.cons a ih)
/-- Cuts pay. -/
def payB (m : Int) (c : List Int) : Bool := decide (runP (pcsP m c) = m)
def fitB : Int → Int → List Int → Bool
  | f, m, [] => decide (f ≤ m)
  | f, m, c :: l => decide (f ≤ c) && fitB (c + 1) m l
theorem fitB_iff : ∀ (l : List Int) (f m : Int), fitB f m l = true ↔ Fit f m l := by
  intro l
  induction l with
  | nil => intro f m; simp [fitB, Fit]
  | cons c l ih => intro f m; simp [fitB, Fit, ih]
def wits : List (List Int) := [[], [0], [0], [1], [1], [2], [2], [0, 3], [0, 3], [0, 4], [0, 4], [1, 5], [1, 5], [1, 6], [1, 6], [2, 7], [2, 7], [2, 8], [2, 8], [3, 9], [3, 9], [3, 10], [3, 10], [0, 4, 11], [0, 4, 11], [0, 4, 12], [0, 4, 12], [0, 5, 13], [0, 5, 13], [0, 5, 14], [0, 5, 14], [1, 6, 15], [1, 6, 15], [1, 6, 16], [1, 6, 16], [1, 7, 17], [1, 7, 17], [1, 7, 18], [1, 7, 18], [2, 8, 19], [2, 8, 19], [2, 8, 20], [2, 8, 20], [2, 9, 21], [2, 9, 21], [2, 9, 22], [2, 9, 22], [3, 10, 23], [3, 10, 23], [3, 10, 24], [3, 10, 24], [3, 11, 25], [3, 11, 25], [3, 11, 26], [3, 11, 26], [4, 12, 27], [4, 12, 27], [4, 12, 28], [4, 12, 28], [4, 13, 29], [4, 13, 29], [4, 13, 30], [4, 13, 30]]
def chk (m : Nat) : Bool :=
  let c := wits.getD (m - 1) []
  fitB 0 m c && decide (runP (isort (partsP m c)) = m) && decide ((m : Int) ≤ mostC c.length) && (List.range c.length).all (fun j => decide (mostC j < m))
theorem chk_all : ∀ m, m < 64 → 1 ≤ m → chk m = true := by decide +kernel
/-- The list of all cuts that pay, as few as there can be. -/
noncomputable def allC (m : Int) : List (List Int) := (combF m.toNat 0 (leastC mostC 0 m)).filter (payB m)
theorem allC_ne {m : Int} (h1 : 1 ≤ m) (h2 : m ≤ 63) : allC m ≠ [] := by
  obtain ⟨n, rfl⟩ : ∃ n : Nat, m = n := ⟨m.toNat, by omega⟩
  have h := chk_all n (by omega) (by omega)
  unfold chk at h
  obtain ⟨c, hc⟩ : ∃ c, wits.getD (n - 1) [] = c := ⟨_, rfl⟩
  simp only [hc, Bool.and_eq_true, decide_eq_true_eq, List.all_eq_true, List.mem_range] at h
  obtain ⟨⟨⟨h3, h4⟩, h5⟩, h6⟩ := h
  rw [fitB_iff] at h3
  rw [isort_eq] at h4
  have hl : leastC mostC 0 (n : Int) = c.length := leastC_eq ⟨Nat.zero_le _, h5, fun j _ hj => h6 j hj⟩
  have hm : c ∈ allC n := by
    unfold allC
    rw [hl, List.mem_filter]
    exact ⟨mem_combF _ _ _ (by simpa using h3), decide_eq_true h4⟩
  intro e
  rw [e] at hm
  cases hm
theorem least63 {m : Int} (h1 : 1 ≤ m) (h2 : m ≤ 63) : leastC mostC 0 m ≤ 3 := by
  by_cases a : m ≤ 1
  · rw [leastC_eq (c := 0) ⟨Nat.zero_le _, by simpa [mostC] using a, fun j _ hj => by omega⟩]; omega
  · by_cases b : m ≤ 7
    · have hj0 : ∀ j, 0 ≤ j → j < 1 → mostC j < m := by
        intro j _ hj
        obtain rfl : j = 0 := by omega
        simp [mostC]; omega
      rw [leastC_eq (c := 1) ⟨Nat.zero_le _, by simpa [mostC] using b, hj0⟩]; omega
    · by_cases c : m ≤ 23
      · rw [leastC_eq (c := 2) ⟨Nat.zero_le _, by simpa [mostC] using c, fun j _ hj => by rcases (show j = 0 ∨ j = 1 by omega) with rfl | rfl <;> simp [mostC] <;> omega⟩]; omega
      · rw [leastC_eq (c := 3) ⟨Nat.zero_le _, by simpa [mostC] using h2, fun j _ hj => by rcases (show j = 0 ∨ j = 1 ∨ j = 2 by omega) with rfl | rfl | rfl <;> simp [mostC] <;> omega⟩]; omega

end Go.Proofs.Ytnbbfpanidmpgaa
