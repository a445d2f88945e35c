/-
  Plain lists of integers: what some of the first numbers make together, and that the run is the sum of all just where every number up to it is made. Conditions: pieces in order.
-/
import Derived.Test.YtkadmopnfmbedaaNumc
import Derived.Test.YtkadmopnfmbedaaCpure
namespace Go.Proofs.Ytkadmopnfmbedaa

/-- Some of the first k numbers make s together. -/
def mk (xs : List Int) : Nat → Int → Bool
  | 0, s => decide (s = 0)
  | k + 1, s => mk xs k s || mk xs k (s - xs.getD k 0)
theorem sumFrom_sumL : ∀ (l : List Int) (s : Int), sumFrom s l = s + sumL l := by
  intro l
  induction l with
  | nil => intro s; simp [sumFrom, sumL]
  | cons a l ih => intro s; simp only [sumFrom, sumL, ih]; omega
theorem mk_neg {xs : List Int} (h : ∀ j, j < xs.length → 1 ≤ xs.getD j 0) : ∀ (k : Nat) (s : Int), k ≤ xs.length → s < 0 → mk xs k s = false := by
  intro k
  induction k with
  | zero => intro s _ hs; simp [mk]; omega
  | succ k ih =>
    intro s hk hs
    have := h k (by omega)
    simp only [mk, ih s (by omega) hs, ih (s - xs.getD k 0) (by omega) (by omega), Bool.or_self]
theorem mk_bd {xs : List Int} (hg : Good xs) : ∀ (k : Nat) (s : Int), k ≤ xs.length → mk xs k s = true → 0 ≤ s ∧ s ≤ 10000 * k := by
  intro k
  induction k with
  | zero => intro s _ hs; simp [mk] at hs; omega
  | succ k ih =>
    intro s hk hs
    have := hg.2.1 k (by omega)
    simp only [mk, Bool.or_eq_true] at hs
    rcases hs with hs | hs
    · have := ih s (by omega) hs; omega
    · have := ih _ (by omega) hs; omega
theorem getD_le {xs : List Int} (hg : Good xs) : ∀ (d k : Nat), k + d < xs.length → xs.getD k 0 ≤ xs.getD (k + d) 0 := by
  intro d
  induction d with
  | zero => intro k _; exact Int.le_refl _
  | succ d ih =>
    intro k hk
    have h1 := ih k (by omega)
    have h2 := hg.2.2 (k + d) (by omega)
    rw [show k + (d + 1) = k + d + 1 by omega]; omega
theorem mk_gap {xs : List Int} (hg : Good xs) {r : Int} {k : Nat} (hr : r + 1 < xs.getD k 0) (h0 : mk xs k (r + 1) = false) : ∀ (d : Nat), k + d ≤ xs.length → mk xs (k + d) (r + 1) = false := by
  intro d
  induction d with
  | zero => intro _; exact h0
  | succ d ih =>
    intro hd
    have h1 := getD_le hg d k (by omega)
    rw [show k + (d + 1) = k + d + 1 by omega]
    simp only [mk]
    rw [ih (by omega), mk_neg (fun j hj => (hg.2.1 j hj).1) (k + d) _ (by omega) (by omega)]; rfl
theorem run_made {xs : List Int} (hg : Good xs) : ∀ (d k : Nat) (r : Int), k + d = xs.length → 0 ≤ r → (∀ s, mk xs k s = true ↔ 0 ≤ s ∧ s ≤ r) →
    (runFrom r (xs.drop k) = sumFrom r (xs.drop k) ∧ ∀ s, mk xs xs.length s = true ↔ 0 ≤ s ∧ s ≤ sumFrom r (xs.drop k)) ∨
    (0 ≤ runFrom r (xs.drop k) ∧ runFrom r (xs.drop k) < sumFrom r (xs.drop k) ∧ mk xs xs.length (runFrom r (xs.drop k) + 1) = false) := by
  intro d
  induction d with
  | zero =>
    intro k r hk _ h
    rw [runFrom_end xs k (by omega), sumFrom_end xs k (by omega)]
    obtain rfl : k = xs.length := by omega
    exact .inl ⟨rfl, h⟩
  | succ d ih =>
    intro k r hk hr h
    have hlt : k < xs.length := by omega
    have hx := hg.2.1 k hlt
    by_cases hb : r + 1 < xs.getD k 0
    · right
      rw [runFrom_stop xs k hlt r hb]
      refine ⟨hr, ?_, ?_⟩
      · rw [sumFrom_step xs k hlt]
        have := (sumFrom_bd (xs.drop (k + 1)) (r + xs.getD k 0) (fun x hx => hg.mem x (List.mem_of_mem_drop hx))).1
        omega
      · have h0 : mk xs k (r + 1) = false := by
          cases e : mk xs k (r + 1) with
          | false => rfl
          | true => have := (h (r + 1)).1 e; omega
        have := mk_gap hg hb h0 (d + 1) (by omega)
        rwa [hk] at this
    · rw [runFrom_step xs k hlt r hb, sumFrom_step xs k hlt]
      refine ih (k + 1) (r + xs.getD k 0) (by omega) (by omega) fun s => ?_
      simp only [mk, Bool.or_eq_true, h]
      omega
/-- The run is the sum of all: just where every number up to it is made. -/
theorem run_all {xs : List Int} (hg : Good xs) : runP xs = sumP xs ↔ ∀ s, 0 ≤ s → s ≤ sumP xs → mk xs xs.length s = true := by
  have h := run_made hg xs.length 0 0 (by omega) (by omega) (fun s => by simp [mk]; omega)
  simp only [List.drop_zero] at h
  unfold runP sumP
  rcases h with ⟨h1, h2⟩ | ⟨h0, h1, h2⟩
  · exact ⟨fun _ s a b => (h2 s).2 ⟨a, b⟩, fun _ => h1⟩
  · constructor
    · intro e; omega
    · intro ha
      have := ha (runFrom 0 xs + 1) (by omega) (by omega)
      rw [h2] at this; cases this
theorem mk_sum {xs : List Int} (hg : Good xs) : ∀ s, mk xs xs.length s = true → 0 ≤ s ∧ s ≤ sumP xs := by
  intro s hs
  have key : ∀ (k : Nat) (s : Int), k ≤ xs.length → mk xs k s = true → 0 ≤ s ∧ s ≤ sumL (xs.take k) := by
    intro k
    induction k with
    | zero => intro s _ hs; simp [mk] at hs; subst hs; simp [sumL]
    | succ k ih =>
      intro s hk hs
      have hx := hg.2.1 k (by omega)
      have e : xs.take (k + 1) = xs.take k ++ [xs.getD k 0] := by
        rw [List.take_add_one, List.getElem?_eq_getElem (by omega), List.getD_eq_getElem?_getD, List.getElem?_eq_getElem (by omega)]; rfl
      rw [e, sumL_append]
      simp only [sumL]
      simp only [mk, Bool.or_eq_true] at hs
      rcases hs with hs | hs
      · have := ih s (by omega) hs; omega
      · have := ih _ (by omega) hs; omega
  have h := key xs.length s (Nat.le_refl _) hs
  rw [List.take_length] at h
  unfold sumP
  rw [sumFrom_sumL]; omega
/-- Different numbers among 0 .. t: there are t + 1 just where all are there. -/
theorem count_all {D : List Int} {t : Int} (hn : D.Nodup) (hb : ∀ s ∈ D, 0 ≤ s ∧ s ≤ t) (h0 : 0 ≤ t) : ((D.length : Int) = t + 1) ↔ ∀ s, 0 ≤ s → s ≤ t → s ∈ D := by
  have sub : D ⊆ (List.range (t.toNat + 1)).map (fun (n : Nat) => (n : Int)) := by
    intro s hs
    have := hb s hs
    rw [List.mem_map]
    exact ⟨s.toNat, by rw [List.mem_range]; omega, by omega⟩
  constructor
  · intro hl s h1 h2
    apply Classical.byContradiction
    intro hs
    have hn2 : (s :: D).Nodup := List.nodup_cons.2 ⟨hs, hn⟩
    have sub2 : (s :: D) ⊆ (List.range (t.toNat + 1)).map (fun (n : Nat) => (n : Int)) := by
      intro x hx
      rcases List.mem_cons.1 hx with rfl | hx
      · rw [List.mem_map]; exact ⟨x.toNat, by rw [List.mem_range]; omega, by omega⟩
      · exact sub hx
    have := List.Nodup.length_le_of_subset hn2 sub2
    simp at this
    omega
  · intro h
    have h1 := List.Nodup.length_le_of_subset hn sub
    have hn3 : ((List.range (t.toNat + 1)).map (fun (n : Nat) => (n : Int))).Nodup := by
      rw [List.nodup_iff_pairwise_ne, List.pairwise_map]
      exact List.nodup_range.imp (by intro a b hab h; exact hab (by omega))
    have sub4 : ((List.range (t.toNat + 1)).map (fun (n : Nat) => (n : Int))) ⊆ D := by
      intro x hx
      rw [List.mem_map] at hx
      obtain ⟨n, hn, rfl⟩ := hx
      rw [List.mem_range] at hn
      exact h _ (by omega) (by omega)
    have h2 := List.Nodup.length_le_of_subset hn3 sub4
    simp at h1 h2
    omega

end Go.Proofs.Ytkadmopnfmbedaa
