/-
  The most links for so many cuts, and the fewest cuts. No condition; no program is spoken of here.
-/
namespace Go.Proofs.Ytnbbfpanidmpgaa
/-- The most links for so many cuts. -/
def mostC (c : Nat) : Int := ((c : Int) + 1) * 2 ^ (c + 1) - 1
/-- .. of a ring. -/
def mostR (c : Nat) : Int := ((c : Int) + 1) * 2 ^ c - 1
def IsLeast (f : Nat → Int) (s : Nat) (m : Int) (c : Nat) : Prop := s ≤ c ∧ m ≤ f c ∧ ∀ j, s ≤ j → j < c → f j < m
noncomputable def leastC (f : Nat → Int) (s : Nat) (m : Int) : Nat := @dite _ (∃ c, IsLeast f s m c) (Classical.propDecidable _) (fun h => h.choose) (fun _ => 0)
theorem leastC_eq {f : Nat → Int} {s : Nat} {m : Int} {c : Nat} (h : IsLeast f s m c) : leastC f s m = c := by
  have hex : ∃ c, IsLeast f s m c := ⟨c, h⟩
  unfold leastC
  rw [dif_pos hex]
  have hc := hex.choose_spec
  obtain ⟨a, ha⟩ : ∃ a, hex.choose = a := ⟨_, rfl⟩
  rw [ha] at hc ⊢
  rcases Nat.lt_trichotomy a c with hl | hl | hl
  · have := h.2.2 a hc.1 hl; have := hc.2.1; omega
  · exact hl
  · have := hc.2.2 c h.1 hl; have := h.2.1; omega


end Go.Proofs.Ytnbbfpanidmpgaa
