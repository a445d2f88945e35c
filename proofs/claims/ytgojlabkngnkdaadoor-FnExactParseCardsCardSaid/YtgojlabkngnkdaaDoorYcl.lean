/-
  Slices of clues: as they came in, and of the call's own; tables of clues that are written. No condition.
-/
import Derived.Test.YtgojlabkngnkdaaDoorYpu
import Derived.Test.YtgojlabkngnkdaaDoorCat
namespace Go.Proofs.YtgojlabkngnkdaaDoor
open Go.RowKit

def cl3 (c : Cl) : List Value := [.int .i64 c.k, .int .i64 c.a, .int .i64 c.b]
def flC (cs : List Cl) : List Value := cs.flatMap cl3
def cA (cs : List Cl) (j : Nat) : Cl := cs.getD j ⟨0, 0, 0⟩
theorem flC_len : ∀ cs : List Cl, (flC cs).length = cs.length * 3
  | [] => rfl
  | c :: t => by
    have := flC_len t
    unfold flC at *
    rw [List.flatMap_cons, List.length_append, this, List.length_cons, Nat.succ_mul]
    simp [cl3]; omega
theorem flC_app (a b : List Cl) : flC (a ++ b) = flC a ++ flC b := by unfold flC; rw [List.flatMap_append]
theorem flC_at : ∀ (cs : List Cl) (j : Nat), j < cs.length → (flC cs)[j * 3]? = some (.int .i64 (cA cs j).k) ∧ (flC cs)[j * 3 + 1]? = some (.int .i64 (cA cs j).a) ∧ (flC cs)[j * 3 + 2]? = some (.int .i64 (cA cs j).b)
  | [], j, h => by simp at h
  | c :: t, 0, _ => ⟨rfl, rfl, rfl⟩
  | c :: t, j + 1, h => by
    have ih := flC_at t j (by simpa using h)
    have e : flC (c :: t) = cl3 c ++ flC t := by unfold flC; rw [List.flatMap_cons]
    have e2 : cA (c :: t) (j + 1) = cA t j := rfl
    have l3 : (cl3 c).length = 3 := rfl
    rw [e, e2, List.getElem?_append_right (by rw [l3]; omega), List.getElem?_append_right (by rw [l3]; omega), List.getElem?_append_right (by rw [l3]; omega), l3,
      show (j + 1) * 3 - 3 = j * 3 by omega, show (j + 1) * 3 + 1 - 3 = j * 3 + 1 by omega, show (j + 1) * 3 + 2 - 3 = j * 3 + 2 by omega]
    exact ih
theorem cA_of {cs : List Cl} {j : Nat} (h : j < cs.length) : cA cs j = cs[j] := by unfold cA; rw [List.getD_eq_getElem?_getD, List.getElem?_eq_getElem h]; rfl
theorem flC_one : ∀ (cs : List Cl), ∀ u ∈ flC cs, u.oneCell' = true := by
  intro cs u hu
  unfold flC at hu
  obtain ⟨c, _, h⟩ := List.mem_flatMap.1 hu
  simp [cl3] at h
  rcases h with rfl | rfl | rfl <;> rfl
/-- Two rows of cells are alike if all clues are. -/
theorem flC_ext {cs : List Cl} {l : List Value} (hl : l.length = cs.length * 3) (h : ∀ j, j < cs.length → l[j * 3]? = some (.int .i64 (cA cs j).k) ∧ l[j * 3 + 1]? = some (.int .i64 (cA cs j).a) ∧ l[j * 3 + 2]? = some (.int .i64 (cA cs j).b)) : l = flC cs := by
  apply List.ext_getElem?
  intro i
  by_cases hi : i < cs.length * 3
  · have h1 := h (i / 3) (by omega)
    have h2 := flC_at cs (i / 3) (by omega)
    have h3 : i = i / 3 * 3 ∨ i = i / 3 * 3 + 1 ∨ i = i / 3 * 3 + 2 := by omega
    rcases h3 with e | e | e <;> rw [e]
    · rw [h1.1, h2.1]
    · rw [h1.2.1, h2.2.1]
    · rw [h1.2.2, h2.2.2]
  · rw [List.getElem?_eq_none (by omega), List.getElem?_eq_none (by rw [flC_len]; omega)]

/-- A slice that reads as clues. -/
def Cv (w : World) (v : Value) (cs : List Cl) : Prop :=
  ∃ p cap, v = .slice p cs.length cap ∧ cs.length ≤ cap ∧ cap ≤ maxLen ∧ (0 < cs.length → ∃ b off, p = some ⟨b, off, none⟩ ∧ b < w.heap.size ∧ ∀ j, j < cs.length →
    w.cell? ⟨b, off + j * 3, none⟩ = some (.int .i64 (cA cs j).k) ∧ w.cell? ⟨b, off + j * 3 + 1, none⟩ = some (.int .i64 (cA cs j).a) ∧ w.cell? ⟨b, off + j * 3 + 2, none⟩ = some (.int .i64 (cA cs j).b))
theorem Cv.below {w w' : World} {v : Value} {cs : List Cl} {B : Nat} (h : Cv w v cs) (hb : Below B w w') (hB : w.heap.size ≤ B) : Cv w' v cs := by
  obtain ⟨p, cap, e, hc, hm, h⟩ := h
  refine ⟨p, cap, e, hc, hm, fun h0 => ?_⟩
  obtain ⟨b, off, hp, hb2, hx⟩ := h h0
  refine ⟨b, off, hp, Nat.lt_of_lt_of_le hb2 hb.size, fun j hj => ?_⟩
  have := hx j hj
  rw [hb.cell (p := ⟨b, _, none⟩) (by show b < B; omega), hb.cell (p := ⟨b, _, none⟩) (by show b < B; omega), hb.cell (p := ⟨b, _, none⟩) (by show b < B; omega)]
  exact this
theorem Cv.nil (w : World) : Cv w (.slice none 0 0) [] := ⟨none, 0, rfl, Nat.le_refl _, by unfold maxLen; omega, fun h => by simp at h⟩
/-- A table of clues in a block of its own. -/
def Tc (w : World) (g n cap : Nat) (F : Nat → Cl) : Prop :=
  ∃ c : Array Value, w.heap[g]? = some (.cells c 73 (0, 0)) ∧ c.size = cap * 3 ∧
    ∀ j, j < n → c[j * 3]? = some (.int .i64 (F j).k) ∧ c[j * 3 + 1]? = some (.int .i64 (F j).a) ∧ c[j * 3 + 2]? = some (.int .i64 (F j).b)
theorem Tc.below {w w' : World} {g n cap D : Nat} {F : Nat → Cl} (h : Tc w g n cap F) (hb : Below D w w') (hD : w.heap.size ≤ D) : Tc w' g n cap F := by
  obtain ⟨c, hg, r⟩ := h
  exact ⟨c, (hb.block g (Nat.lt_of_lt_of_le (Array.getElem?_eq_some_iff.1 hg).1 hD)).trans hg, r⟩
theorem Tc.lt {w : World} {g n cap : Nat} {F : Nat → Cl} (h : Tc w g n cap F) : g < w.heap.size := by
  obtain ⟨c, hg, _⟩ := h
  exact (Array.getElem?_eq_some_iff.1 hg).1
theorem Tc.congr {w : World} {g n m cap : Nat} {F G : Nat → Cl} (h : Tc w g n cap F) (hm : m ≤ n) (e : ∀ j, j < m → F j = G j) : Tc w g m cap G := by
  obtain ⟨c, hg, hs, hc⟩ := h
  refine ⟨c, hg, hs, fun j hj => ?_⟩
  rw [← e j hj]
  exact hc j (by omega)
theorem Tc.cells {w : World} {g n cap : Nat} {F : Nat → Cl} (h : Tc w g n cap F) {j : Nat} (hj : j < n) :
    w.cell? ⟨g, j * 3, none⟩ = some (.int .i64 (F j).k) ∧ w.cell? ⟨g, j * 3 + 1, none⟩ = some (.int .i64 (F j).a) ∧ w.cell? ⟨g, j * 3 + 2, none⟩ = some (.int .i64 (F j).b) ∧
    w.frozen? ⟨g, j * 3, none⟩ = false ∧ w.frozen? ⟨g, j * 3 + 1, none⟩ = false ∧ w.frozen? ⟨g, j * 3 + 2, none⟩ = false := by
  obtain ⟨c, hg, hs, hc⟩ := h
  have := hc j hj
  refine ⟨?_, ?_, ?_, ?_, ?_, ?_⟩ <;> simp [World.cell?, World.frozen?, hg, this]
theorem Tc.set {w : World} {g n j cap : Nat} {F : Nat → Cl} (h : Tc w g n cap F) (hn : n ≤ cap) (a b c : Int) :
    Tc (((w.setCell ⟨g, j * 3, none⟩ (.int .i64 a)).setCell ⟨g, j * 3 + 1, none⟩ (.int .i64 b)).setCell ⟨g, j * 3 + 2, none⟩ (.int .i64 c)) g n cap (fun i => if i = j then ⟨a, b, c⟩ else F i) := by
  obtain ⟨cs, hg, hs, hc⟩ := h
  refine ⟨((cs.setIfInBounds (j * 3) (.int .i64 a)).setIfInBounds (j * 3 + 1) (.int .i64 b)).setIfInBounds (j * 3 + 2) (.int .i64 c), ?_, by simpa using hs, fun i hi => ?_⟩
  · simp [World.setCell, Array.getElem?_modify, hg]
  · by_cases e : i = j
    · subst e
      have h0 : i * 3 < cs.size := by omega
      have h1 : i * 3 + 1 < cs.size := by omega
      have h2 : i * 3 + 2 < cs.size := by omega
      simp [h0, h1, h2]
    · have hh := hc i hi
      have n1 : ¬ j * 3 + 2 = i * 3 := by omega
      have n2 : ¬ j * 3 + 1 = i * 3 := by omega
      have n3 : ¬ j * 3 = i * 3 := by omega
      have n4 : ¬ j * 3 + 2 = i * 3 + 1 := by omega
      have n5 : ¬ j * 3 + 1 = i * 3 + 1 := by omega
      have n6 : ¬ j * 3 = i * 3 + 1 := by omega
      have n7 : ¬ j * 3 + 2 = i * 3 + 2 := by omega
      have n8 : ¬ j * 3 + 1 = i * 3 + 2 := by omega
      have n9 : ¬ j * 3 = i * 3 + 2 := by omega
      simp only [if_neg e, Array.getElem?_setIfInBounds]
      rw [if_neg n1, if_neg n2, if_neg n3, if_neg n4, if_neg n5, if_neg n6, if_neg n7, if_neg n8, if_neg n9]
      exact hh
/-- The call's own slice of clues. -/
def Ck (w : World) (B : Nat) (v : Value) (cs : List Cl) : Prop := w.ownsRow B 73 3 v cs.length (flC cs)
theorem Ck.below {w w' : World} {B C : Nat} {v : Value} {cs : List Cl} (h : Ck w B v cs) (hb : Below C w w') (hC : w.heap.size ≤ C) : Ck w' B v cs := by
  obtain ⟨h1, h2⟩ := h
  refine ⟨h1, ?_⟩
  rcases h2 with h2 | ⟨g, cap, cur, hv, hg, hh, r⟩
  · exact .inl h2
  · refine .inr ⟨g, cap, cur, hv, hg, ?_, r⟩
    rw [hb.block g (Nat.lt_of_lt_of_le (Array.getElem?_eq_some_iff.1 hh).1 hC)]; exact hh
theorem Ck.mono {w : World} {B C : Nat} {v : Value} {cs : List Cl} (h : Ck w B v cs) (hC : C ≤ B) : Ck w C v cs := by
  obtain ⟨h1, h2⟩ := h
  refine ⟨h1, ?_⟩
  rcases h2 with h2 | ⟨g, cap, cur, hv, hg, r⟩
  · exact .inl h2
  · exact .inr ⟨g, cap, cur, hv, by omega, r⟩
theorem Ck.nil (w : World) (B : Nat) : Ck w B (.slice none 0 0) [] := World.ownsRow_nil _ _ _ _
theorem Ck.form {w : World} {B : Nat} {v : Value} {cs : List Cl} (h : Ck w B v cs) : (v = .slice none 0 0 ∧ cs = []) ∨
    ∃ g cap, v = .slice (some ⟨g, 0, none⟩) cs.length cap ∧ B ≤ g ∧ g < w.heap.size ∧ cs.length ≤ cap ∧ cap ≤ maxLen ∧ Tc w g cs.length cap (cA cs) := by
  obtain ⟨h1, h2⟩ := h
  rcases h2 with ⟨e, h0⟩ | ⟨g, cap, cur, hv, hg, hh, hl, hm, hs, ht⟩
  · exact .inl ⟨e, List.length_eq_zero_iff.1 h0⟩
  · refine .inr ⟨g, cap, hv, hg, (Array.getElem?_eq_some_iff.1 hh).1, hl, hm, cur, hh, hs, fun j hj => ?_⟩
    have := flC_at cs j hj
    rw [← ht, List.getElem?_take, List.getElem?_take, List.getElem?_take, if_pos (by omega), if_pos (by omega), if_pos (by omega)] at this
    simpa using this
theorem Tc.ck {w : World} {B g n cap : Nat} {F : Nat → Cl} {cs : List Cl} (h : Tc w g n cap F) (hl : cs.length = n) (hn : n ≤ cap) (hm : cap ≤ maxLen) (hB : B ≤ g) (e : ∀ j, j < n → F j = cA cs j) : Ck w B (.slice (some ⟨g, 0, none⟩) n cap) cs := by
  subst hl
  obtain ⟨c, hg, hs, hc⟩ := h
  refine ⟨flC_len cs, .inr ⟨g, cap, c, rfl, hB, hg, hn, hm, hs, flC_ext ?_ fun j hj => ?_⟩⟩
  · have h1 : c.toList.length = cap * 3 := by simpa using hs
    rw [List.length_take, h1]; have := Nat.mul_le_mul_right 3 hn; omega
  · rw [List.getElem?_take, List.getElem?_take, List.getElem?_take, if_pos (by omega), if_pos (by omega), if_pos (by omega), ← e j hj]
    simpa using hc j hj
theorem Ck.cv {w : World} {B : Nat} {v : Value} {cs : List Cl} (h : Ck w B v cs) : Cv w v cs := by
  rcases h.form with ⟨rfl, rfl⟩ | ⟨g, cap, rfl, _, hg, hl, hm, ht⟩
  · exact Cv.nil w
  · refine ⟨_, cap, rfl, hl, hm, fun _ => ⟨g, 0, rfl, hg, fun j hj => ?_⟩⟩
    obtain ⟨h1, h2, h3, _⟩ := ht.cells hj
    simp only [Nat.zero_add]
    exact ⟨h1, h2, h3⟩
theorem Cv.shape {w : World} {v : Value} {cs : List Cl} (h : Cv w v cs) : ∃ p cap, v = .slice p cs.length cap := by
  obtain ⟨p, cap, e, _⟩ := h; exact ⟨p, cap, e⟩
theorem Ck.shape {w : World} {B : Nat} {v : Value} {cs : List Cl} (h : Ck w B v cs) : ∃ p cap, v = .slice p cs.length cap := h.cv.shape
theorem clmade_zero (n i : Nat) (hi : i < n * 3) : (madeCells #[Value.int .i64 0, .int .i64 0, .int .i64 0] (n * 3))[i]? = some (.int .i64 0) := by
  have h : i % 3 = 0 ∨ i % 3 = 1 ∨ i % 3 = 2 := by omega
  rcases h with h | h | h <;> simp [madeCells, hi, h]
theorem below3 {w w' : World} {B g : Nat} (h : Below B w w') (hg : B ≤ g) (i j k : Nat) (a b c : Value) : Below B w (((w'.setCell ⟨g, i, none⟩ a).setCell ⟨g, j, none⟩ b).setCell ⟨g, k, none⟩ c) :=
  ((h.setCell hg _).setCell hg _).setCell hg _
theorem cells1_of {w : World} {b : Nat} {x : Value} {t : TypeId} (h : w.heap[b]? = some (.cells #[x] t (0, 0))) :
    w.cell? ⟨b, 0, none⟩ = some x ∧ w.frozen? ⟨b, 0, none⟩ = false :=
  ⟨by rw [cell_of_row _ _ _ _ _ _ h]; rfl, frozen_of_row _ _ _ _ _ h⟩
end Go.Proofs.YtgojlabkngnkdaaDoor
