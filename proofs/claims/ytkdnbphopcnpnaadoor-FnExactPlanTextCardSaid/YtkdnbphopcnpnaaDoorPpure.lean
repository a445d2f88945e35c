/-
  Plain lists of integers: plans, sets of indices as bits, what changes on a day. No condition; no program is spoken of here.
-/
import Derived.Test.YtkdnbphopcnpnaaDoorGood
import Derived.Test.YtkdnbphopcnpnaaDoorCpure
namespace Go.Proofs.YtkdnbphopcnpnaaDoor

noncomputable def fewB (xs : List Int) : Bool := goodB xs && decide (xs.length ≤ 8)
theorem fewB_no {xs : List Int} (h : goodB xs = false) : fewB xs = false := by simp [fewB, h]
theorem fewB_long {xs : List Int} (h : ¬ xs.length ≤ 8) : fewB xs = false := by simp [fewB, h]
theorem fewB_iff {xs : List Int} (h : fewB xs = true) : Good xs ∧ xs.length ≤ 8 := by
  simp only [fewB, Bool.and_eq_true, decide_eq_true_eq] at h; exact ⟨goodB_iff.1 h.1, h.2⟩

/-- A plan over n pieces. -/
def PlanTo (n : Nat) (pl : List (List Int)) (k : Nat) : Prop := ∀ j, j < k → RisTo (pl.getD j []) 0 ((n : Int) - 1) (pl.getD j []).length
def PlanOk (n : Nat) (pl : List (List Int)) : Prop := pl.length ≤ 60 ∧ PlanTo n pl pl.length
noncomputable def planB (n : Nat) (pl : List (List Int)) : Bool := @decide (PlanOk n pl) (Classical.propDecidable _)
theorem planB_yes {n : Nat} {pl : List (List Int)} (h : PlanOk n pl) : planB n pl = true := by simp [planB, h]
theorem planB_no {n : Nat} {pl : List (List Int)} (h : ¬ PlanOk n pl) : planB n pl = false := by simp [planB, h]
theorem planB_iff {n : Nat} {pl : List (List Int)} : planB n pl = true ↔ PlanOk n pl := by simp [planB]
theorem planB_long {n : Nat} {pl : List (List Int)} (h : ¬ pl.length ≤ 60) : planB n pl = false := planB_no fun g => h g.1
theorem planB_row {n : Nat} {pl : List (List Int)} {k : Nat} (hk : k < pl.length) (h : risB (pl.getD k []) 0 ((n : Int) - 1) = false) : planB n pl = false :=
  planB_no fun g => by rw [risB_yes (g.2 k hk)] at h; cases h
theorem PlanTo.succ {n : Nat} {pl : List (List Int)} {k : Nat} (h : PlanTo n pl k) (hk : risB (pl.getD k []) 0 ((n : Int) - 1) = true) : PlanTo n pl (k + 1) := by
  intro j hj
  by_cases e : j = k
  · subst e; exact risB_iff.1 hk
  · exact h j (by omega)

/-- Increasing numbers from lo on, up to hi. -/
def Rs : Int → Int → List Int → Prop
  | _, _, [] => True
  | lo, hi, y :: t => lo ≤ y ∧ y ≤ hi ∧ Rs (y + 1) hi t
theorem ris_tail {y hi lo : Int} {t : List Int} (h : RisTo (y :: t) lo hi (t.length + 1)) : RisTo t (y + 1) hi t.length := by
  have hs : ∀ j, j < t.length → y < t.getD j 0 := by
    intro j
    induction j with
    | zero => intro hj; have := h.2 0 (by omega); simpa using this
    | succ j ih => intro hj; have h1 := ih (by omega); have := h.2 (j + 1) (by omega); simp at this; simp at h1; simp; omega
  refine ⟨fun j hj => ?_, fun j hj => ?_⟩
  · have h1 := hs j hj
    have := h.1 (j + 1) (by omega)
    simp at this; simp at h1; simp; omega
  · have := h.2 (j + 1) (by omega)
    simpa using this
theorem rs_of : ∀ (ys : List Int) (lo hi : Int), RisTo ys lo hi ys.length → Rs lo hi ys := by
  intro ys
  induction ys with
  | nil => intro lo hi _; trivial
  | cons y t ih =>
    intro lo hi h
    have h0 := h.1 0 (by simp)
    simp at h0
    exact ⟨h0.1, h0.2, ih _ _ (ris_tail h)⟩
theorem Rs.mono {ys : List Int} {lo lo2 hi hi2 : Int} (h : Rs lo hi ys) (h1 : lo2 ≤ lo) (h2 : hi ≤ hi2) : Rs lo2 hi2 ys := by
  induction ys generalizing lo lo2 with
  | nil => trivial
  | cons y t ih => exact ⟨by have := h.1; omega, by have := h.2.1; omega, ih h.2.2 (Int.le_refl _)⟩
theorem Rs.mem {ys : List Int} {lo hi : Int} (h : Rs lo hi ys) : ∀ x ∈ ys, lo ≤ x ∧ x ≤ hi := by
  induction ys generalizing lo with
  | nil => intro x hx; cases hx
  | cons y t ih =>
    intro x hx
    rcases List.mem_cons.1 hx with rfl | hx
    · exact ⟨h.1, h.2.1⟩
    · have := ih h.2.2 x hx; have := h.1; omega

/-- Bits of a set of indices. -/
def maskF : Nat → List Int → Nat
  | m, [] => m
  | m, y :: t => maskF (m ||| 1 <<< y.toNat) t
def maskL (ys : List Int) : Nat := maskF 0 ys
def bitI (m : Nat) (i : Nat) : Bool := m.testBit i
def idx (m : Nat) : List Int := ((List.range 8).filter (bitI m)).map fun (i : Nat) => (i : Int)
theorem bit_or (m a i : Nat) : bitI (m ||| 1 <<< a) i = (bitI m i || decide (a = i)) := by
  unfold bitI
  rw [Nat.testBit_or, Nat.one_shiftLeft, Nat.testBit_two_pow]
theorem maskF_bit : ∀ (ys : List Int) (m i : Nat), (∀ x ∈ ys, 0 ≤ x) → bitI (maskF m ys) i = (bitI m i || decide ((i : Int) ∈ ys)) := by
  intro ys
  induction ys with
  | nil => intro m i _; simp [maskF]
  | cons y t ih =>
    intro m i h
    have hy := h y (by simp)
    rw [maskF, ih _ _ fun x hx => h x (by simp [hx]), bit_or, Bool.or_assoc]
    congr 1
    by_cases e : (i : Int) = y
    · have : y.toNat = i := by omega
      simp [e, this]
    · have : ¬ y.toNat = i := by omega
      simp [e, this]
theorem maskF_lt : ∀ (ys : List Int) (m : Nat), m < 256 → (∀ x ∈ ys, 0 ≤ x ∧ x ≤ 7) → maskF m ys < 256 := by
  intro ys
  induction ys with
  | nil => intro m hm _; exact hm
  | cons y t ih =>
    intro m hm h
    have hy := h y (by simp)
    refine ih _ ?_ fun x hx => h x (by simp [hx])
    refine Nat.or_lt_two_pow (n := 8) hm ?_
    rw [Nat.one_shiftLeft]
    exact Nat.pow_lt_pow_right (by omega) (by omega)
theorem filter_inc : ∀ (n : Nat) (lo : Nat) (ys : List Int), Rs lo ((lo : Int) + n - 1) ys → ((List.range' lo n).filter fun (i : Nat) => decide ((i : Int) ∈ ys)).map (fun (i : Nat) => (i : Int)) = ys := by
  intro n
  induction n with
  | zero =>
    intro lo ys h
    cases ys with
    | nil => rfl
    | cons y t => have h1 := h.1; have h2 := h.2.1; omega
  | succ n ih =>
    intro lo ys h
    rw [List.range'_succ]
    cases ys with
    | nil => simp
    | cons y t =>
      obtain ⟨h1, h2, h3⟩ := h
      by_cases e : y = lo
      · subst e
        have hlt := h3.mem
        rw [List.filter_cons_of_pos (by simp), List.map_cons]
        congr 1
        have e2 : (List.range' (lo + 1) n).filter (fun (i : Nat) => decide ((i : Int) ∈ ((lo : Nat) : Int) :: t)) = (List.range' (lo + 1) n).filter fun (i : Nat) => decide ((i : Int) ∈ t) := by
          apply List.filter_congr
          intro i hi
          have := List.mem_range'_1.1 hi
          have hne : ¬ (i : Int) = ((lo : Nat) : Int) := by omega
          simp [hne]
        rw [e2]
        exact ih (lo + 1) t (h3.mono (by omega) (by omega))
      · have hR : Rs ((lo : Int) + 1) ((lo : Int) + (n + 1 : Nat) - 1) (y :: t) := ⟨by omega, h2, h3⟩
        have hnot : ¬ ((lo : Int) ∈ y :: t) := by
          intro hm
          have := hR.mem _ hm
          omega
        rw [List.filter_cons_of_neg (by simpa using hnot)]
        exact ih (lo + 1) (y :: t) (hR.mono (by omega) (by omega))
theorem idx_mask {ys : List Int} (h : Rs 0 7 ys) : idx (maskL ys) = ys := by
  have e : (List.range 8).filter (bitI (maskL ys)) = (List.range' 0 8).filter fun (i : Nat) => decide ((i : Int) ∈ ys) := by
    rw [List.range_eq_range']
    apply List.filter_congr
    intro i _
    unfold maskL
    rw [maskF_bit ys 0 i fun x hx => (h.mem x hx).1]
    simp [bitI]
  unfold idx
  rw [e]
  exact filter_inc 8 0 ys (h.mono (Int.le_refl _) (by omega))
theorem mask_lt {ys : List Int} (h : Rs 0 7 ys) : maskL ys < 256 := maskF_lt ys 0 (by omega) h.mem
theorem mask_step (ys : List Int) (k : Nat) (hk : k < ys.length) : maskF 0 (ys.take (k + 1)) = maskF 0 (ys.take k) ||| 1 <<< (ys.getD k 0).toNat := by
  have hF : ∀ (l : List Int) (m : Nat) (x : Int), maskF m (l ++ [x]) = maskF m l ||| 1 <<< x.toNat := by
    intro l
    induction l with
    | nil => intro m x; rfl
    | cons y t ih => intro m x; rw [List.cons_append, maskF, ih]; rfl
  rw [List.take_add_one, List.getElem?_eq_getElem hk, List.getD_eq_getElem?_getD, List.getElem?_eq_getElem hk]
  exact hF _ _ _
theorem idx_len (m : Nat) : (idx m).length ≤ 8 := by
  unfold idx
  rw [List.length_map]
  exact Nat.le_trans (List.length_filter_le _ _) (by simp)
/-- What is in the first list and not in the second. -/
def onlyL (a b : List Int) : List Int := a.filter fun i => !decide (i ∈ b)
theorem map_filter_cast (l : List Nat) (p : Nat → Bool) (q : Int → Bool) (h : ∀ i ∈ l, q (i : Int) = p i) : (l.map fun (i : Nat) => (i : Int)).filter q = (l.filter p).map fun (i : Nat) => (i : Int) := by
  induction l with
  | nil => rfl
  | cons a t ih =>
    have h1 := h a (by simp)
    have h2 := ih fun i hi => h i (by simp [hi])
    simp only [List.map_cons, List.filter_cons, h1, h2]
    split <;> simp
theorem idx_only {a b : List Int} (ha : Rs 0 7 a) (hb : Rs 0 7 b) {m : Nat} (hm : ∀ i, i < 8 → bitI m i = (bitI (maskL a) i && !bitI (maskL b) i)) : idx m = onlyL a b := by
  have e1 : onlyL a b = (idx (maskL a)).filter fun i => !decide (i ∈ b) := by rw [idx_mask ha]; rfl
  rw [e1]
  unfold idx
  rw [map_filter_cast _ (fun i => !bitI (maskL b) i) _ ?_, List.filter_filter]
  · congr 1
    apply List.filter_congr
    intro i hi
    rw [hm i (List.mem_range.1 hi), Bool.and_comm]
  · intro i _
    unfold maskL
    rw [maskF_bit b 0 i fun x hx => (hb.mem x hx).1]
    simp [bitI]
theorem only_len (a b : List Int) : (onlyL a b).length ≤ a.length := List.length_filter_le _ _
/-- What is held behind a day and before it. -/
def nowL (pl : List (List Int)) (d : Nat) : List Int := pl.getD d []
def befL (pl : List (List Int)) (d : Nat) : List Int := if d = 0 then [] else pl.getD (d - 1) []
theorem PlanOk.row {n : Nat} {pl : List (List Int)} (h : PlanOk n pl) (hn : n ≤ 8) {d : Nat} (hd : d < pl.length) : Rs 0 ((n : Int) - 1) (nowL pl d) ∧ Rs 0 7 (nowL pl d) := by
  have h1 := rs_of _ _ _ (h.2 d hd)
  exact ⟨h1, h1.mono (Int.le_refl _) (by omega)⟩
theorem PlanOk.bef {n : Nat} {pl : List (List Int)} (h : PlanOk n pl) (hn : n ≤ 8) {d : Nat} (hd : d < pl.length) : Rs 0 ((n : Int) - 1) (befL pl d) ∧ Rs 0 7 (befL pl d) := by
  unfold befL
  split
  · exact ⟨trivial, trivial⟩
  · exact h.row hn (d := d - 1) (by omega)
theorem Rs.len {ys : List Int} (h : Rs 0 7 ys) : ys.length ≤ 8 := by
  rw [← idx_mask h]; exact idx_len _

/-- What changes from day to day. -/
def chgF : Nat → List (List Int) → List (Nat × Nat)
  | _, [] => []
  | b, y :: t => (b, maskL y) :: chgF (maskL y) t
def chgL (pl : List (List Int)) : List (Nat × Nat) := chgF 0 pl
theorem chgF_len : ∀ (pl : List (List Int)) (b : Nat), (chgF b pl).length = pl.length := by
  intro pl
  induction pl with
  | nil => intro b; rfl
  | cons y t ih => intro b; simp only [chgF, List.length_cons, ih]
theorem chgL_len (pl : List (List Int)) : (chgL pl).length = pl.length := chgF_len pl 0
theorem chgF_at : ∀ (pl : List (List Int)) (b d : Nat), d < pl.length → (chgF b pl)[d]? = some ((if d = 0 then b else maskL (pl.getD (d - 1) [])), maskL (pl.getD d [])) := by
  intro pl
  induction pl with
  | nil => intro b d h; simp at h
  | cons y t ih =>
    intro b d h
    cases d with
    | zero => simp [chgF]
    | succ d =>
      simp only [chgF, List.getElem?_cons_succ, List.length_cons] at h ⊢
      rw [ih _ d (by omega)]
      cases d with
      | zero => simp
      | succ d => simp
theorem chgL_at {pl : List (List Int)} {d : Nat} (h : d < pl.length) : (chgL pl)[d]? = some (maskL (befL pl d), maskL (nowL pl d)) := by
  unfold chgL
  rw [chgF_at pl 0 d h]
  unfold befL nowL
  split
  · rfl
  · rfl

end Go.Proofs.YtkdnbphopcnpnaaDoor
