/-
  Rulers as the program looks at them, plainly: sets of lengths, pairs told from the later mark, runs, complete and sparse ones. No condition; no program is spoken of here.
-/
import Derived.Test.YthienikceehcoaaRse
namespace Go.Proofs.Ythienikceehcoaa

theorem inc_ext {a b : List Int} (ha : a.Pairwise (fun x y => x < y)) (hb : b.Pairwise (fun x y => x < y)) (h : ∀ x, x ∈ a ↔ x ∈ b) : a = b := by
  have na : a.Nodup := ha.imp fun h => by omega
  have nb : b.Nodup := hb.imp fun h => by omega
  exact sorted_eq (ha.imp fun h => by omega) (hb.imp fun h => by omega) ((List.perm_ext_iff_of_nodup na nb).2 h)

/-- The numbers below k of a set, increasing. -/
def sLK (p : Int → Bool) (k : Nat) : List Int := ((List.range k).filter fun (j : Nat) => p (j : Int)).map fun (j : Nat) => (j : Int)
def sL (p : Int → Bool) : List Int := sLK p 61
theorem sLK_yes {p : Int → Bool} {k : Nat} (h : p k = true) : sLK p (k + 1) = sLK p k ++ [(k : Int)] := by
  unfold sLK; rw [List.range_succ, List.filter_append]; simp [h]
theorem sLK_no {p : Int → Bool} {k : Nat} (h : p k = false) : sLK p (k + 1) = sLK p k := by
  unfold sLK; rw [List.range_succ, List.filter_append]; simp [h]
theorem sLK_len (p : Int → Bool) (k : Nat) : (sLK p k).length ≤ k := by
  unfold sLK; rw [List.length_map]; exact Nat.le_trans (List.length_filter_le _ _) (by simp)
theorem mem_sLK {p : Int → Bool} {k : Nat} {x : Int} : x ∈ sLK p k ↔ 0 ≤ x ∧ x < k ∧ p x = true := by
  unfold sLK
  rw [List.mem_map]
  constructor
  · rintro ⟨j, hj, rfl⟩
    rw [List.mem_filter, List.mem_range] at hj
    exact ⟨by omega, by omega, hj.2⟩
  · rintro ⟨h0, h1, h2⟩
    refine ⟨x.toNat, ?_, by omega⟩
    rw [List.mem_filter, List.mem_range]
    exact ⟨by omega, by rw [show ((x.toNat : Nat) : Int) = x by omega]; exact h2⟩
theorem sLK_pw (p : Int → Bool) (k : Nat) : (sLK p k).Pairwise (fun x y => x < y) := by
  unfold sLK
  rw [List.pairwise_map]
  exact (List.pairwise_lt_range.filter _).imp fun h => by omega
theorem mem_sL {p : Int → Bool} {x : Int} : x ∈ sL p ↔ 0 ≤ x ∧ x ≤ 60 ∧ p x = true := by
  unfold sL; rw [mem_sLK]; constructor <;> rintro ⟨a, b, c⟩ <;> exact ⟨a, by omega, c⟩
theorem sL_eq {l : List Int} {p : Int → Bool} (h : l.Pairwise (fun x y => x < y)) (g : ∀ x, x ∈ l ↔ 0 ≤ x ∧ x ≤ 60 ∧ p x = true) : sL p = l :=
  inc_ext (sLK_pw p 61) h fun x => mem_sL.trans (g x).symm
theorem sL_congr {p q : Int → Bool} (h : ∀ x, 0 ≤ x → x ≤ 60 → p x = q x) : sL p = sL q :=
  sL_eq (sLK_pw q 61) fun x => mem_sL.trans ⟨fun ⟨a, b, c⟩ => ⟨a, b, by rw [h x a b]; exact c⟩, fun ⟨a, b, c⟩ => ⟨a, b, by rw [← h x a b]; exact c⟩⟩
theorem ris_mem {lo hi : Int} {xs : List Int} (h : RisTo xs lo hi xs.length) {x : Int} (hx : x ∈ xs) : lo ≤ x ∧ x ≤ hi := by
  obtain ⟨j, hj, rfl⟩ := List.getElem_of_mem hx
  have := h.1 j hj
  simpa [List.getD_eq_getElem?_getD, List.getElem?_eq_getElem hj] using this
theorem getD_mem {xs : List Int} {k : Nat} (h : k < xs.length) : xs.getD k 0 ∈ xs := by
  rw [List.getD_eq_getElem?_getD, List.getElem?_eq_getElem h]; exact List.getElem_mem h
/-- A mark less. -/
theorem sL_drop {ms : List Int} (h : RisTo ms 0 60 ms.length) (m : Int) : sL (fun x => decide (x ∈ ms) && !(x == m)) = drL ms m := by
  refine sL_eq ((ris_pw ms h).filter _) fun x => ?_
  unfold drL
  rw [List.mem_filter]
  constructor
  · rintro ⟨h1, h2⟩
    have := ris_mem h h1
    exact ⟨this.1, this.2, by simp [h1]; simpa using h2⟩
  · rintro ⟨_, _, h3⟩
    simp only [Bool.and_eq_true, decide_eq_true_eq] at h3
    exact ⟨h3.1, h3.2⟩
/-- A mark more. -/
def adL (ms : List Int) (a : Int) : List Int := sL fun x => decide (x ∈ ms) || (x == a)
theorem adL_eq {ms : List Int} (h : RisTo ms 0 60 ms.length) {a : Int} (h0 : 0 ≤ a) (h6 : a ≤ 60) {k : Nat} (hk : k ≤ ms.length) (hlo : ∀ j, j < k → ms.getD j 0 < a) (hhi : k < ms.length → a < ms.getD k 0) : ms.take k ++ [a] ++ ms.drop k = adL ms a := by
  have hp := ris_pw ms h
  have hT : ∀ x ∈ ms.take k, x < a := fun x hx => by
    rw [List.mem_take_iff_getElem] at hx
    obtain ⟨j, hj, rfl⟩ := hx
    have := hlo j (by omega)
    simpa [List.getD_eq_getElem?_getD, List.getElem?_eq_getElem (show j < ms.length by omega)] using this
  have hD : ∀ x ∈ ms.drop k, a < x := fun x hx => by
    rw [List.mem_drop_iff_getElem] at hx
    obtain ⟨j, hj, rfl⟩ := hx
    have h1 := hhi (by omega)
    have h2 : ms.getD k 0 ≤ ms.getD (k + j) 0 := by
      by_cases e : j = 0
      · subst e; exact Int.le_refl _
      · exact pw_getD (hp.imp fun h => by omega) (by omega) (by omega)
    have e : ms.getD (k + j) 0 = ms[k + j] := by rw [List.getD_eq_getElem?_getD, List.getElem?_eq_getElem (by omega)]; rfl
    omega
  refine (sL_eq ?_ fun x => ?_).symm
  · rw [List.pairwise_append]
    refine ⟨?_, hp.drop, fun x hx y hy => ?_⟩
    · rw [List.pairwise_append]
      exact ⟨hp.take, List.pairwise_singleton _ _, fun x hx y hy => by rw [List.mem_singleton.1 hy]; exact hT x hx⟩
    · have hy := hD y hy
      rw [List.mem_append, List.mem_singleton] at hx
      rcases hx with hx | rfl
      · have := hT x hx; omega
      · exact hy
  · have e : x ∈ ms ↔ x ∈ ms.take k ∨ x ∈ ms.drop k := by rw [← List.mem_append, List.take_append_drop]
    rw [List.mem_append, List.mem_append, List.mem_singleton]
    simp only [Bool.or_eq_true, decide_eq_true_eq, beq_iff_eq]
    constructor
    · rintro ((h1 | rfl) | h1)
      · have h2 := e.2 (.inl h1); have := ris_mem h h2; exact ⟨this.1, this.2, .inl h2⟩
      · exact ⟨h0, h6, .inr rfl⟩
      · have h2 := e.2 (.inr h1); have := ris_mem h h2; exact ⟨this.1, this.2, .inl h2⟩
    · rintro ⟨_, _, h1 | h1⟩
      · rcases e.1 h1 with h2 | h2
        · exact .inl (.inl h2)
        · exact .inr h2
      · exact .inl (.inr h1)
noncomputable def amB (ms : List Int) (a : Int) : Bool := inrB ms a && !decide (a ∈ ms)
noncomputable def amR (ms : List Int) (a : Int) : List Int := if amB ms a = true then adL ms a else []
theorem amR_len (ms : List Int) (a : Int) : (amR ms a).length ≤ 1099511627776 := by
  unfold amR
  split
  · have := sLK_len (fun x => decide (x ∈ ms) || (x == a)) 61; unfold adL sL; omega
  · simp

/-- Pairs of the marks of a list with a later one. -/
def tmB : List Int → Int → Int → Int
  | [], _, _ => 0
  | a :: t, b, n => (if b - a = n then 1 else 0) + tmB t b n
theorem tmB_snoc (b n : Int) : ∀ (l : List Int) (a : Int), tmB (l ++ [a]) b n = if b - a = n then tmB l b n + 1 else tmB l b n := by
  intro l
  induction l with
  | nil => intro a; simp [tmB]
  | cons c t ih => intro a; rw [List.cons_append, tmB, ih, tmB]; split <;> omega
theorem take_push {xs : List Int} {k : Nat} (hk : k < xs.length) : xs.take (k + 1) = xs.take k ++ [xs.getD k 0] := take_next hk rfl
theorem tmF_snoc (l : List Int) (b n : Int) : ∀ i, i ≤ l.length → tmF (l ++ [b]) i n = tmF l i n + tmB (l.take i) b n := by
  intro i
  induction i with
  | zero => intro _; simp [tmF, tmB]
  | succ i ih =>
    intro hi
    have e1 : (l ++ [b]).getD i 0 = l.getD i 0 := by
      rw [List.getD_eq_getElem?_getD, List.getD_eq_getElem?_getD, List.getElem?_append_left (by omega)]
    rw [tmF, tmF, ih (by omega), e1, List.drop_append_of_le_length (by omega), take_push (by omega), tmA_snoc, tmB_snoc]
    split <;> omega
theorem tm_snoc (l : List Int) (b n : Int) : tm (l ++ [b]) n = tm l n + tmB l b n := by
  have e : (l ++ [b]).drop (l.length + 1) = [] := List.drop_eq_nil_of_le (by simp)
  unfold tm
  rw [List.length_append, List.length_singleton, tmF, tmF_snoc l b n _ (Nat.le_refl _), List.take_length, e]
  simp [tmA]
theorem tmB_bd (b n : Int) : ∀ l : List Int, 0 ≤ tmB l b n ∧ tmB l b n ≤ l.length := by
  intro l
  induction l with
  | nil => simp [tmB]
  | cons a t ih => simp only [tmB, List.length_cons]; split <;> omega
/-- What the program's table holds behind i marks and k more of the pairs of the next. -/
def qK (ms : List Int) (i k : Nat) (n : Int) : Int := tm (ms.take i) n + tmB (ms.take k) (ms.getD i 0) n
theorem qK_zero (ms : List Int) (i : Nat) (n : Int) : qK ms i 0 n = tm (ms.take i) n := by simp [qK, tmB]
theorem qK_first (ms : List Int) (n : Int) : tm (ms.take 0) n = 0 := by simp [tm, tmF]
theorem qK_all {ms : List Int} {i : Nat} (h : i < ms.length) (n : Int) : qK ms i i n = tm (ms.take (i + 1)) n := by
  rw [take_push h, tm_snoc]; rfl
theorem qK_next {ms : List Int} {i k : Nat} (h : k < ms.length) (n : Int) : qK ms i (k + 1) n = if ms.getD i 0 - ms.getD k 0 = n then qK ms i k n + 1 else qK ms i k n := by
  unfold qK
  rw [take_push h, tmB_snoc]
  split <;> omega
theorem qK_bd {ms : List Int} (h : ms.length ≤ 61) (i k : Nat) (n : Int) : 0 ≤ qK ms i k n ∧ qK ms i k n ≤ 5000 := by
  have h1 := tm_bd (ms := ms.take i) (by rw [List.length_take]; omega) n
  have h2 := tmB_bd (ms.getD i 0) n (ms.take k)
  have h3 : (((ms.take k).length : Nat) : Int) ≤ 61 := by rw [List.length_take]; omega
  unfold qK
  omega
/-- Only lengths up to the ruler's own are measured. -/
theorem tmA_none {a n : Int} : ∀ l : List Int, (∀ b ∈ l, b - a ≠ n) → tmA a l n = 0 := by
  intro l
  induction l with
  | nil => intro _; rfl
  | cons b t ih =>
    intro h
    rw [tmA, if_neg (h b (by simp)), ih fun x hx => h x (by simp [hx])]
    rfl
theorem tm_out {ms : List Int} (h : Rul ms) {n : Int} (hn : n ≤ 0 ∨ lastM ms < n) : tm ms n = 0 := by
  have key : ∀ i, i ≤ ms.length → tmF ms i n = 0 := by
    intro i
    induction i with
    | zero => intro _; rfl
    | succ i ih =>
      intro hi
      rw [tmF, ih (by omega), tmA_none]
      · rfl
      · intro b hb e
        rw [List.mem_drop_iff_getElem] at hb
        obtain ⟨j, hj, rfl⟩ := hb
        have := h.diff (i := i) (j := i + 1 + j) (by omega) (by omega)
        have e2 : ms.getD (i + 1 + j) 0 = ms[i + 1 + j] := by rw [List.getD_eq_getElem?_getD, List.getElem?_eq_getElem (by omega)]; rfl
        omega
  exact key _ (Nat.le_refl _)
/-- The lengths that are measured, as a set. -/
theorem sL_len {ms : List Int} (h : Rul ms) : sL (fun x => decide (0 < tm ms x)) = wiK ms true ((lastM ms).toNat + 1) := by
  have hl := h.last_bd
  have e : wiK ms true ((lastM ms).toNat + 1) = sLK (fun x => decide (0 < x) && (decide (0 < tm ms x) == true)) ((lastM ms).toNat + 1) := by
    unfold wiK sLK
    congr 2
    funext j
    simp
  rw [e]
  refine sL_eq (sLK_pw _ _) fun x => ?_
  rw [mem_sLK]
  constructor
  · rintro ⟨h0, h1, h2⟩
    simp only [Bool.and_eq_true, decide_eq_true_eq, beq_iff_eq] at h2
    exact ⟨h0, by omega, by simpa using h2.2⟩
  · rintro ⟨h0, h1, h2⟩
    have h2 : 0 < tm ms x := by simpa using h2
    have h3 : ¬ (x ≤ 0 ∨ lastM ms < x) := fun g => by rw [tm_out h g] at h2; omega
    refine ⟨h0, by omega, ?_⟩
    simp only [Bool.and_eq_true, decide_eq_true_eq, beq_iff_eq]
    exact ⟨by omega, h2⟩
/-- Two rulers measure the same. -/
theorem len_same {ms ns : List Int} (h : Rul ms) (g : Rul ns) : (∀ j : Nat, j < 61 → decide (0 < tm ms j) = decide (0 < tm ns j)) ↔ wiK ms true ((lastM ms).toNat + 1) = wiK ns true ((lastM ns).toNat + 1) := by
  rw [← sL_len h, ← sL_len g]
  constructor
  · intro e
    refine sL_congr fun x h0 h6 => ?_
    have := e x.toNat (by omega)
    rwa [show ((x.toNat : Nat) : Int) = x by omega] at this
  · intro e j hj
    have h1 : (j : Int) ∈ sL (fun x => decide (0 < tm ms x)) ↔ (j : Int) ∈ sL (fun x => decide (0 < tm ns x)) := by rw [e]
    rw [mem_sL, mem_sL] at h1
    rw [Bool.eq_iff_iff]
    exact ⟨fun a => (h1.1 ⟨by omega, by omega, a⟩).2.2, fun a => (h1.2 ⟨by omega, by omega, a⟩).2.2⟩
end Go.Proofs.Ythienikceehcoaa
