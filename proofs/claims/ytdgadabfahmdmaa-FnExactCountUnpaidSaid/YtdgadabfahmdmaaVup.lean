/-
  Amounts without change in the program: unpaidBy, GreatestUnpaid and CountUnpaid, by their contracts. Condition: slices of at most 2^40 numbers.
-/
import Derived.Test.YtdgadabfahmdmaaVun
import Derived.Test.YtdgadabfahmdmaaVcn
namespace Go.Proofs.Ytdgadabfahmdmaa
open Go.RowKit

/-- What is told of the amounts below A: the greatest without change lies below, and all between have change. -/
theorem un_inv (cs : List Nat) : ∀ A, -1 ≤ lastU (unT cs A) ∧ lastU (unT cs A) < A ∧ (∀ a : Nat, lastU (unT cs A) < a → a < A → fo cs a ≠ big) ∧ (∀ g : Nat, lastU (unT cs A) = g → fo cs g = big) := by
  intro A
  induction A with
  | zero => exact ⟨by simp [unT, lastU], by simp [unT, lastU], fun a _ h => by omega, fun g h => by simp [unT, lastU] at h⟩
  | succ A ih =>
    obtain ⟨h1, h2, h3, h4⟩ := ih
    rw [unT_succ]
    by_cases hf : fo cs A = big
    · rw [if_pos hf, lastU_snoc]
      exact ⟨by omega, by omega, fun a ha hb => by omega, fun g hg => by
        obtain rfl : A = g := by omega
        exact hf⟩
    · rw [if_neg hf, List.append_nil]
      exact ⟨h1, by omega, fun a ha hb => by
        by_cases e : a = A
        · subst e; exact hf
        · exact h3 a ha (by omega), h4⟩
/-- Behind as many amounts in a row as the least coin is worth all have change. -/
theorem un_stop {cs : List Nat} (h : Cn cs) {A : Nat} (hA : lastU (unT cs A) + cs.getD 0 0 < A) : ∀ a, A ≤ a → a < big → fo cs a ≠ big := by
  have hm := at_mem (cs := cs) (j := 0) (by have := h.one; omega)
  have h0 := h.pos _ hm
  obtain ⟨i1, _, i3, _⟩ := un_inv cs A
  intro a
  induction a using Nat.strongRecOn with
  | ind a ih =>
    intro ha hb
    have hca : cs.getD 0 0 ≤ a := by omega
    have hp : fo cs (a - cs.getD 0 0) ≠ big := by
      by_cases h2 : a - cs.getD 0 0 < A
      · exact i3 _ (by omega) h2
      · exact ih _ (by omega) (by omega) (by omega)
    have h3 := fo_add h.pos _ hm a hca
    have h4 := fo_big h.pos (a - cs.getD 0 0)
    have h5 := fo_le h.pos (a - cs.getD 0 0) (by omega)
    omega
theorem un_same {cs : List Nat} (h : Cn cs) (hg : gl cs 0 = 1) {A : Nat} (hA : lastU (unT cs A) + cs.getD 0 0 < A) (hb : A ≤ 2000000) : unT cs A = unT cs (farU cs + 1) := by
  have hf := farU_bd h
  by_cases h1 : A ≤ farU cs + 1
  · have h2 := unT_more (un_stop h hA) (farU cs + 1 - A) (by unfold big; omega)
    rw [show A + (farU cs + 1 - A) = farU cs + 1 by omega] at h2
    exact h2.symm
  · have h2 := unT_more (cs := cs) (n := farU cs + 1) (fun a h1 h2 => by have := fo_far h hg (a := a) (by unfold farU at h1; omega) h2; omega) (A - (farU cs + 1)) (by unfold big; omega)
    rw [show farU cs + 1 + (A - (farU cs + 1)) = A by omega] at h2
    exact h2
theorem un_far {cs : List Nat} (h : Cn cs) (hg : gl cs 0 = 1) (A : Nat) (hb : A ≤ 2000000) : lastU (unT cs A) < farU cs := by
  have hm := at_mem (cs := cs) (j := 0) (by have := h.one; omega)
  have h0 := h.pos _ hm
  have hlb := h.last_bd
  obtain ⟨i1, i2, _, i4⟩ := un_inv cs A
  apply Classical.byContradiction
  intro hn
  have h9 : 0 ≤ (farU cs : Int) := by omega
  obtain ⟨g, eg⟩ : ∃ g : Nat, lastU (unT cs A) = g := ⟨(lastU (unT cs A)).toNat, by omega⟩
  have h1 := i4 g eg
  have h2 := fo_far h hg (a := g) (by unfold farU at hn; omega) (by unfold big; omega)
  omega
/-- Whether an amount has change, the last coin being one of the first k kinds. -/
noncomputable def isb (cs : List Nat) (A k : Nat) : Bool := @decide (A = 0 ∨ ∃ j, j < k ∧ cs.getD j 0 ≤ A ∧ fo cs (A - cs.getD j 0) < big) (Classical.propDecidable _)
theorem isb_zero (cs : List Nat) (A : Nat) : isb cs A 0 = decide (A = 0) := by
  unfold isb
  by_cases h : A = 0
  · rw [decide_eq_true h]; simp [h]
  · rw [decide_eq_false h]; simp [h]
theorem isb_succ (cs : List Nat) (A k : Nat) : isb cs A (k + 1) = (isb cs A k || (decide (cs.getD k 0 ≤ A) && decide (fo cs (A - cs.getD k 0) < big))) := by
  unfold isb
  rw [Bool.eq_iff_iff]
  simp only [decide_eq_true_eq, Bool.or_eq_true, Bool.and_eq_true]
  constructor
  · rintro (h | ⟨j, h1, h2, h3⟩)
    · exact .inl (.inl h)
    · by_cases e : j = k
      · subst e; exact .inr ⟨h2, h3⟩
      · exact .inl (.inr ⟨j, by omega, h2, h3⟩)
  · rintro ((h | ⟨j, h1, h2, h3⟩) | ⟨h2, h3⟩)
    · exact .inl h
    · exact .inr ⟨j, by omega, h2, h3⟩
    · exact .inr ⟨k, by omega, h2, h3⟩
theorem isb_all {cs : List Nat} (hp : Pos cs) {A : Nat} (hA : A < big) : isb cs A cs.length = decide (fo cs A < big) := by
  unfold isb
  rw [Bool.eq_iff_iff]
  simp only [decide_eq_true_eq]
  constructor
  · rintro (h | ⟨j, h1, h2, h3⟩)
    · subst h; rw [fo_zero hp]; decide
    · have hm := at_mem h1
      have h4 := fo_add hp _ hm A h2
      have h5 := fo_le hp _ h3
      have := hp _ hm
      omega
  · intro h
    by_cases h0 : A = 0
    · exact .inl h0
    · obtain ⟨n, hn, hna, e⟩ := fo_last hp A (by omega) h
      obtain ⟨j, hj, rfl⟩ := mem_at hn
      exact .inr ⟨j, hj, hna, by omega⟩
def pdL (cs : List Nat) (A : Nat) : List Bool := (List.range A).map (fun a => decide (fo cs a < big))
theorem pdL_len (cs : List Nat) (A : Nat) : (pdL cs A).length = A := by simp [pdL]
theorem pdL_at (cs : List Nat) (A j : Nat) (h : j < A) : (pdL cs A)[j]? = some (decide (fo cs j < big)) := by simp [pdL, h]
theorem pdL_succ (cs : List Nat) (A : Nat) : pdL cs (A + 1) = pdL cs A ++ [decide (fo cs A < big)] := by simp [pdL, List.range_succ]

theorem Try.infoB2 : (Try.prog.info? 4).map (fun i => (i.zero, i.size, i.bytes)) = some (some (.bool false), 1, 1) := by kernel_rfl
/-- What the call owns: a slice of truth values in blocks from B on. -/
def Ob (w : World) (B : Nat) (v : Value) (ys : List Bool) : Prop := w.ownsRow B 4 1 v ys.length (ys.map Value.bool)
theorem Ob.below {w w' : World} {B C : Nat} {v : Value} {ys : List Bool} (h : Ob w B v ys) (hb : Below C w w') (hC : w.heap.size ≤ C) : Ob w' B v ys := by
  obtain ⟨h1, h2⟩ := h
  refine ⟨h1, ?_⟩
  rcases h2 with h2 | ⟨g, cap, cur, hv, hg, hh, r⟩
  · exact .inl h2
  · refine .inr ⟨g, cap, cur, hv, hg, ?_, r⟩
    rw [hb.block g (Nat.lt_of_lt_of_le (Array.getElem?_eq_some_iff.1 hh).1 hC)]; exact hh
theorem Ob.alloc {w : World} {B : Nat} {v : Value} {ys : List Bool} (h : Ob w B v ys) (o : Obj) : Ob (w.alloc o) B v ys := h.below ((Below.refl _ _).alloc (Nat.le_refl _) _) (Nat.le_refl _)
theorem Ob.form {w : World} {B : Nat} {v : Value} {ys : List Bool} (h : Ob w B v ys) : (v = .slice none 0 0 ∧ ys = []) ∨ ∃ g cap, v = .slice (some ⟨g, 0, none⟩) ys.length cap ∧ B ≤ g ∧ g < w.heap.size ∧ ∀ j, j < ys.length → w.cell? ⟨g, j, none⟩ = (ys[j]?).map Value.bool := by
  obtain ⟨_, h2⟩ := h
  rcases h2 with ⟨hv, hn⟩ | ⟨g, cap, cur, hv, hg, hh, hnc, hcm, hcs, htake⟩
  · exact .inl ⟨hv, List.length_eq_zero_iff.1 hn⟩
  · refine .inr ⟨g, cap, hv, hg, (Array.getElem?_eq_some_iff.1 hh).1, fun j hj => ?_⟩
    have e : cur[j]? = (ys.map Value.bool)[j]? := by
      rw [← htake, List.getElem?_take, if_pos (by omega)]; simp
    simp only [World.cell?, hh]
    rw [e, List.getElem?_map]
    cases hq : ys[j]? with
    | none => rw [List.getElem?_eq_none_iff] at hq; omega
    | some x => rfl
theorem ob_empty (w : World) : Ob (w.alloc (.cells #[] 4)) w.heap.size (.slice (some ⟨w.heap.size, 0, none⟩) 0 0) [] :=
  ⟨by simp, .inr ⟨w.heap.size, 0, #[], rfl, Nat.le_refl _, heap_alloc_new w _, Nat.le_refl _, by unfold maxLen; omega, by simp, by simp⟩⟩

theorem wpList_append_bool {w : World} {ops : Array Oper} {rest : List Oper} {o : Oper} {a : Act} {Q : Exit → Act → World → Prop} (hgd : o.guard = none) (s x : Operand)
    (ho : o.op = .call { callee := .builtin .append, args := #[s, x], argTypes := #[55, 55] })
    (B : Nat) (v : Value) (ys : List Bool) (hs : a.eval s = v) (hown : Ob w B v ys) (b : Nat) (t : Bool) (hx : a.eval x = .slice (some ⟨b, 0, none⟩) 1 1) (hc : w.cell? ⟨b, 0, none⟩ = some (.bool t)) (hlen : ys.length ≤ 1073741824) (hB : B ≤ w.heap.size)
    (h : ∀ v' w', Ob w' B v' (ys ++ [t]) → w.grownBy w' v.ownBlock → wpList Try.prog ops Q rest (a.put o.dst v') w') : wpList Try.prog ops Q (o :: rest) a w := by
  obtain ⟨i0, hi, hz0, hz1, hz2⟩ := info_parts Try.infoB2
  refine wpList_append_own w hgd s x 55 ho B 4 i0 (.bool false) 1 1 Try.underlying55 hi hz0 hz1 hz2 rfl (by decide) v ys.length _ hs hown ⟨b, 0, none⟩ 1 1 ([t].map Value.bool) hx (by simp) ?_ ?_ (by unfold maxLen; omega) (by omega) hB ?_
  · intro j u hu
    cases j with
    | zero => simp at hu; subst hu; simpa [Addr.add] using hc
    | succ j => simp at hu
  · intro u hu; simp at hu; subst hu; rfl
  · intro v' w' h1 h2 _
    refine h v' w' ?_ h2
    unfold Ob
    rw [List.length_append, List.map_append]; exact h1
theorem Ob.grown {w w' : World} {B : Nat} {v : Value} {ys : List Bool} (h : Ob w B v ys) (hB : B ≤ w.heap.size) (hg : w.grownBy w' v.ownBlock) : Below B w w' :=
  (Below.refl B w).grown hg hB fun k hk => (World.ownsRow.lt h k hk).1
end Go.Proofs.Ytdgadabfahmdmaa
