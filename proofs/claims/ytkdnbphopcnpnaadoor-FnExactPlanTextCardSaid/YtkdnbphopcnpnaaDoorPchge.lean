/-
  What changes from day to day in the program: rows of sets and of changes, by their contracts. Condition: few pieces.
-/
import Derived.Test.YtkdnbphopcnpnaaDoorPmove
namespace Go.Proofs.YtkdnbphopcnpnaaDoor
open Go.RowKit

theorem Tryd.infoH : (Tryd.prog.info? 42).map (fun i => (i.zero, i.size, i.bytes)) = some (some (.int .u64 0), 1, 8) := by kernel_rfl
theorem Tryd.infoC : (Tryd.prog.info? 44).map (fun i => (i.zero, i.size, i.bytes)) = some (some (.agg #[.int .u64 0, .int .u64 0]), 2, 16) := by kernel_rfl

theorem or_mono {w : World} {B C n s : Nat} {e : TypeId} {v : Value} {xs : List Value} (h : w.ownsRow B e s v n xs) (hC : C ≤ B) : w.ownsRow C e s v n xs := by
  obtain ⟨h1, h2⟩ := h
  refine ⟨h1, ?_⟩
  rcases h2 with h2 | ⟨g, cap, cur, hv, hg, r⟩
  · exact .inl h2
  · exact .inr ⟨g, cap, cur, hv, Nat.le_trans hC hg, r⟩
theorem or_grown {w w' : World} {B n s : Nat} {e : TypeId} {v : Value} {xs : List Value} (h : w.ownsRow B e s v n xs) (hB : B ≤ w.heap.size) (hg : w.grownBy w' v.ownBlock) : Below B w w' :=
  (Below.refl B w).grown hg hB fun k hk => (World.ownsRow.lt h k hk).1
theorem or_cells {w : World} {B n s : Nat} {e : TypeId} {v : Value} {xs : List Value} (h : w.ownsRow B e s v n xs) :
    ∃ p cap, v = .slice p n cap ∧ (0 < n → ∃ g, p = some ⟨g, 0, none⟩ ∧ g < w.heap.size ∧ n ≤ cap ∧ ∀ j x, xs[j]? = some x → w.cell? ⟨g, j, none⟩ = some x) := by
  obtain ⟨hl, h2⟩ := h
  rcases h2 with ⟨hv, hn⟩ | ⟨g, cap, cur, hv, hg, hh, hnc, hcm, hcs, htake⟩
  · exact ⟨none, 0, by rw [hv, hn], fun h => by omega⟩
  · refine ⟨some ⟨g, 0, none⟩, cap, hv, fun _ => ⟨g, rfl, (Array.getElem?_eq_some_iff.1 hh).1, hnc, fun j x hx => ?_⟩⟩
    have hj : j < n * s := by rw [← hl]; exact (List.getElem?_eq_some_iff.1 hx).1
    have e : cur[j]? = xs[j]? := by
      rw [← htake, List.getElem?_take, if_pos hj]; simp
    simp only [World.cell?, hh]
    rw [e, hx]; rfl

/-- What the call owns: a slice of sets; a slice of changes. -/
def uV (m : Nat) : Value := .int .u64 (m : Int)
def cV (c : Nat × Nat) : List Value := [uV c.1, uV c.2]
def Hs (w : World) (B : Nat) (v : Value) (ms : List Nat) : Prop := w.ownsRow B 42 1 v ms.length (ms.map uV)
def Cs (w : World) (B : Nat) (v : Value) (cs : List (Nat × Nat)) : Prop := w.ownsRow B 44 2 v cs.length (cs.flatMap cV)
theorem cV_at : ∀ (cs : List (Nat × Nat)) (j : Nat) (c : Nat × Nat), cs[j]? = some c → (cs.flatMap cV)[j * 2]? = some (uV c.1) ∧ (cs.flatMap cV)[j * 2 + 1]? = some (uV c.2) := by
  intro cs
  induction cs with
  | nil => intro j c h; simp at h
  | cons a t ih =>
    intro j c h
    cases j with
    | zero => simp at h; subst h; simp [cV]
    | succ j =>
      have h2 := ih j c (by simpa using h)
      have e1 : (j + 1) * 2 = j * 2 + 1 + 1 := by omega
      rw [e1]
      simp only [List.flatMap_cons, cV, List.cons_append, List.nil_append, List.getElem?_cons_succ]
      exact h2
theorem Hs.empty (w : World) : Hs (w.alloc (.cells #[] 42)) w.heap.size (.slice (some ⟨w.heap.size, 0, none⟩) 0 0) [] := World.ownsRow_made w #[] 0 (Nat.le_refl _) (by unfold maxLen; omega) rfl
theorem Cs.empty (w : World) : Cs (w.alloc (.cells #[] 44)) w.heap.size (.slice (some ⟨w.heap.size, 0, none⟩) 0 0) [] := World.ownsRow_made w #[] 0 (Nat.le_refl _) (by unfold maxLen; omega) rfl

theorem wpList_append_hs {w : World} {ops : Array Oper} {rest : List Oper} {o : Oper} {a : Act} {Q : Exit → Act → World → Prop} (hgd : o.guard = none) (s x : Operand)
    (ho : o.op = .call { callee := .builtin .append, args := #[s, x], argTypes := #[50, 50] })
    (B : Nat) (v : Value) (ms : List Nat) (hs : a.eval s = v) (hown : Hs w B v ms) (b : Nat) (m : Nat) (hx : a.eval x = .slice (some ⟨b, 0, none⟩) 1 1) (hc : w.cell? ⟨b, 0, none⟩ = some (.int .u64 (m : Nat))) (hlen : ms.length ≤ 1099511627776) (hB : B ≤ w.heap.size)
    (h : ∀ v' w', Hs w' B v' (ms ++ [m]) → w.grownBy w' v.ownBlock → wpList Tryd.prog ops Q rest (a.put o.dst v') w') : wpList Tryd.prog ops Q (o :: rest) a w := by
  obtain ⟨i0, hi, hz0, hz1, hz2⟩ := info_parts Tryd.infoH
  refine wpList_append_own w hgd s x 50 ho B 42 i0 (.int .u64 0) 1 8 Tryd.underlying50 hi hz0 hz1 hz2 rfl (by decide) v ms.length _ hs hown ⟨b, 0, none⟩ 1 1 [uV m] hx (by simp) ?_ ?_ (by unfold maxLen; omega) (by omega) hB ?_
  · intro j u hu
    have hj : j = 0 := by
      have := (List.getElem?_eq_some_iff.1 hu).1
      simp at this; omega
    subst hj
    simp at hu; subst hu; exact hc
  · intro u hu; simp at hu; subst hu; rfl
  · intro v' w' h1 h2 _
    refine h v' w' ?_ h2
    unfold Hs
    rw [List.length_append, List.map_append]; exact h1
theorem wpList_append_cs {w : World} {ops : Array Oper} {rest : List Oper} {o : Oper} {a : Act} {Q : Exit → Act → World → Prop} (hgd : o.guard = none) (s x : Operand)
    (ho : o.op = .call { callee := .builtin .append, args := #[s, x], argTypes := #[37, 37] })
    (B : Nat) (v : Value) (cs : List (Nat × Nat)) (hs : a.eval s = v) (hown : Cs w B v cs) (b : Nat) (c d : Nat) (hx : a.eval x = .slice (some ⟨b, 0, none⟩) 1 1) (hc : w.cell? ⟨b, 0, none⟩ = some (.int .u64 (c : Nat))) (hd : w.cell? ⟨b, 1, none⟩ = some (.int .u64 (d : Nat))) (hlen : cs.length ≤ 1099511627776) (hB : B ≤ w.heap.size)
    (h : ∀ v' w', Cs w' B v' (cs ++ [(c, d)]) → w.grownBy w' v.ownBlock → wpList Tryd.prog ops Q rest (a.put o.dst v') w') : wpList Tryd.prog ops Q (o :: rest) a w := by
  obtain ⟨i0, hi, hz0, hz1, hz2⟩ := info_parts Tryd.infoC
  refine wpList_append_own w hgd s x 37 ho B 44 i0 (.agg #[.int .u64 0, .int .u64 0]) 2 16 Tryd.underlying37 hi hz0 hz1 hz2 rfl (by decide) v cs.length _ hs hown ⟨b, 0, none⟩ 1 1 [uV c, uV d] hx (by simp) ?_ ?_ (by unfold maxLen; omega) (by omega) hB ?_
  · intro j u hu
    have hj : j < 2 := (List.getElem?_eq_some_iff.1 hu).1
    have hj2 : j = 0 ∨ j = 1 := by omega
    rcases hj2 with rfl | rfl
    · simp at hu; subst hu; exact hc
    · simp at hu; subst hu; exact hd
  · intro u hu; simp at hu; rcases hu with rfl | rfl <;> rfl
  · intro v' w' h1 h2 _
    refine h v' w' ?_ h2
    unfold Cs
    rw [List.length_append, List.flatMap_append]; exact h1

/-- What changes, told of the sets. -/
def bfM (ms : List Nat) : Nat → Nat
  | 0 => 0
  | k + 1 => ms.getD k 0
def chgM (ms : List Nat) : List (Nat × Nat) := (List.range ms.length).map fun k => (bfM ms k, ms.getD k 0)
theorem chgM_step {ms : List Nat} {k m : Nat} (hk : k < ms.length) (hm : ms.getD k 0 = m) : (chgM ms).take (k + 1) = (chgM ms).take k ++ [(bfM ms k, m)] := by
  have hl : k < (chgM ms).length := by simpa [chgM] using hk
  rw [List.take_add_one, List.getElem?_eq_getElem hl]
  subst hm
  simp [chgM]
theorem chgM_all (ms : List Nat) : (chgM ms).take ms.length = chgM ms := List.take_of_length_le (by simp [chgM])
theorem chgM_plan (pl : List (List Int)) : chgM (pl.map maskL) = chgL pl := by
  apply List.ext_getElem?
  intro k
  by_cases hk : k < pl.length
  · rw [chgL_at hk]
    have e : (pl.map maskL).getD k 0 = maskL (nowL pl k) := by simp [nowL, List.getD, hk]
    have e2 : bfM (pl.map maskL) k = maskL (befL pl k) := by
      cases k with
      | zero => rfl
      | succ k => simp only [bfM, befL]; rw [if_neg (by omega)]; have : k < pl.length := by omega
                  simp [List.getD, this]
    simp only [chgM, List.length_map]
    rw [List.getElem?_map, List.getElem?_range hk]
    simp only [Option.map_some, e, e2]
  · rw [List.getElem?_eq_none (l := chgL pl) (by rw [chgL_len]; omega), List.getElem?_eq_none (by simp [chgM]; omega)]

set_option maxHeartbeats 2000000 in
set_option maxRecDepth 20000 in
theorem changesBetween_any (B : Nat) (v : Value) (ms : List Nat) (w : World) (h : Hs w B v ms) (hl : ms.length ≤ 60) :
    Calls Tryd.prog 26 #[v] w fun e w' => ∃ u, e = .returned u ∧ Cs w' w.heap.size u (chgM ms) ∧ Below w.heap.size w w' := by
  obtain ⟨p, cap, rfl, hx⟩ := or_cells h
  clear h
  go_enter Tryd.func26, Tryd.ntmps26
  go_wp2
  go_loopw [3, 4, 10] (fun c b i wr => ∃ k : Nat, k ≤ ms.length ∧ i = .int .i64 k ∧ b = .int .u64 (bfM ms k : Nat) ∧ Cs wr w.heap.size c ((chgM ms).take k) ∧ Below w.heap.size w wr) (fun _ _ i _ => ms.length - (intOf i).toNat)
  case atStart => exact ⟨0, Nat.zero_le _, rfl, rfl, Cs.empty w, (Below.refl _ _).alloc (Nat.le_refl _) _⟩
  case round =>
    obtain ⟨k, hk, rfl, rfl, ho, hb⟩ := hrel
    have hz := hb.size
    by_cases hlt : k < ms.length
    · obtain ⟨g, rfl, hg, hcap, hc⟩ := hx (by omega)
      obtain ⟨m, em⟩ : ∃ m, ms.getD k 0 = m := ⟨_, rfl⟩
      have hcell : wr.cell? ⟨g, k, none⟩ = some (.int .u64 (m : Nat)) := (hb.cell (p := ⟨g, k, none⟩) hg).trans (hc k _ (by rw [List.getElem?_map, List.getElem?_eq_getElem hlt]; rw [List.getD_eq_getElem?_getD, List.getElem?_eq_getElem hlt] at em; simp at em; rw [em]; rfl))
      have S := Lib.hid (chgM_step hlt em)
      have M : Hid (bfM ms (k + 1) = m) := Lib.hid em
      obtain ⟨f, ef⟩ : ∃ f, bfM ms k = f := ⟨_, rfl⟩
      rw [ef] at S
      rw [ef]
      have hlk : ((chgM ms).take k).length ≤ 60 := by rw [List.length_take]; omega
      clear hc hx em ef
      go_wp2_with (at_builtin; refine wpList_append_cs rfl _ _ rfl w.heap.size _ ((chgM ms).take k) rfl (World.ownsRow.alloc ho _) wr.heap.size f m rfl (by simp) (by simp) (by omega) (by simp; omega) ?_; intro v' w3 h3 g3)
      have b3 := (hb.alloc hz _).trans (or_grown (World.ownsRow.alloc ho _) (by simp; omega) g3)
      clear ho g3 hb
      go_roundw
      case rel => exact ⟨k + 1, by omega, by go_num, by rw [M.out], by rw [S.out]; exact h3, b3⟩
      case measure => simp only [intOf]; omega
    · clear hx
      go_wp2
      go_ret
      have hke : k = ms.length := by omega
      subst hke
      rw [chgM_all] at ho
      exact ⟨_, rfl, ho, hb⟩
end Go.Proofs.YtkdnbphopcnpnaaDoor
