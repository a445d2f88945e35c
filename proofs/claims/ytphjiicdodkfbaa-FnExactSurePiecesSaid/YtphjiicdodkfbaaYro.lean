/-
  Slices of slices of the call's own whose rows lie one behind the other: appended to by rows, kept, read; a list appended to whose room is cut off. Conditions: at most 2^30 rows.
-/
import Derived.Test.YtphjiicdodkfbaaQow
import Derived.ArgAppend
namespace Go.Proofs.Ytphjiicdodkfbaa
open Go.RowKit

structure RwAt (w : World) (B C : Nat) (v : Value) (vals : List Value) (pl : List (List Int)) : Prop where
  out : w.ownsRow B 22 1 v pl.length vals
  row : ∀ j, j < pl.length → Ow w C (vals.getD j undef) (rowL pl j)
  inc : ∀ i j, i < j → j < pl.length → ∀ p q, (vals.getD i undef).ownBlock = some p → (vals.getD j undef).ownBlock = some q → p < q
theorem RwAt.nil (w : World) (B C : Nat) : RwAt w B C (.slice none 0 0) [] [] := ⟨World.ownsRow_nil _ _ _ _, fun j h => by simp at h, fun i j _ h => by simp at h⟩
theorem RwAt.empty (w : World) {B : Nat} (C : Nat) (hB : B ≤ w.heap.size) : RwAt (w.alloc (.cells #[] 22)) B C (.slice (some ⟨w.heap.size, 0, none⟩) 0 0) [] [] :=
  ⟨World.ownsRow_made w #[] 0 hB (by unfold maxLen; omega) rfl, fun j hj => by simp at hj, fun i j _ h => by simp at h⟩
theorem RwAt.len {w : World} {B C : Nat} {v : Value} {vals : List Value} {pl : List (List Int)} (h : RwAt w B C v vals pl) : vals.length = pl.length := by have := h.out.1; omega
theorem RwAt.below {w w' : World} {B C D : Nat} {v : Value} {vals : List Value} {pl : List (List Int)} (h : RwAt w B C v vals pl) (hb : Below D w w') (hC : w.heap.size ≤ D) : RwAt w' B C v vals pl :=
  ⟨row1_below h.out hb hC, fun j hj => (h.row j hj).below hb hC, h.inc⟩
theorem RwAt.mono {w : World} {B C E F : Nat} {v : Value} {vals : List Value} {pl : List (List Int)} (h : RwAt w B C v vals pl) (hE : E ≤ B) (hF : F ≤ C) : RwAt w E F v vals pl :=
  ⟨row1_mono h.out hE, fun j hj => (h.row j hj).mono hF, h.inc⟩
theorem RwAt.owa {w : World} {B : Nat} {v : Value} {vals : List Value} {pl : List (List Int)} (h : RwAt w B B v vals pl) : Owa w B w.heap.size v pl :=
  ⟨vals, h.out, h.row, fun i j hij hj => by
    cases e : (vals.getD i undef).ownBlock with
    | none => exact .inl rfl
    | some p => exact .inr fun e2 => by have := h.inc i j hij hj p p e e2.symm; omega,
   fun j k hj hk => (World.ownsRow.lt (h.row j hj) k hk).2⟩
theorem RwAt.svv {w : World} {B C : Nat} {v : Value} {vals : List Value} {pl : List (List Int)} (h : RwAt w B C v vals pl) : Svv w v pl := by
  rcases id h.out.2 with ⟨e, hn⟩ | ⟨g, cap, cur, e, hg, hh, _⟩
  · exact ⟨none, 0, by rw [e, hn], fun h0 => by omega⟩
  · exact ⟨some ⟨g, 0, none⟩, cap, e, fun _ => ⟨g, 0, rfl, (Array.getElem?_eq_some_iff.1 hh).1, fun j hj => ⟨vals.getD j undef, rowvals h.out e hj, (h.row j hj).sv⟩⟩⟩
theorem RwAt.form {w : World} {B C : Nat} {v : Value} {vals : List Value} {pl : List (List Int)} (h : RwAt w B C v vals pl) : ∃ p cap, v = .slice p pl.length cap := by
  obtain ⟨p, cap, e, _⟩ := h.svv
  exact ⟨p, cap, e⟩
theorem RwAt.cells {w : World} {B C : Nat} {v : Value} {vals : List Value} {pl : List (List Int)} (h : RwAt w B C v vals pl) (h0 : 0 < pl.length) : ∃ g cap, v = .slice (some ⟨g, 0, none⟩) pl.length cap ∧ B ≤ g ∧ g < w.heap.size ∧ ∀ j, j < pl.length → w.cell? ⟨g, j, none⟩ = some (vals.getD j undef) := by
  rcases id h.out.2 with ⟨_, hn⟩ | ⟨g, cap, cur, e, hg, hh, _⟩
  · omega
  · refine ⟨g, cap, e, hg, (Array.getElem?_eq_some_iff.1 hh).1, fun j hj => ?_⟩
    have := rowvals h.out e hj
    rwa [Nat.zero_add] at this
theorem RwAt.lit {w : World} {B C : Nat} {u : Value} {xs : List Int} (h : Ow w C u xs) (hB : B ≤ w.heap.size) : RwAt (w.alloc (.cells #[u] 22)) B C (.slice (some ⟨w.heap.size, 0, none⟩) 1 1) [u] [xs] := by
  refine ⟨World.ownsRow_lit w #[u] 1 hB (by unfold maxLen; omega) rfl, fun j hj => ?_, fun i j hij hj => by simp at hj; omega⟩
  obtain rfl : j = 0 := by simp at hj; omega
  exact h.below ((Below.refl _ _).alloc (Nat.le_refl _) _) (Nat.le_refl _)
/-- Where an appended slice of slices lies: where it lay, or in a new block. -/
theorem rws_blk {w w' : World} (ty : TypeId) (B : Nat) (v v' : Value) (vals us : List Value) (n : Nat) (hown : w.ownsRow B 22 1 v n vals) (a : Addr) (m c : Nat) (hl : us.length = m) (hnews : ∀ j u, us[j]? = some u → w.cell? (a.add j) = some u) (h1 : ∀ u ∈ us, u.oneCell' = true)
    (hlen : n + m ≤ 1073741824) (hB : B ≤ w.heap.size) (hr : (Builtin.append_ #[46, 46] ty #[v, .slice (some a) m c]).run Try.prog w = .ok v' w') : v'.ownBlock = v.ownBlock ∨ v'.ownBlock = some w.heap.size := by
  have hi : ∃ i, Try.prog.info? 22 = some i ∧ i.zero = some (.slice none 0 0) ∧ i.size = 1 ∧ i.bytes = 24 := by
    have := Try.infoL
    cases hq : Try.prog.info? 22 with
    | none => rw [hq] at this; cases this
    | some i => rw [hq] at this; simp at this; exact ⟨i, rfl, this.1, this.2.1, this.2.2⟩
  obtain ⟨i0, hi, hz0, hz1, hz2⟩ := hi
  have same : ∀ {x y : Value} {wx wy : World}, (Builtin.append_ #[46, 46] ty #[v, .slice (some a) m c]).run Try.prog w = .ok x wx → (Builtin.append_ #[46, 46] ty #[v, .slice (some a) m c]).run Try.prog w = .ok y wy → x = y := fun h g => by
    rw [h] at g
    simp only [Result.ok.injEq] at g
    exact g.1
  rcases id hown.2 with ⟨e, e0⟩ | ⟨g, cap, cur, e, hbg, hg, hnc, hcm, hcs, htake⟩
  · by_cases hm : m = 0
    · obtain ⟨x, wx, hx, _, _, h4⟩ := run_append_own (P := Try.prog) w B 46 ty 22 i0 (.slice none 0 0) 1 24 Try.underlying46 hi hz0 hz1 hz2 rfl (by decide) v n vals hown a m c us (by omega) hnews h1 (by unfold maxLen; omega) (by omega) hB
      rw [same hr hx, h4.2 ⟨e, hm⟩, e]
      exact .inl rfl
    · subst e
      have hx := run_append_nil (P := Try.prog) w 46 ty 22 i0 (.slice none 0 0) Try.underlying46 hi hz0 a m c us (by rw [hz1]; omega) hnews (by omega) (by omega) (by rw [hz2]; omega)
      rw [same hr hx]
      exact .inr rfl
  · subst e
    by_cases hroom : n + m ≤ cap
    · have hx := run_append_room (P := Try.prog) w 46 ty 22 i0 Try.underlying46 hi g n cap cur hg a m c us (by rw [hz1]; omega) hnews h1 hroom (by rw [hz1, hcs]; omega)
      rw [same hr hx]
      exact .inl rfl
    · have holds : ∀ j u, vals[j]? = some u → w.cell? ((⟨g, 0, none⟩ : Addr).add j) = some u := hown.cells (g := g) rfl
      have hv : vals.length = n := by have := hown.1; omega
      have hx := run_append_grow (P := Try.prog) w 46 ty 22 i0 (.slice none 0 0) Try.underlying46 hi hz0 ⟨g, 0, none⟩ n cap vals (by rw [hz1]; omega) holds a m c us (by rw [hz1]; omega) hnews (by omega) (by omega) (growslice_fits (by omega) (by rw [hz2]; omega))
      rw [same hr hx]
      exact .inr rfl
/-- Rows more. -/
theorem wpList_append_rws {w : World} {ops : Array Oper} {rest : List Oper} {o : Oper} {a : Act} {Q : Exit → Act → World → Prop} (hgd : o.guard = none) (s x : Operand)
    (ho : o.op = .call { callee := .builtin .append, args := #[s, x], argTypes := #[46, 46] })
    (B C : Nat) (v : Value) (vals : List Value) (pl : List (List Int)) (hs : a.eval s = v) (hr : RwAt w B C v vals pl) (g c : Nat) (us : List Value) (M : List (List Int)) (hx : a.eval x = .slice (some ⟨g, 0, none⟩) M.length c) (hus : us.length = M.length)
    (hgc : ∀ j, j < M.length → w.cell? ⟨g, j, none⟩ = some (us.getD j undef)) (hu : ∀ j, j < M.length → Ow w C (us.getD j undef) (rowL M j))
    (hi2 : ∀ i j, i < j → j < M.length → ∀ p q, (us.getD i undef).ownBlock = some p → (us.getD j undef).ownBlock = some q → p < q)
    (hcr : ∀ i j, i < pl.length → j < M.length → ∀ p q, (vals.getD i undef).ownBlock = some p → (us.getD j undef).ownBlock = some q → p < q)
    (hlen : pl.length + M.length ≤ 1073741824) (hB : B ≤ w.heap.size)
    (h : ∀ v' w', RwAt w' B C v' (vals ++ us) (pl ++ M) → Below B w w' → w.grownBy w' v.ownBlock → (v'.ownBlock = v.ownBlock ∨ v'.ownBlock = some w.heap.size) → wpList Try.prog ops Q rest (a.put o.dst v') w') : wpList Try.prog ops Q (o :: rest) a w := by
  have hi : ∃ i, Try.prog.info? 22 = some i ∧ i.zero = some (.slice none 0 0) ∧ i.size = 1 ∧ i.bytes = 24 := by
    have := Try.infoL
    cases hq : Try.prog.info? 22 with
    | none => rw [hq] at this; cases this
    | some i => rw [hq] at this; simp at this; exact ⟨i, rfl, this.1, this.2.1, this.2.2⟩
  obtain ⟨i0, hi, hz0, hz1, hz2⟩ := hi
  have hl : vals.length = pl.length := hr.len
  have hge : ∀ (j : Nat) y, us[j]? = some y → j < M.length ∧ us.getD j undef = y := by
    intro j y hy
    have hj : j < us.length := by
      by_cases hj : j < us.length
      · exact hj
      · rw [List.getElem?_eq_none (by omega)] at hy; cases hy
    exact ⟨by omega, by rw [List.getD_eq_getElem?_getD, hy]; rfl⟩
  have hn : ∀ (j : Nat) y, us[j]? = some y → w.cell? ((⟨g, 0, none⟩ : Addr).add j) = some y := by
    intro j y hy
    obtain ⟨hj, e⟩ := hge j y hy
    rw [← e, ← hgc j hj, addr_add, Nat.zero_add]
  have ho1 : ∀ y ∈ us, y.oneCell' = true := by
    intro y hy
    obtain ⟨j, hj, rfl⟩ := List.getElem_of_mem hy
    have := (hu j (by omega)).one
    rwa [List.getD_eq_getElem?_getD, List.getElem?_eq_getElem hj] at this
  obtain ⟨v', w', r, k2, k3, _⟩ := run_append_own (P := Try.prog) w B 46 o.type 22 i0 (.slice none 0 0) 1 24 Try.underlying46 hi hz0 hz1 hz2 rfl (by decide) v pl.length vals hr.out ⟨g, 0, none⟩ M.length c us (by omega) hn ho1 (by unfold maxLen; omega) (by omega) hB
  have hbel : Below B w w' := (Below.refl B w).grown k3 hB fun k hk => (World.ownsRow.lt hr.out k hk).1
  have kp : ∀ {y : Value} {xs : List Int}, Ow w C y xs → Ow w' C y xs := fun q => q.kept k3 (own_ne hr.out q (by decide))
  refine wpList_plain hgd fun K hK => ?_
  unfold Oper.wp execOp
  simp only [ho, resolve, invoke, builtin, Sem.run_bind, Sem.run_pure, Result.andThen_ok, List.map_toArray, List.map_cons, List.map_nil, hs, hx, r]
  refine hK _ _ (h v' w' ⟨by rw [List.length_append]; exact k2, fun j hj => ?_, fun i j hij hj p q hp hq => ?_⟩ hbel k3 (rws_blk o.type B v v' vals us pl.length hr.out ⟨g, 0, none⟩ M.length c hus hn ho1 hlen hB r))
  · rw [List.length_append] at hj
    unfold rowL
    by_cases e : j < pl.length
    · rw [getD_app_lt _ _ _ (by omega), getD_app_lt _ _ _ e]; exact kp (hr.row j e)
    · rw [getD_app_ge _ _ _ (by omega), getD_app_ge _ _ _ (by omega), hl]; exact kp (hu _ (by omega))
  · rw [List.length_append] at hj
    by_cases ej : j < pl.length
    · rw [getD_app_lt _ _ _ (by omega)] at hp hq
      exact hr.inc i j hij ej p q hp hq
    · rw [getD_app_ge _ _ _ (by omega), hl] at hq
      by_cases ei : i < pl.length
      · rw [getD_app_lt _ _ _ (by omega)] at hp
        exact hcr i _ ei (by omega) p q hp hq
      · rw [getD_app_ge _ _ _ (by omega), hl] at hp
        exact hi2 _ _ (by omega) (by omega) p q hp hq
/-- One row more, from a literal of one. -/
theorem wpList_append_rw1 {w : World} {ops : Array Oper} {rest : List Oper} {o : Oper} {a : Act} {Q : Exit → Act → World → Prop} (hgd : o.guard = none) (s x : Operand)
    (ho : o.op = .call { callee := .builtin .append, args := #[s, x], argTypes := #[46, 46] })
    (B C : Nat) (v : Value) (vals : List Value) (pl : List (List Int)) (hs : a.eval s = v) (hr : RwAt w B C v vals pl) (g : Nat) (u : Value) (m : List Int) (hx : a.eval x = .slice (some ⟨g, 0, none⟩) 1 1) (hgc : w.cell? ⟨g, 0, none⟩ = some u)
    (hu : Ow w C u m) (hcr : ∀ i, i < pl.length → ∀ p q, (vals.getD i undef).ownBlock = some p → u.ownBlock = some q → p < q) (hlen : pl.length + 1 ≤ 1073741824) (hB : B ≤ w.heap.size)
    (h : ∀ v' w', RwAt w' B C v' (vals ++ [u]) (pl ++ [m]) → Below B w w' → w.grownBy w' v.ownBlock → (v'.ownBlock = v.ownBlock ∨ v'.ownBlock = some w.heap.size) → wpList Try.prog ops Q rest (a.put o.dst v') w') : wpList Try.prog ops Q (o :: rest) a w := by
  have z : ∀ {j : Nat}, j < [m].length → j = 0 := fun {j} h => by simp at h; omega
  refine wpList_append_rws hgd s x ho B C v vals pl hs hr g 1 [u] [m] hx rfl (fun j hj => by rw [z hj]; exact hgc) (fun j hj => by rw [z hj]; exact hu) (fun i j hij hj => by have := z hj; omega)
    (fun i j hi hj p q hp hq => hcr i hi p q hp (by rw [z hj] at hq; exact hq)) hlen hB h
/-- A list whose room is cut off, and one number more: in new memory. -/
theorem wpList_append_cut {w : World} {ops : Array Oper} {rest : List Oper} {o : Oper} {a : Act} {Q : Exit → Act → World → Prop} (hgd : o.guard = none) (s x : Operand)
    (ho : o.op = .call { callee := .builtin .append, args := #[s, x], argTypes := #[22, 22] })
    (v : Value) (ys : List Int) (hs : a.eval s = v) (hv : (v = .slice none 0 0 ∧ ys = []) ∨ ∃ b off, v = .slice (some ⟨b, off, none⟩) ys.length ys.length ∧ ∀ j, j < ys.length → w.cell? ⟨b, off + j, none⟩ = some (.int .i64 (ys.getD j 0)))
    (g : Nat) (n : Int) (hx : a.eval x = .slice (some ⟨g, 0, none⟩) 1 1) (hgc : w.cell? ⟨g, 0, none⟩ = some (.int .i64 n)) (hl : ys.length ≤ 1073741823)
    (h : ∀ v' w', Ow w' w.heap.size v' (ys ++ [n]) → Below w.heap.size w w' → wpList Try.prog ops Q rest (a.put o.dst v') w') : wpList Try.prog ops Q (o :: rest) a w := by
  have hi : ∃ i, Try.prog.info? 3 = some i ∧ i.zero = some (.int .i64 0) ∧ i.size = 1 ∧ i.bytes = 8 := by
    have := Try.infoI
    cases hq : Try.prog.info? 3 with
    | none => rw [hq] at this; cases this
    | some i => rw [hq] at this; simp at this; exact ⟨i, rfl, this.1, this.2.1, this.2.2⟩
  obtain ⟨i0, hi, hz0, hz1, hz2⟩ := hi
  have hn : ∀ (j : Nat) y, ([.int .i64 n] : List Value)[j]? = some y → w.cell? ((⟨g, 0, none⟩ : Addr).add j) = some y := by
    intro j y hy
    cases j with
    | zero =>
      have e : Value.int .i64 n = y := by simpa using hy
      rw [← e]; simpa [Addr.add] using hgc
    | succ j => simp at hy
  have key : ∃ v' w', (Builtin.append_ #[22, 22] o.type #[v, .slice (some ⟨g, 0, none⟩) 1 1]).run Try.prog w = .ok v' w' ∧ w'.ownsRow w.heap.size 3 1 v' (ys.length + 1) (ys.map (Value.int .i64) ++ [.int .i64 n]) ∧ w.grownBy w' none := by
    rcases hv with ⟨e, e0⟩ | ⟨b, off, e, hc⟩
    · subst e e0
      obtain ⟨v', w', r, k2, k3, _⟩ := run_append_own (P := Try.prog) w w.heap.size 22 o.type 3 i0 (.int .i64 0) 1 8 Try.underlying22 hi hz0 hz1 hz2 rfl (by decide) (.slice none 0 0) 0 [] (World.ownsRow_nil _ _ _ _) ⟨g, 0, none⟩ 1 1 [.int .i64 n] (by simp) hn (by intro y hy; rw [List.mem_singleton.1 hy]; rfl) (by unfold maxLen; omega) (by omega) (Nat.le_refl _)
      exact ⟨v', w', r, by simpa using k2, k3⟩
    · subst e
      exact run_append_arg_grows (P := Try.prog) w 22 o.type 3 i0 (.int .i64 0) 1 8 Try.underlying22 hi hz0 hz1 hz2 rfl (by decide) ⟨b, off, none⟩ ys.length ys.length (ys.map (Value.int .i64)) (by simp) (fun j y hy => by
        rw [List.getElem?_map] at hy
        by_cases hj : j < ys.length
        · rw [List.getElem?_eq_getElem hj] at hy
          have e2 : Value.int .i64 ys[j] = y := by simpa using hy
          rw [← e2, addr_add, hc j hj, List.getD_eq_getElem?_getD, List.getElem?_eq_getElem hj]; rfl
        · rw [List.getElem?_eq_none (by omega)] at hy; cases hy) ⟨g, 0, none⟩ 1 1 [.int .i64 n] (by simp) hn (by omega) (by unfold maxLen; omega) (by omega)
  obtain ⟨v', w', r, k2, k3⟩ := key
  refine wpList_plain hgd fun K hK => ?_
  unfold Oper.wp execOp
  simp only [ho, resolve, invoke, builtin, Sem.run_bind, Sem.run_pure, Result.andThen_ok, List.map_toArray, List.map_cons, List.map_nil, hs, hx, r]
  refine hK _ _ (h v' w' ?_ ((Below.refl _ w).grown k3 (Nat.le_refl _) fun k hk => by cases hk))
  unfold Ow
  rw [List.length_append, List.map_append]
  exact k2
/-! What a search leaves as it was. -/
structure Lf (B r : Nat) (w w' : World) : Prop where
  bel : Below B w w'
  keep : ∀ i, i < w.heap.size → i ≠ r → (∀ c q, w.heap[i]? ≠ some (.cells c 22 q)) → w'.heap[i]? = w.heap[i]?
theorem Lf.refl (B r : Nat) (w : World) : Lf B r w w := ⟨Below.refl _ _, fun _ _ _ _ => rfl⟩
theorem Lf.trans {B r : Nat} {w w1 w2 : World} (h : Lf B r w w1) (k : Lf B r w1 w2) : Lf B r w w2 :=
  ⟨h.bel.trans k.bel, fun i hi hr ht => by
    have e := h.keep i hi hr ht
    exact (k.keep i (Nat.lt_of_lt_of_le hi h.bel.size) hr (fun c q => by rw [e]; exact ht c q)).trans e⟩
theorem Lf.of {B r : Nat} {w w1 w2 : World} (h : Lf B r w w1) (k : Below w1.heap.size w1 w2) (hB : B ≤ w1.heap.size) : Lf B r w w2 :=
  h.trans ⟨k.mono hB, fun i hi _ _ => k.block i hi⟩
theorem Lf.ow {B r C : Nat} {w w' : World} {v : Value} {ys : List Int} (k : Lf B r w w') (h : Ow w C v ys) (hr : ∀ c q, w.heap[r]? ≠ some (.cells c 3 q)) : Ow w' C v ys := by
  obtain ⟨h1, h2⟩ := h
  refine ⟨h1, ?_⟩
  rcases h2 with h2 | ⟨g, cap, cur, hv, hg, hh, q⟩
  · exact .inl h2
  · refine .inr ⟨g, cap, cur, hv, hg, ?_, q⟩
    rw [k.keep g (Array.getElem?_eq_some_iff.1 hh).1 (fun e => hr cur (0, 0) (by rw [← e]; exact hh)) (fun c q h => by rw [hh] at h; simp at h)]
    exact hh
end Go.Proofs.Ytphjiicdodkfbaa
