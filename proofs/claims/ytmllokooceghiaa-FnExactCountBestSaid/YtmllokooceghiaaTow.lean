/-
  A slice of slices of the call's own: all that it holds, none of them nil. No condition.
-/
import Derived.Test.YtmllokooceghiaaTcc
import Derived.RangeFuncBox
namespace Go.Proofs.Ytmllokooceghiaa
open Go.RowKit

theorem Try.infoR : (Try.prog.info? 22).map (fun i => (i.zero, i.size, i.bytes)) = some (some (.slice none 0 0), 1, 24) := by kernel_rfl
/-- A slice of the call's own that isn't nil. -/
def OwP (w : World) (B : Nat) (u : Value) (xs : List Int) : Prop := Ow w B u xs ∧ ∃ g c, u = .slice (some ⟨g, 0, none⟩) xs.length c
theorem Ow.pos {w : World} {B : Nat} {u : Value} {xs : List Int} (h : Ow w B u xs) (hx : xs ≠ []) : OwP w B u xs := by
  refine ⟨h, ?_⟩
  rcases h.form with ⟨_, e⟩ | ⟨g, c, e, _, _⟩
  · exact (hx e).elim
  · exact ⟨g, c, e⟩
theorem OwP.below {w w' : World} {B C : Nat} {u : Value} {xs : List Int} (h : OwP w B u xs) (hb : Below C w w') (hC : w.heap.size ≤ C) : OwP w' B u xs := ⟨h.1.below hb hC, h.2⟩
theorem OwP.src {w : World} {B : Nat} {u : Value} {xs : List Int} (h : OwP w B u xs) : Src w u xs := by
  obtain ⟨ho, g, c, rfl⟩ := h
  obtain ⟨p, c2, e, hx⟩ := ho.sv
  rcases ho.form with ⟨e, _⟩ | ⟨g2, c3, e2, _, hl⟩
  · simp at e
  · refine .inr ⟨g, 0, c, rfl, ?_, fun j hj => ?_⟩
    · simp only [Value.slice.injEq, Option.some.injEq, Addr.mk.injEq, and_true] at e2
      omega
    · obtain ⟨b, off, hp, _, hc⟩ := hx (by omega)
      simp only [Value.slice.injEq] at e
      obtain ⟨rfl, _, _⟩ := e
      simp only [Option.some.injEq, Addr.mk.injEq, and_true] at hp
      obtain ⟨rfl, rfl⟩ := hp
      exact hc j hj
theorem OwP.lies {w : World} {B : Nat} {u : Value} {xs : List Int} (h : OwP w B u xs) : ∃ g c, u = .slice (some ⟨g, 0, none⟩) xs.length c ∧ g < w.heap.size ∧ ∀ j, j < xs.length → w.cell? ⟨g, 0 + j, none⟩ = some (.int .i64 (xs.getD j 0)) := by
  rcases h.src with ⟨e, _⟩ | ⟨b, off, c, e, hb, hc⟩
  · obtain ⟨_, g, c, e2⟩ := h; rw [e] at e2; simp at e2
  · obtain ⟨_, g, c2, e2⟩ := h
    rw [e] at e2
    simp only [Value.slice.injEq, Option.some.injEq, Addr.mk.injEq, and_true] at e2
    obtain ⟨⟨rfl, rfl⟩, _, _⟩ := e2
    exact ⟨b, c, e, hb, hc⟩
/-- A slice of slices. -/
def Ows (w : World) (B : Nat) (v : Value) (L : List (List Int)) : Prop := ∃ vals : List Value, w.ownsRow B 22 1 v L.length vals ∧ ∀ j, j < L.length → OwP w B (vals.getD j undef) (L.getD j [])
theorem row_below {w w' : World} {B C n : Nat} {t : TypeId} {v : Value} {xs : List Value} (h : w.ownsRow B t 1 v n xs) (hb : Below C w w') (hC : w.heap.size ≤ C) : w'.ownsRow B t 1 v n xs := by
  obtain ⟨h1, h2⟩ := h
  refine ⟨h1, ?_⟩
  rcases h2 with h2 | ⟨g, cap, cur, hv, hg, hh, r⟩
  · exact .inl h2
  · refine .inr ⟨g, cap, cur, hv, hg, ?_, r⟩
    rw [hb.block g (Nat.lt_of_lt_of_le (Array.getElem?_eq_some_iff.1 hh).1 hC)]; exact hh
theorem Ows.below {w w' : World} {B C : Nat} {v : Value} {L : List (List Int)} (h : Ows w B v L) (hb : Below C w w') (hC : w.heap.size ≤ C) : Ows w' B v L := by
  obtain ⟨vals, h1, h2⟩ := h
  exact ⟨vals, row_below h1 hb hC, fun j hj => (h2 j hj).below hb hC⟩
theorem OwP.mono {w : World} {B C : Nat} {u : Value} {xs : List Int} (h : OwP w B u xs) (hC : C ≤ B) : OwP w C u xs := ⟨h.1.mono hC, h.2⟩
theorem row_mono {w : World} {B C n : Nat} {t : TypeId} {v : Value} {xs : List Value} (h : w.ownsRow B t 1 v n xs) (hC : C ≤ B) : w.ownsRow C t 1 v n xs := by
  obtain ⟨h1, h2⟩ := h
  refine ⟨h1, ?_⟩
  rcases h2 with h2 | ⟨g, cap, cur, hv, hg, r⟩
  · exact .inl h2
  · exact .inr ⟨g, cap, cur, hv, by omega, r⟩
theorem Ows.mono {w : World} {B C : Nat} {v : Value} {L : List (List Int)} (h : Ows w B v L) (hC : C ≤ B) : Ows w C v L := by
  obtain ⟨vals, h1, h2⟩ := h
  exact ⟨vals, row_mono h1 hC, fun j hj => (h2 j hj).mono hC⟩
theorem Ows.nil (w : World) (B : Nat) : Ows w B (.slice none 0 0) [] := ⟨[], World.ownsRow_nil _ _ _ _, fun j hj => by simp at hj⟩
theorem Ows.empty (w : World) {B : Nat} (hB : B ≤ w.heap.size) : Ows (w.alloc (.cells #[] 22)) B (.slice (some ⟨w.heap.size, 0, none⟩) 0 0) [] :=
  ⟨[], World.ownsRow_made w #[] 0 hB (by unfold maxLen; omega) rfl, fun j hj => by simp at hj⟩
theorem Ows.form {w : World} {B : Nat} {v : Value} {L : List (List Int)} (h : Ows w B v L) : (v = .slice none 0 0 ∧ L = []) ∨ ∃ g cap, v = .slice (some ⟨g, 0, none⟩) L.length cap ∧ B ≤ g ∧ g < w.heap.size ∧ ∀ j, j < L.length → ∃ u, w.cell? ⟨g, j, none⟩ = some u ∧ OwP w B u (L.getD j []) := by
  obtain ⟨vals, h1, h2⟩ := h
  rcases id h1.2 with ⟨e, hn⟩ | ⟨g, cap, cur, rfl, hg, hh, _⟩
  · exact .inl ⟨e, List.length_eq_zero_iff.1 hn⟩
  · refine .inr ⟨g, cap, rfl, hg, (Array.getElem?_eq_some_iff.1 hh).1, fun j hj => ⟨vals.getD j undef, ?_, h2 j hj⟩⟩
    rw [h1.cellAt j (by omega)]
    have hl : vals.length = L.length := by have := h1.1; omega
    rw [List.getD_eq_getElem?_getD, List.getElem?_eq_getElem (by omega)]
    rfl
theorem OwP.one {w : World} {B : Nat} {v : Value} {ys : List Int} (h : OwP w B v ys) : v.oneCell' = true := by
  obtain ⟨_, g, c, rfl⟩ := h; rfl
theorem own_ne {w : World} {B C : Nat} {t s : TypeId} {n k : Nat} {v u : Value} {xs ys : List Value} (h : w.ownsRow B t 1 v n xs) (g : w.ownsRow C s 1 u k ys) (hts : s ≠ t) : u.ownBlock = none ∨ u.ownBlock ≠ v.ownBlock := by
  rcases g.2 with ⟨rfl, _⟩ | ⟨gu, capu, curu, rfl, _, hu, _⟩
  · exact .inl rfl
  · refine .inr fun e => ?_
    rcases h.2 with ⟨rfl, _⟩ | ⟨gv, capv, curv, rfl, _, hv, _⟩
    · simp [Value.ownBlock] at e
    · have e2 : gu = gv := by simpa [Value.ownBlock] using e
      subst e2
      rw [hu] at hv
      simp at hv
      exact hts hv.2
theorem getD_app_lt {α : Type} (a b : List α) (d : α) {j : Nat} (h : j < a.length) : (a ++ b).getD j d = a.getD j d := by
  rw [List.getD_eq_getElem?_getD, List.getD_eq_getElem?_getD, List.getElem?_append_left h]
theorem getD_app_ge {α : Type} (a b : List α) (d : α) {j : Nat} (h : a.length ≤ j) : (a ++ b).getD j d = b.getD (j - a.length) d := by
  rw [List.getD_eq_getElem?_getD, List.getD_eq_getElem?_getD, List.getElem?_append_right h]
/-- Some slices more. -/
theorem Ows.appended {w w' : World} {B : Nat} {v v' : Value} {L M : List (List Int)} {vals us : List Value} (h1 : w.ownsRow B 22 1 v L.length vals) (h2 : ∀ j, j < L.length → OwP w B (vals.getD j undef) (L.getD j []))
    (hu : ∀ j, j < M.length → OwP w B (us.getD j undef) (M.getD j [])) (ho : w'.ownsRow B 22 1 v' (L.length + M.length) (vals ++ us)) (hg : w.grownBy w' v.ownBlock) : Ows w' B v' (L ++ M) := by
  have hl : vals.length = L.length := by have := h1.1; omega
  refine ⟨vals ++ us, by rw [List.length_append]; exact ho, fun j hj => ?_⟩
  have kp : ∀ {u : Value} {xs : List Int}, OwP w B u xs → OwP w' B u xs := fun h => ⟨h.1.kept hg (own_ne h1 h.1 (by decide)), h.2⟩
  rw [List.length_append] at hj
  by_cases e : j < L.length
  · rw [getD_app_lt _ _ _ (by omega), getD_app_lt _ _ _ e]
    exact kp (h2 j e)
  · rw [getD_app_ge _ _ _ (by omega), getD_app_ge _ _ _ (by omega), hl]
    exact kp (hu _ (by omega))
/-- Where an appended slice of slices lies: where it lay, or in a new block. -/
theorem rows_blk {w w' : World} (ty : TypeId) (B : Nat) (v v' : Value) (vals us : List Value) (n : Nat) (hown : w.ownsRow B 22 1 v n vals) (a : Addr) (m c : Nat) (hl : us.length = m) (hnews : ∀ j u, us[j]? = some u → w.cell? (a.add j) = some u) (h1 : ∀ u ∈ us, u.oneCell' = true)
    (hlen : n + m ≤ 1073741824) (hB : B ≤ w.heap.size) (hr : (Builtin.append_ #[50, 50] ty #[v, .slice (some a) m c]).run Try.prog w = .ok v' w') : v'.ownBlock = v.ownBlock ∨ v'.ownBlock = some w.heap.size := by
  obtain ⟨i0, hi, hz0, hz1, hz2⟩ := info_parts Try.infoR
  have same : ∀ {x y : Value} {wx wy : World}, (Builtin.append_ #[50, 50] ty #[v, .slice (some a) m c]).run Try.prog w = .ok x wx → (Builtin.append_ #[50, 50] ty #[v, .slice (some a) m c]).run Try.prog w = .ok y wy → x = y := fun h g => by
    rw [h] at g
    simp only [Result.ok.injEq] at g
    exact g.1
  rcases id hown.2 with ⟨e, e0⟩ | ⟨g, cap, cur, e, hbg, hg, hnc, hcm, hcs, htake⟩
  · by_cases hm : m = 0
    · obtain ⟨x, wx, hx, _, _, h4⟩ := run_append_own (P := Try.prog) w B 50 ty 22 i0 (.slice none 0 0) 1 24 Try.underlying50 hi hz0 hz1 hz2 rfl (by decide) v n vals hown a m c us (by omega) hnews h1 (by unfold maxLen; omega) (by omega) hB
      rw [same hr hx, h4.2 ⟨e, hm⟩, e]
      exact .inl rfl
    · subst e
      have hx := run_append_nil (P := Try.prog) w 50 ty 22 i0 (.slice none 0 0) Try.underlying50 hi hz0 a m c us (by rw [hz1]; omega) hnews (by omega) (by omega) (by rw [hz2]; omega)
      rw [same hr hx]
      exact .inr rfl
  · subst e
    by_cases hroom : n + m ≤ cap
    · have hx := run_append_room (P := Try.prog) w 50 ty 22 i0 Try.underlying50 hi g n cap cur hg a m c us (by rw [hz1]; omega) hnews h1 hroom (by rw [hz1, hcs]; omega)
      rw [same hr hx]
      exact .inl rfl
    · have holds : ∀ j u, vals[j]? = some u → w.cell? ((⟨g, 0, none⟩ : Addr).add j) = some u := hown.cells (g := g) rfl
      have hv : vals.length = n := by have := hown.1; omega
      have hx := run_append_grow (P := Try.prog) w 50 ty 22 i0 (.slice none 0 0) Try.underlying50 hi hz0 ⟨g, 0, none⟩ n cap vals (by rw [hz1]; omega) holds a m c us (by rw [hz1]; omega) hnews (by omega) (by omega) (growslice_fits (by omega) (by rw [hz2]; omega))
      rw [same hr hx]
      exact .inr rfl
/-- What a step leaves of the slice that it appended to. -/
structure App (w w' : World) (B : Nat) (v v' : Value) (L : List (List Int)) : Prop where
  ows : Ows w' B v' L
  bel : Below B w w'
  grown : w.grownBy w' v.ownBlock
  blk : v'.ownBlock = v.ownBlock ∨ v'.ownBlock = some w.heap.size
theorem wpList_append_rows {w : World} {ops : Array Oper} {rest : List Oper} {o : Oper} {a : Act} {Q : Exit → Act → World → Prop} (hgd : o.guard = none) (s x : Operand)
    (ho : o.op = .call { callee := .builtin .append, args := #[s, x], argTypes := #[50, 50] })
    (B : Nat) (v : Value) (L M : List (List Int)) (hs : a.eval s = v) (hr : Ows w B v L) (g c : Nat) (us : List Value) (hx : a.eval x = .slice (some ⟨g, 0, none⟩) M.length c) (hus : us.length = M.length) (hgc : ∀ j u, us[j]? = some u → w.cell? ⟨g, j, none⟩ = some u)
    (hu : ∀ j, j < M.length → OwP w B (us.getD j undef) (M.getD j [])) (hlen : L.length + M.length ≤ 1073741824) (hB : B ≤ w.heap.size)
    (h : ∀ v' w', App w w' B v v' (L ++ M) → wpList Try.prog ops Q rest (a.put o.dst v') w') : wpList Try.prog ops Q (o :: rest) a w := by
  obtain ⟨i0, hi, hz0, hz1, hz2⟩ := info_parts Try.infoR
  obtain ⟨vals, h1, h2⟩ := hr
  have hn : ∀ j u, us[j]? = some u → w.cell? ((⟨g, 0, none⟩ : Addr).add j) = some u := by
    intro j u hj
    have := hgc j u hj
    by_cases e : j = 0
    · subst e; simpa [Addr.add] using this
    · simpa [Addr.add, e] using this
  have ho1 : ∀ u ∈ us, u.oneCell' = true := by
    intro u hm
    obtain ⟨j, hj, rfl⟩ := List.getElem_of_mem hm
    have := (hu j (by omega)).one
    rwa [List.getD_eq_getElem?_getD, List.getElem?_eq_getElem hj] at this
  obtain ⟨v', w', r, k2, k3, _⟩ := run_append_own (P := Try.prog) w B 50 o.type 22 i0 (.slice none 0 0) 1 24 Try.underlying50 hi hz0 hz1 hz2 rfl (by decide) v L.length vals h1 ⟨g, 0, none⟩ M.length c us (by omega) hn ho1 (by unfold maxLen; omega) (by omega) hB
  have kb := rows_blk o.type B v v' vals us L.length h1 ⟨g, 0, none⟩ M.length c hus hn ho1 hlen hB r
  refine wpList_plain hgd fun K hK => ?_
  unfold Oper.wp execOp
  simp only [ho, resolve, invoke, builtin, Sem.run_bind, Sem.run_pure, Result.andThen_ok, List.map_toArray, List.map_cons, List.map_nil, hs, hx, r]
  exact hK _ _ (h v' w' ⟨Ows.appended h1 h2 hu k2 k3, (Below.refl B w).grown k3 hB fun k hk => (World.ownsRow.lt h1 k hk).1, k3, kb⟩)
/-- One slice more, from a literal of one. -/
theorem wpList_append_rowL {w : World} {ops : Array Oper} {rest : List Oper} {o : Oper} {a : Act} {Q : Exit → Act → World → Prop} (hgd : o.guard = none) (s x : Operand)
    (ho : o.op = .call { callee := .builtin .append, args := #[s, x], argTypes := #[50, 50] })
    (B : Nat) (v : Value) (L : List (List Int)) (hs : a.eval s = v) (hr : Ows w B v L) (g : Nat) (u : Value) (m : List Int) (hx : a.eval x = .slice (some ⟨g, 0, none⟩) 1 1) (hgc : w.cell? ⟨g, 0, none⟩ = some u)
    (hu : OwP w B u m) (hlen : L.length + 1 ≤ 1073741824) (hB : B ≤ w.heap.size)
    (h : ∀ v' w', App w w' B v v' (L ++ [m]) → wpList Try.prog ops Q rest (a.put o.dst v') w') : wpList Try.prog ops Q (o :: rest) a w := by
  refine wpList_append_rows hgd s x ho B v L [m] hs hr g 1 [u] hx rfl ?_ ?_ hlen hB h
  · intro j y hy
    cases j with
    | zero => have e : u = y := by simpa using hy
              rw [← e]; exact hgc
    | succ j => simp at hy
  · intro j hj
    obtain rfl : j = 0 := by simp at hj; omega
    exact hu
/-- All slices of another. -/
theorem wpList_append_rowA {w : World} {ops : Array Oper} {rest : List Oper} {o : Oper} {a : Act} {Q : Exit → Act → World → Prop} (hgd : o.guard = none) (s x : Operand)
    (ho : o.op = .call { callee := .builtin .append, args := #[s, x], argTypes := #[50, 50] })
    (B : Nat) (v : Value) (L M : List (List Int)) (hs : a.eval s = v) (hr : Ows w B v L) (u : Value) (hx : a.eval x = u) (hu : Ows w B u M) (hne : u ≠ .slice none 0 0) (hlen : L.length + M.length ≤ 1073741824) (hB : B ≤ w.heap.size)
    (h : ∀ v' w', App w w' B v v' (L ++ M) → wpList Try.prog ops Q rest (a.put o.dst v') w') : wpList Try.prog ops Q (o :: rest) a w := by
  obtain ⟨us, h1, h2⟩ := hu
  have hl : us.length = M.length := by have := h1.1; omega
  rcases id h1.2 with ⟨e, _⟩ | ⟨g, cap, cur, rfl, hg, hh, _⟩
  · exact (hne e).elim
  · refine wpList_append_rows hgd s x ho B v L M hs hr g cap us hx hl ?_ h2 hlen hB h
    intro j y hy
    have hj : j < us.length := by
      by_cases hj : j < us.length
      · exact hj
      · rw [List.getElem?_eq_none (by omega)] at hy; cases hy
    rw [h1.cellAt j (by omega)]
    exact hy
/-- Blocks from lo to hi are as they were; a slice that lies apart from them. -/
def Mid (lo hi : Nat) (W W' : World) : Prop := W.heap.size ≤ W'.heap.size ∧ ∀ i, lo ≤ i → i < hi → W'.heap[i]? = W.heap[i]?
def Apt (v : Value) (lo hi : Nat) : Prop := ∀ g, v.ownBlock = some g → g < lo ∨ hi ≤ g
theorem Mid.refl (lo hi : Nat) (W : World) : Mid lo hi W W := ⟨Nat.le_refl _, fun _ _ _ => rfl⟩
theorem Mid.trans {lo hi : Nat} {A B C : World} (h : Mid lo hi A B) (k : Mid lo hi B C) : Mid lo hi A C := ⟨Nat.le_trans h.1 k.1, fun i h1 h2 => (k.2 i h1 h2).trans (h.2 i h1 h2)⟩
theorem Mid.below {lo hi D : Nat} {W W' : World} (h : Below D W W') (hD : hi ≤ D) : Mid lo hi W W' := ⟨h.size, fun i _ h2 => h.block i (by omega)⟩
theorem App.mid {w w' : World} {B lo hi : Nat} {v v' : Value} {L : List (List Int)} (h : App w w' B v v' L) (ha : Apt v lo hi) (hz : hi ≤ w.heap.size) : Mid lo hi w w' ∧ Apt v' lo hi := by
  refine ⟨⟨h.bel.size, fun i h1 h2 => h.grown.block i (by omega) fun e => ?_⟩, fun g hg => ?_⟩
  · have := ha i e.symm; omega
  · rcases h.blk with e | e
    · exact ha g (e ▸ hg)
    · rw [e] at hg; cases hg; exact .inr hz
theorem Ows.apt {w : World} {B lo hi : Nat} {v : Value} {L : List (List Int)} (h : Ows w B v L) (hz : w.heap.size ≤ lo) : Apt v lo hi := fun g hg => by
  obtain ⟨vals, h1, _⟩ := h
  exact .inl (Nat.lt_of_lt_of_le (World.ownsRow.lt h1 g hg).2 hz)
theorem OwP.mid {w w' : World} {B hi : Nat} {u : Value} {xs : List Int} (h : OwP w B u xs) (hh : w.heap.size ≤ hi) (k : ∀ i, B ≤ i → i < hi → w'.heap[i]? = w.heap[i]?) : OwP w' B u xs := by
  obtain ⟨⟨h1, h2⟩, h3⟩ := h
  refine ⟨⟨h1, ?_⟩, h3⟩
  rcases h2 with h2 | ⟨g, cap, cur, hv, hg, hb, r⟩
  · exact .inl h2
  · exact .inr ⟨g, cap, cur, hv, hg, (k g hg (Nat.lt_of_lt_of_le (Array.getElem?_eq_some_iff.1 hb).1 hh)).trans hb, r⟩
theorem cell_of_heap {W W' : World} {g j : Nat} (h : W'.heap[g]? = W.heap[g]?) : W'.cell? ⟨g, j, none⟩ = W.cell? ⟨g, j, none⟩ := by simp only [World.cell?, h]
/-- Literals. -/
theorem Ows.lit1 {w : World} {B : Nat} {u : Value} {xs : List Int} (h : OwP w B u xs) (hB : B ≤ w.heap.size) : Ows (w.alloc (.cells #[u] 22)) B (.slice (some ⟨w.heap.size, 0, none⟩) 1 1) [xs] := by
  refine ⟨[u], World.ownsRow_lit w #[u] 1 hB (by unfold maxLen; omega) rfl, fun j hj => ?_⟩
  obtain rfl : j = 0 := by simp at hj; omega
  exact h.below ((Below.refl _ _).alloc (Nat.le_refl _) _) (Nat.le_refl _)
theorem owp_empty (w : World) : OwP (w.alloc (.cells #[] 3)) w.heap.size (.slice (some ⟨w.heap.size, 0, none⟩) 0 0) [] := ⟨ow_empty w, _, _, rfl⟩
theorem src_onel (w : World) (n : Int) : Src (w.alloc (.cells #[.int .i64 n] 3)) (.slice (some ⟨w.heap.size, 0, none⟩) 1 1) [n] := src_one w n
theorem concat2_pos (b : Nat) (v1 v2 : Value) (x1 x2 : List Int) (w : World) (hh : w.heap[b]? = some (.cells #[v1, v2] 22)) (h1 : Src w v1 x1) (h2 : Src w v2 x2)
    (l1 : x1.length ≤ 1048576) (l2 : x2.length ≤ 1048576) (hne : x1 ++ x2 ≠ []) :
    Calls Try.prog 69 #[.slice (some ⟨b, 0, none⟩) 2 2] w fun e w' => ∃ u, e = .returned u ∧ OwP w' w.heap.size u (x1 ++ x2) ∧ Below w.heap.size w w' := by
  refine (concat2_any b v1 v2 x1 x2 w hh h1 h2 l1 l2).mono ?_
  rintro e w' ⟨u, he, ho, hb⟩
  exact ⟨u, he, ho.pos hne, hb⟩
end Go.Proofs.Ytmllokooceghiaa
