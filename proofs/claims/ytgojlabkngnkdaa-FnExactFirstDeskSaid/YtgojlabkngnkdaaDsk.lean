/-
  Desks: the laws' helpers and the two tests, by their contracts. Conditions: lists of at most 2^40 numbers.
-/
import Derived.Test.YtgojlabkngnkdaaDUis
import Derived.Test.YtgojlabkngnkdaaDRtm
import Derived.Test.YtgojlabkngnkdaaDPsl4
import Derived.Test.YtgojlabkngnkdaaDMark4
import Derived.Deep.Heap
import Derived.Deep.CutRange
import Derived.Deep.RegionHeld3
namespace Go.Proofs.Ytgojlabkngnkdaa
open Go.RowKit

theorem dk_cells {w : World} {b : Nat} {x y : Value} {t : TypeId} (h : w.heap[b]? = some (.cells #[x, y] t (0, 0))) :
    w.cell? ⟨b, 0, none⟩ = some x ∧ w.cell? ⟨b, 1, none⟩ = some y ∧ w.frozen? ⟨b, 0, none⟩ = false ∧ w.frozen? ⟨b, 1, none⟩ = false :=
  ⟨by rw [cell_of_row _ _ _ _ _ _ h]; rfl, by rw [cell_of_row _ _ _ _ _ _ h]; rfl, frozen_of_row _ _ _ _ _ h, frozen_of_row _ _ _ _ _ h⟩
theorem addr_add (g o j : Nat) : (⟨g, o, none⟩ : Addr).add j = ⟨g, o + j, none⟩ := by unfold Addr.add; split <;> simp_all
theorem run_loadVar_part {P : Program} (w : World) (g o : Nat) (ty : TypeId) (cs : Array Value) (d : TypeDesc) (hc : ∀ j v, cs[j]? = some v → w.cell? ⟨g, o + j, none⟩ = some v)
    (hu : P.underlying ty = some d) (hd : (match d with | .struct _ | .array _ _ => true | _ => false) = true) (hi : (P.info? ty).map (·.size) = some cs.size) :
    (loadVar ty ⟨g, o, none⟩).run P w = .ok (.agg cs) w := by
  have hl : (loadCells ⟨g, o, none⟩ cs.toList.length).run P w = .ok cs.toList.toArray w :=
    run_loadCells_list (P := P) w ⟨g, o, none⟩ cs.toList (fun j v hv => by
      rw [addr_add]
      exact hc j v (by simpa using hv))
  cases hq : P.info? ty with
  | none => simp [hq] at hi
  | some i =>
    have hs : i.size = cs.size := by simpa [hq] using hi
    have hagg : (isAgg ty).run P w = .ok true w := by
      unfold isAgg
      rw [Sem.run_bind, run_underlying hu w]
      cases d <;> simp_all
    simp only [Array.length_toList, Array.toArray_toList] at hl
    simp [loadVar, Sem.run_bind, hagg, sizeOf, typeInfo, hq, hs, hl]
theorem wl_load_part {P : Program} {ops : Array Oper} {rest : List Oper} {o : Oper} {a : Act} {w : World} {Q : Exit → Act → World → Prop} (hgd : o.guard = none) (ty : TypeId) (x : Operand) (ho : o.op = .load ty x)
    (g k : Nat) (hx : a.eval x = .pointer (some ⟨g, k, none⟩)) (cs : Array Value) (d : TypeDesc) (hc : ∀ j v, cs[j]? = some v → w.cell? ⟨g, k + j, none⟩ = some v)
    (hu : P.underlying ty = some d) (hd : (match d with | .struct _ | .array _ _ => true | _ => false) = true) (hi : (P.info? ty).map (·.size) = some cs.size)
    (h : wpList P ops Q rest (a.put o.dst (.agg cs)) w) : wpList P ops Q (o :: rest) a w :=
  wpList_plain hgd fun K hK => by
    unfold Oper.wp execOp
    simp only [ho, hx, Instr.loadAt, Instr.sureAddr, Sem.run_bind, Sem.run_pure, Result.andThen_ok, run_loadVar_part w g k ty cs d hc hu hd hi]
    exact hK _ _ h

/-- A result of two cells. -/
theorem dk_results {P : Program} {fn : Func} {p : Tmp} {ty : TypeId} (h : fn.results = #[.cell p ty]) (tmps : Array Value) (w : World) (g : Nat) (x y : Value) (fs : Array Field)
    (hp : tmps.getD p undef = .pointer (some ⟨g, 0, none⟩)) (c0 : w.cell? ⟨g, 0, none⟩ = some x) (c1 : w.cell? ⟨g, 1, none⟩ = some y)
    (hu : P.underlying ty = some (.struct fs)) (hi : (P.info? ty).map (·.size) = some 2) :
    (results fn tmps).run P w = .ok (.agg #[x, y]) w := by
  have hp' : tmps[p]?.getD undef = .pointer (some ⟨g, 0, none⟩) := by simpa using hp
  have hl := run_loadVar_part (P := P) w g 0 ty #[x, y] (.struct fs) (fun j v hv => by
    match j, hv with
    | 0, hv => simp at hv; subst hv; simpa using c0
    | 1, hv => simp at hv; subst hv; simpa using c1) hu rfl (by simpa using hi)
  simp [results, h, hp', asAddr, hl]
theorem Try.deskU : ∃ fs, Try.prog.underlying 24 = some (.struct fs) := ⟨_, Try.underlying24⟩
theorem Try.deskI : (Try.prog.info? 24).map (·.size) = some 2 := by kernel_rfl

/-- A box of two cells. -/
structure Bd (w : World) (g : Nat) (x y : Value) : Prop where
  lt : g < w.heap.size
  c0 : w.cell? ⟨g, 0, none⟩ = some x
  c1 : w.cell? ⟨g, 1, none⟩ = some y
theorem Bd.below {w w' : World} {g : Nat} {x y : Value} (h : Bd w g x y) (b : Below w.heap.size w w') : Bd w' g x y :=
  ⟨Nat.lt_of_lt_of_le h.lt b.size, (b.cell (p := ⟨g, 0, none⟩) h.lt).trans h.c0, (b.cell (p := ⟨g, 1, none⟩) h.lt).trans h.c1⟩
theorem Bd.grown {w w' : World} {g r : Nat} {x y : Value} (h : Bd w g x y) (k : w.grownBy w' (some r)) (hne : g ≠ r) : Bd w' g x y := by
  have e : w'.heap[g]? = w.heap[g]? := k.block g h.lt (by simp; omega)
  exact ⟨Nat.lt_of_lt_of_le h.lt k.size, by have := h.c0; simp only [World.cell?] at this ⊢; rw [e]; exact this, by have := h.c1; simp only [World.cell?] at this ⊢; rw [e]; exact this⟩
theorem row_far {w : World} {g k i : Nat} {o : Obj} (h : w.heap[g]? = some o) (hn : g ≠ k) (v : Value) : (w.setCell ⟨k, i, none⟩ v).heap[g]? = some o := by
  rw [Deep.blk_setCell_other _ _ _ _ hn]; exact h
theorem Ow.set_far {w : World} {B : Nat} {v : Value} {ys : List Int} (h : Ow w B v ys) {g i : Nat} {x : Value} (hg : g < B) : Ow (w.setCell ⟨g, i, none⟩ x) B v ys := by
  obtain ⟨h1, h2⟩ := h
  refine ⟨h1, ?_⟩
  rcases h2 with h2 | ⟨k, cap, cur, hv, hk, hh, r⟩
  · exact .inl h2
  · exact .inr ⟨k, cap, cur, hv, hk, row_far hh (by omega) _, r⟩
theorem bd_of {w : World} {g : Nat} {x y : Value} {t : TypeId} (h : w.heap[g]? = some (.cells #[x, y] t (0, 0))) : Bd w g x y :=
  ⟨(Array.getElem?_eq_some_iff.1 h).1, (dk_cells h).1, (dk_cells h).2.1⟩
theorem row_set0 {w : World} {g : Nat} {x y : Value} {t : TypeId} (h : w.heap[g]? = some (.cells #[x, y] t (0, 0))) (v : Value) : (w.setCell ⟨g, 0, none⟩ v).heap[g]? = some (.cells #[v, y] t (0, 0)) := by
  simp [World.setCell, Array.getElem?_modify, h, Array.setIfInBounds]
theorem row_set1 {w : World} {g : Nat} {x y : Value} {t : TypeId} (h : w.heap[g]? = some (.cells #[x, y] t (0, 0))) (v : Value) : (w.setCell ⟨g, 1, none⟩ v).heap[g]? = some (.cells #[x, v] t (0, 0)) := by
  simp [World.setCell, Array.getElem?_modify, h, Array.setIfInBounds]
theorem blk3_0 (w : World) (a b c : Obj) : (((w.alloc a).alloc b).alloc c).heap[w.heap.size]? = some a := by
  rw [heap_alloc_old _ _ (by simp; omega), heap_alloc_old _ _ (by simp)]; exact heap_alloc_new w a
theorem blk3_1 (w : World) (a b c : Obj) : (((w.alloc a).alloc b).alloc c).heap[w.heap.size + 1]? = some b := by
  rw [heap_alloc_old _ _ (by simp)]
  have := heap_alloc_new (w.alloc a) b; simpa using this
theorem blk3_2 (w : World) (a b c : Obj) : (((w.alloc a).alloc b).alloc c).heap[w.heap.size + 1 + 1]? = some c := by
  have := heap_alloc_new ((w.alloc a).alloc b) c; simpa using this
theorem bd_new (w : World) (x y : Value) (t : TypeId) : Bd (w.alloc (.cells #[x, y] t)) w.heap.size x y :=
  ⟨by simp, by rw [cell_of_row _ _ _ _ _ _ (heap_alloc_new w _)]; rfl, by rw [cell_of_row _ _ _ _ _ _ (heap_alloc_new w _)]; rfl⟩
theorem bd_two {W W' : World} {a b : Nat} {x0 x1 y0 y1 : Value} (ha : Bd W a x0 x1) (hb : Bd W b y0 y1) (k : Below W.heap.size W W') :
    W'.cell? ⟨a, 0, none⟩ = some x0 ∧ W'.cell? ⟨a, 1, none⟩ = some x1 ∧ W'.cell? ⟨b, 0, none⟩ = some y0 ∧ W'.cell? ⟨b, 1, none⟩ = some y1 ∧ Below W.heap.size W W' :=
  ⟨(ha.below k).c0, (ha.below k).c1, (hb.below k).c0, (hb.below k).c1, k⟩
theorem bd_bel {W W' : World} (a b : Nat) (x0 x1 y0 y1 : Value)
    (h : W'.cell? ⟨a, 0, none⟩ = some x0 ∧ W'.cell? ⟨a, 1, none⟩ = some x1 ∧ W'.cell? ⟨b, 0, none⟩ = some y0 ∧ W'.cell? ⟨b, 1, none⟩ = some y1 ∧ Below W.heap.size W W') : Below W.heap.size W W' := h.2.2.2.2
theorem Sv.form {w : World} {v : Value} {xs : List Int} (h : Sv w v xs) : ∃ p cap, v = .slice p xs.length cap := by
  obtain ⟨p, cap, e, _⟩ := h; exact ⟨p, cap, e⟩

noncomputable def dkB (xs ys : List Int) : Bool := goodB xs && rulB ys

set_option maxHeartbeats 2000000 in
theorem coGood_any (v u : Value) (xs ys : List Int) (w : World) (h : Sv w v xs) (h2 : Sv w u ys) (hl : xs.length ≤ 1099511627776) (hl2 : ys.length ≤ 1099511627776) :
    Calls Try.prog 33 #[.agg #[v, u]] w fun e w' => e = .returned (.bool (dkB xs ys)) ∧ Below w.heap.size w w' := by
  obtain ⟨p, cap, rfl⟩ := h.form
  obtain ⟨p2, cap2, rfl⟩ := h2.form
  have hb0 : Below w.heap.size w (w.alloc (.cells #[.slice p xs.length cap, .slice p2 ys.length cap2] 24)) := (Below.refl _ w).alloc (Nat.le_refl _) _
  have G := Lib.hid (piGood_any _ xs _ (h.below hb0 (Nat.le_refl _)) hl)
  have R := fun W (hW : Below w.heap.size w W) => Lib.hid (ruGood_any _ ys W (h2.below hW (Nat.le_refl _)) hl2)
  have KK := Lib.hid (show dkB xs ys = (goodB xs && rulB ys) from rfl)
  clear h h2
  cases hg : goodB xs with
  | false =>
    rw [hg] at G KK
    clear hg
    go_enter Try.func33, Try.ntmps33
    go_wp2_with (go_at_call 57; refine G.out.mono ?_; rintro e w1 ⟨rfl, b1⟩)
    go_ret
    exact ⟨by rw [KK.out]; rfl, nxt hb0 b1⟩
  | true =>
    rw [hg] at G KK
    clear hg
    have c1 := (bd_new w (.slice p xs.length cap) (.slice p2 ys.length cap2) 24)
    have C1 := Lib.hid c1
    obtain ⟨W, eW⟩ : ∃ W, w.alloc (.cells #[.slice p xs.length cap, .slice p2 ys.length cap2] 24) = W := ⟨_, rfl⟩
    rw [eW] at C1 hb0 G
    have EW := Lib.hid eW
    clear eW c1
    go_enter Try.func33, Try.ntmps33
    go_wp2_with (first
      | (go_at_call 57; rw [EW.out]; refine G.out.mono ?_; rintro e w1 ⟨rfl, b1⟩; have d1 := (C1.out.below b1).c1; have B1 := nxt hb0 b1)
      | (go_at_call 58; refine (R _ B1).out.mono ?_; rintro e w2 ⟨rfl, b2⟩))
    go_ret
    exact ⟨by rw [KK.out]; simp, nxt B1 b2⟩

set_option maxHeartbeats 2000000 in
theorem implIsDesk_any (v u : Value) (xs ys : List Int) (w : World) (h : Sv w v xs) (h2 : Sp w u ys) (hl : xs.length ≤ 1099511627776) (hl2 : ys.length ≤ 1099511627776) :
    Calls Try.prog 15 #[.agg #[v, u]] w fun e w' => e = .returned (.bool (dkB xs ys)) ∧ Below w.heap.size w w' := by
  obtain ⟨p, cap, rfl⟩ := h.form
  have hb0 : Below w.heap.size w (w.alloc (.cells #[.slice p xs.length cap, u] 24)) := (Below.refl _ w).alloc (Nat.le_refl _) _
  have G := Lib.hid (arePieces_any _ xs _ (h.below hb0 (Nat.le_refl _)) hl)
  have R := fun W (hW : Below w.heap.size w W) => Lib.hid (implIsRuler_any _ ys W (h2.below hW (Nat.le_refl _)) hl2)
  have KK := Lib.hid (show dkB xs ys = (goodB xs && rulB ys) from rfl)
  obtain ⟨b2, off2, cap2, rfl, -⟩ := h2
  clear h
  cases hg : goodB xs with
  | false =>
    rw [hg] at G KK
    clear hg
    go_enter Try.func15, Try.ntmps15
    go_wp2_with (go_at_call 35; refine G.out.mono ?_; rintro e w1 ⟨rfl, b1⟩)
    go_ret
    exact ⟨by rw [KK.out]; rfl, nxt hb0 b1⟩
  | true =>
    rw [hg] at G KK
    clear hg
    have C1 := Lib.hid (bd_new w (.slice p xs.length cap) (.slice (some ⟨b2, off2, none⟩) ys.length cap2) 24)
    obtain ⟨W, eW⟩ : ∃ W, w.alloc (.cells #[.slice p xs.length cap, .slice (some ⟨b2, off2, none⟩) ys.length cap2] 24) = W := ⟨_, rfl⟩
    rw [eW] at C1 hb0 G
    have EW := Lib.hid eW
    clear eW
    go_enter Try.func15, Try.ntmps15
    go_wp2_with (first
      | (go_at_call 35; rw [EW.out]; refine G.out.mono ?_; rintro e w1 ⟨rfl, b1⟩; have d1 := (C1.out.below b1).c1; have B1 := nxt hb0 b1)
      | (go_at_call 36; refine (R _ B1).out.mono ?_; rintro e w2 ⟨rfl, b2⟩))
    go_ret
    exact ⟨by rw [KK.out]; simp, nxt B1 b2⟩

set_option maxHeartbeats 2000000 in
theorem specIsDesk_any (v u : Value) (xs ys : List Int) (w : World) (h : Sv w v xs) (h2 : Sv w u ys) (hl : xs.length ≤ 1099511627776) (hl2 : ys.length ≤ 1099511627776) :
    Calls Try.prog 13 #[.agg #[v, u]] w fun e w' => e = .returned (.bool (dkB xs ys)) ∧ Below w.heap.size w w' := by
  have hb0 : Below w.heap.size w (w.alloc (.cells #[v, u] 24)) := (Below.refl _ w).alloc (Nat.le_refl _) _
  have G := Lib.hid (coGood_any _ _ xs ys _ (h.below hb0 (Nat.le_refl _)) (h2.below hb0 (Nat.le_refl _)) hl hl2)
  obtain ⟨p, cap, rfl⟩ := h.form
  obtain ⟨p2, cap2, rfl⟩ := h2.form
  clear h h2
  go_enter Try.func13, Try.ntmps13
  go_wp2_with (go_at_call 33; refine G.out.mono ?_; rintro e w1 ⟨rfl, b1⟩)
  go_ret
  exact ⟨rfl, nxt hb0 b1⟩

set_option maxHeartbeats 2000000 in
theorem szDesk_any (v u : Value) (xs ys : List Int) (w : World) (h : Sv w v xs) (h2 : Sv w u ys) (hl : xs.length ≤ 9223372036854775807) (hl2 : ys.length ≤ 9223372036854775807) :
    Calls Try.prog 12 #[.agg #[v, u], .int .i64 1048576] w fun e w' => (∃ r : Int, e = .returned (.int .i64 r) ∧ (r < 0 ∨ (0 ≤ r ∧ xs.length ≤ 1048576 ∧ ys.length ≤ 1048576))) ∧ Below w.heap.size w w' := by
  obtain ⟨p, cap, rfl⟩ := h.form
  obtain ⟨p2, cap2, rfl⟩ := h2.form
  have hb0 : Below w.heap.size w (w.alloc (.cells #[.slice p xs.length cap, .slice p2 ys.length cap2] 29)) := (Below.refl _ w).alloc (Nat.le_refl _) _
  by_cases h1 : (xs.length : Int) ≤ 1048576
  · have S1 := Lib.hid (szIntS_yes _ xs 1048576 _ (h.below hb0 (Nat.le_refl _)) (by omega) h1)
    obtain ⟨l, el⟩ : ∃ l : Int, 1048576 - (xs.length : Int) = l := ⟨_, rfl⟩
    rw [el] at S1
    have d1 : decide (l < 0) = false := by simp; omega
    by_cases h3 : (ys.length : Int) ≤ l
    · have S2 := Lib.hid (szIntS_yes _ ys l _ (h2.below hb0 (Nat.le_refl _)) (by omega) h3)
      obtain ⟨r, er⟩ : ∃ r : Int, l - (ys.length : Int) = r := ⟨_, rfl⟩
      rw [er] at S2
      have d2 : decide (r < 0) = false := by simp; omega
      have F := Lib.hid (show 0 ≤ r ∧ xs.length ≤ 1048576 ∧ ys.length ≤ 1048576 by omega)
      clear h h2 el er h1 h3
      go_enter Try.func12, Try.ntmps12
      go_wp2_with (first
        | (go_at_call 32; refine S1.out.mono ?_; rintro e w1 ⟨rfl, rfl⟩; clear S1)
        | (go_at_call 32; refine S2.out.mono ?_; rintro e w1 ⟨rfl, rfl⟩; clear S2))
      go_ret
      exact ⟨⟨_, rfl, .inr F.out⟩, hb0⟩
    · have S2 := Lib.hid (szIntS_no _ ys l _ (h2.below hb0 (Nat.le_refl _)) (by omega) hl2 (by omega))
      clear h h2 el h1 h3
      go_enter Try.func12, Try.ntmps12
      go_wp2_with (first
        | (go_at_call 32; refine S1.out.mono ?_; rintro e w1 ⟨rfl, rfl⟩; clear S1)
        | (go_at_call 32; refine S2.out.mono ?_; rintro e w1 ⟨rfl, rfl⟩; clear S2))
      go_ret
      exact ⟨⟨_, rfl, .inl (by omega)⟩, hb0⟩
  · have S1 := Lib.hid (szIntS_no _ xs 1048576 _ (h.below hb0 (Nat.le_refl _)) (by omega) hl (by omega))
    clear h h2 h1
    go_enter Try.func12, Try.ntmps12
    go_wp2_with (go_at_call 32; refine S1.out.mono ?_; rintro e w1 ⟨rfl, rfl⟩; clear S1)
    go_ret
    exact ⟨⟨_, rfl, .inl (by omega)⟩, hb0⟩

set_option maxHeartbeats 4000000 in
theorem toDesk_any (v u : Value) (xs ys : List Int) (w : World) (h : Sv w v xs) (h2 : Sv w u ys) (hl : xs.length ≤ 1099511627776) (hl2 : ys.length ≤ 1099511627776) :
    Calls Try.prog 14 #[.agg #[v, u]] w fun e w' => ∃ v' u', e = .returned (.agg #[v', u']) ∧ Sv w' v' xs ∧ Sp w' u' ys ∧ Below w.heap.size w w' := by
  obtain ⟨p, cap, rfl⟩ := h.form
  obtain ⟨p2, cap2, rfl⟩ := h2.form
  obtain ⟨W, eW⟩ : ∃ W, ((w.alloc (.cells #[.slice p xs.length cap, .slice p2 ys.length cap2] 29)).alloc (.cells #[.slice none 0 0, .slice none 0 0] 24)).alloc (.cells #[.slice none 0 0, .slice none 0 0] 24) = W := ⟨_, rfl⟩
  have hb0 : Below w.heap.size w W := by rw [← eW]; exact (((Below.refl _ w).alloc (Nat.le_refl _) _).alloc (by simp) _).alloc (by simp; omega) _
  have hz : W.heap.size = w.heap.size + 1 + 1 + 1 := by rw [← eW]; simp
  have k0 : W.heap[w.heap.size]? = some (.cells #[.slice p xs.length cap, .slice p2 ys.length cap2] 29 (0, 0)) := by rw [← eW]; exact blk3_0 _ _ _ _
  have k1 : W.heap[w.heap.size + 1]? = some (.cells #[.slice none 0 0, .slice none 0 0] 24 (0, 0)) := by rw [← eW]; exact blk3_1 _ _ _ _
  have k2 : W.heap[w.heap.size + 1 + 1]? = some (.cells #[.slice none 0 0, .slice none 0 0] 24 (0, 0)) := by rw [← eW]; exact blk3_2 _ _ _ _
  have T1 := Lib.hid (toIntS_any _ xs _ (h.below hb0 (Nat.le_refl _)) hl)
  have T2 := fun W' (hW : Below w.heap.size w W') => Lib.hid (toIntS_any _ ys W' (h2.below hW (Nat.le_refl _)) hl2)
  obtain ⟨x0, x1, -, -⟩ := dk_cells k0
  have EW := Lib.hid eW
  clear h h2
  go_enter Try.func14, Try.ntmps14
  go_upto_region 2 with (fail)
  try rw [EW.out]
  clear eW EW
  go_wp2_with fail
  refine T1.out.mono ?_
  rintro e w1 ⟨v1, rfl, o1, -, b1⟩
  obtain ⟨q1, cp1, rfl⟩ := o1.sv.form
  have z1 := b1.size
  have m0 := (b1.block w.heap.size (by omega)).trans k0
  have m1 := (b1.block (w.heap.size + 1) (by omega)).trans k1
  have m2 := (b1.block (w.heap.size + 1 + 1) (by omega)).trans k2
  clear x0 x1 T1
  obtain ⟨y0, y1, -, -⟩ := dk_cells m0
  obtain ⟨c20, c21, f20, f21⟩ := dk_cells m2
  go_upto_region 3 with (fail)
  have n0 := row_far m0 (show w.heap.size ≠ w.heap.size + 1 + 1 by omega) (i := 0) (Value.slice q1 xs.length cp1)
  have n1 := row_far m1 (show w.heap.size + 1 ≠ w.heap.size + 1 + 1 by omega) (i := 0) (Value.slice q1 xs.length cp1)
  have n2 := row_set0 m2 (Value.slice q1 xs.length cp1)
  have B2 : Below w.heap.size w (w1.setCell ⟨w.heap.size + 1 + 1, 0, none⟩ (.slice q1 xs.length cp1)) := (nxt hb0 b1).setCell (p := ⟨w.heap.size + 1 + 1, 0, none⟩) (by show w.heap.size ≤ w.heap.size + 1 + 1; omega) _
  have zz : (w1.setCell ⟨w.heap.size + 1 + 1, 0, none⟩ (.slice q1 xs.length cp1)).heap.size = w1.heap.size := by simp [World.setCell]
  have O1 : Ow (w1.setCell ⟨w.heap.size + 1 + 1, 0, none⟩ (.slice q1 xs.length cp1)) W.heap.size (.slice q1 xs.length cp1) xs := o1.set_far (by omega)
  clear y0 y1 c20 c21 f20 f21 m0 m1 m2 k0 k1 k2 o1
  generalize w1.setCell ⟨w.heap.size + 1 + 1, 0, none⟩ (.slice q1 xs.length cp1) = w2 at *
  obtain ⟨y0, y1, -, -⟩ := dk_cells n0
  go_wp2_with fail
  refine (T2 _ B2).out.mono ?_
  rintro e w3 ⟨v3, rfl, o3, oa3, b3⟩
  obtain ⟨q3, cp3, rfl⟩ := o3.sv.form
  have z3 := b3.size
  have m1 := (b3.block (w.heap.size + 1) (by omega)).trans n1
  have m2 := (b3.block (w.heap.size + 1 + 1) (by omega)).trans n2
  clear y0 y1 T2
  obtain ⟨c10, c11, f10, f11⟩ := dk_cells m1
  obtain ⟨c20, c21, f20, f21⟩ := dk_cells m2
  go_wp2_with fail
  obtain ⟨fs, hfs⟩ := Try.deskU
  have zw : W.heap.size ≤ w2.heap.size := by omega
  refine bodyPost_ret (v := .agg #[.slice q1 xs.length cp1, .slice q3 ys.length cp3]) (dk_results rfl _ _ (w.heap.size + 1) _ _ fs rfl ?_ ?_ hfs Try.deskI) rfl ⟨_, _, rfl, ((((O1.below b3 (Nat.le_refl _)).set_far (by omega)).set_far (by omega)).set_far (by omega)).sv, (((o3.set_far (by omega)).set_far (by omega)).set_far (by omega)).sp oa3, (((nxt B2 b3).setCell (p := ⟨w.heap.size + 1 + 1, 1, none⟩) (by show w.heap.size ≤ w.heap.size + 1 + 1; omega) _).setCell (p := ⟨w.heap.size + 1, 0, none⟩) (by show w.heap.size ≤ w.heap.size + 1; omega) _).setCell (p := ⟨w.heap.size + 1, 1, none⟩) (by show w.heap.size ≤ w.heap.size + 1; omega) _⟩
  · simp [World.cell?_setCell_other, World.cell?_setCell_same, go_sem, c10]
  · simp [World.cell?_setCell_other, World.cell?_setCell_same, go_sem, c11]

set_option maxHeartbeats 2000000 in
theorem eqDesk_yes (v u v2 u2 : Value) (xs ys : List Int) (w : World) (h : Sv w v xs) (h2 : Sv w u ys) (k : Sv w v2 xs) (k2 : Sv w u2 ys) (hl : xs.length ≤ 1099511627776) (hl2 : ys.length ≤ 1099511627776) :
    Calls Try.prog 9 #[.agg #[v, u], .agg #[v2, u2]] w fun e w' => e = .returned (.bool true) ∧ Below w.heap.size w w' := by
  obtain ⟨p, cap, rfl⟩ := h.form
  obtain ⟨p2, cap2, rfl⟩ := h2.form
  obtain ⟨q, cap3, rfl⟩ := k.form
  obtain ⟨q2, cap4, rfl⟩ := k2.form
  obtain ⟨W, eW⟩ : ∃ W, (w.alloc (.cells #[.slice p xs.length cap, .slice p2 ys.length cap2] 24)).alloc (.cells #[.slice q xs.length cap3, .slice q2 ys.length cap4] 24) = W := ⟨_, rfl⟩
  have hb0 : Below w.heap.size w W := by rw [← eW]; exact ((Below.refl _ w).alloc (Nat.le_refl _) _).alloc (by simp) _
  have A0 := bd_of (show W.heap[w.heap.size]? = _ by rw [← eW]; exact blk_a w _ _)
  have B0 := bd_of (show W.heap[w.heap.size + 1]? = _ by rw [← eW]; exact blk_b w _ _)
  have E1 := Lib.hid (eqIntS_yes _ _ xs xs W (h.below hb0 (Nat.le_refl _)) (k.below hb0 (Nat.le_refl _)) rfl hl)
  have E2 := fun W' (hW : Below w.heap.size w W') => Lib.hid (eqIntS_yes _ _ ys ys W' (h2.below hW (Nat.le_refl _)) (k2.below hW (Nat.le_refl _)) rfl hl2)
  clear h h2 k k2
  have HA := Lib.hid A0
  have HB := Lib.hid B0
  obtain ⟨-, x0, -⟩ := A0
  obtain ⟨-, y0, -⟩ := B0
  go_enter Try.func9, Try.ntmps9
  go_wp2_with fail
  clear eW
  refine E1.out.mono ?_
  rintro e w1 ⟨rfl, b1⟩
  clear x0 y0 E1
  have x1 := (HA.out.below b1).c1
  have y1 := (HB.out.below b1).c1
  go_wp2_with fail
  refine (E2 _ (nxt hb0 b1)).out.mono ?_
  rintro e w2 ⟨rfl, b2⟩
  go_wp2_with fail
  go_ret
  exact ⟨rfl, nxt (nxt hb0 b1) b2⟩

end Go.Proofs.Ytgojlabkngnkdaa
