/-
  One step after another, in the program, by a contract. Conditions: each step keeps what is asked of it and lowers a measure, or is the last.
-/
import Derived.Test.YtcgifmoddojnmaaZrd
import Derived.WalkMore
import Derived.ScopeJumps
namespace Go.Proofs.Ytcgifmoddojnmaa
open Go.RowKit

theorem cells2_of {w : World} {b : Nat} {x y : Value} {t : TypeId} (h : w.heap[b]? = some (.cells #[x, y] t (0, 0))) :
    w.cell? ⟨b, 0, none⟩ = some x ∧ w.cell? ⟨b, 1, none⟩ = some y ∧ w.frozen? ⟨b, 0, none⟩ = false ∧ w.frozen? ⟨b, 1, none⟩ = false :=
  ⟨by rw [cell_of_row _ _ _ _ _ _ h]; rfl, by rw [cell_of_row _ _ _ _ _ _ h]; rfl, frozen_of_row _ _ _ _ _ h, frozen_of_row _ _ _ _ _ h⟩
theorem addr_add (g o j : Nat) : (⟨g, o, none⟩ : Addr).add j = ⟨g, o + j, none⟩ := by unfold Addr.add; split <;> simp_all
theorem run_loadVar_part {P : Program} (w : World) (g o : Nat) (ty : TypeId) (cs : Array Value) (d : TypeDesc) (hc : ∀ j v, cs[j]? = some v → w.cell? ⟨g, o + j, none⟩ = some v)
    (hu : P.underlying ty = some d) (hd : (match d with | .struct _ | .array _ _ => true | _ => false) = true) (hi : (P.info? ty).map (·.size) = some cs.size) :
    (loadVar ty ⟨g, o, none⟩).run P w = .ok (.agg cs) w := by
  have hl : (loadCells ⟨g, o, none⟩ cs.toList.length).run P w = .ok cs.toList.toArray w :=
    run_loadCells_list (P := P) w ⟨g, o, none⟩ cs.toList (fun j v hv => by
      rw [addr_add]
      exact hc j v (by simpa using hv))
  cases hq : P.info? ty with
  | none => simp [hq] at hi
  | some i =>
    have hs : i.size = cs.size := by simpa [hq] using hi
    have hagg : (isAgg ty).run P w = .ok true w := by
      unfold isAgg
      rw [Sem.run_bind, run_underlying hu w]
      cases d <;> simp_all
    simp only [Array.length_toList, Array.toArray_toList] at hl
    simp [loadVar, Sem.run_bind, hagg, sizeOf, typeInfo, hq, hs, hl]
theorem wl_load_part {P : Program} {ops : Array Oper} {rest : List Oper} {o : Oper} {a : Act} {w : World} {Q : Exit → Act → World → Prop} (hgd : o.guard = none) (ty : TypeId) (x : Operand) (ho : o.op = .load ty x)
    (g k : Nat) (hx : a.eval x = .pointer (some ⟨g, k, none⟩)) (cs : Array Value) (d : TypeDesc) (hc : ∀ j v, cs[j]? = some v → w.cell? ⟨g, k + j, none⟩ = some v)
    (hu : P.underlying ty = some d) (hd : (match d with | .struct _ | .array _ _ => true | _ => false) = true) (hi : (P.info? ty).map (·.size) = some cs.size)
    (h : wpList P ops Q rest (a.put o.dst (.agg cs)) w) : wpList P ops Q (o :: rest) a w :=
  wpList_plain hgd fun K hK => by
    unfold Oper.wp execOp
    simp only [ho, hx, Instr.loadAt, Instr.sureAddr, Sem.run_bind, Sem.run_pure, Result.andThen_ok, run_loadVar_part w g k ty cs d hc hu hd hi]
    exact hK _ _ h

/-- A result of two cells. -/
theorem results_two {P : Program} {fn : Func} {p : Tmp} {ty : TypeId} (h : fn.results = #[.cell p ty]) (tmps : Array Value) (w : World) (g : Nat) (x y : Value) (fs : Array Field)
    (hp : tmps.getD p undef = .pointer (some ⟨g, 0, none⟩)) (c0 : w.cell? ⟨g, 0, none⟩ = some x) (c1 : w.cell? ⟨g, 1, none⟩ = some y)
    (hu : P.underlying ty = some (.struct fs)) (hi : (P.info? ty).map (·.size) = some 2) :
    (results fn tmps).run P w = .ok (.agg #[x, y]) w := by
  have hp' : tmps[p]?.getD undef = .pointer (some ⟨g, 0, none⟩) := by simpa using hp
  have hl := run_loadVar_part (P := P) w g 0 ty #[x, y] (.struct fs) (fun j v hv => by
    match j, hv with
    | 0, hv => simp at hv; subst hv; simpa using c0
    | 1, hv => simp at hv; subst hv; simpa using c1) hu rfl (by simpa using hi)
  simp [results, h, hp', asAddr, hl]

theorem put2_heap {w : World} {g : Nat} {t : TypeId} {x y : Value} (u v : Value) (h : w.heap[g]? = some (.cells #[x, y] t (0, 0))) :
    ((w.setCell ⟨g, 0, none⟩ u).setCell ⟨g, 1, none⟩ v).heap[g]? = some (.cells #[u, v] t (0, 0)) := by
  simp [World.setCell, Array.getElem?_modify, h]
theorem put2_other {w : World} {g k : Nat} (u v : Value) (h : k ≠ g) :
    ((w.setCell ⟨g, 0, none⟩ u).setCell ⟨g, 1, none⟩ v).heap[k]? = w.heap[k]? := by
  rw [Below.heap_setCell _ _ _ _ h, Below.heap_setCell _ _ _ _ h]

/-- The numbers at hand lie in their box; there is a cell for the result. -/
structure LdJ (w W : World) (S : ByteArray) (m : Int) : Prop where
  box : W.heap[w.heap.size]? = some (.cells #[.string S, .int .i64 m] 74 (0, 0))
  res : W.heap[w.heap.size + 1]? = some (.cells #[.string ⟨#[]⟩, .int .i64 0] 74 (0, 0))
  size : w.heap.size + 1 < W.heap.size
  bel : Below w.heap.size w W
theorem LdJ.step {w W W2 : World} {S : ByteArray} {m : Int} (h : LdJ w W S m) (b : Below W.heap.size W W2) : LdJ w W2 S m :=
  have hs := h.size
  ⟨(b.block _ (by omega)).trans h.box, (b.block _ (by omega)).trans h.res, by have := b.size; omega, h.bel.trans (b.mono (by omega))⟩
theorem LdJ.put {w W : World} {S : ByteArray} {m : Int} (h : LdJ w W S m) (S' : ByteArray) (m' : Int) : LdJ w ((W.setCell ⟨w.heap.size, 0, none⟩ (.string S')).setCell ⟨w.heap.size, 1, none⟩ (.int .i64 m')) S' m' :=
  ⟨put2_heap _ _ h.box, (put2_other _ _ (by omega)).trans h.res, by simpa [World.setCell] using h.size, (h.bel.setCell (p := ⟨w.heap.size, 0, none⟩) (Nat.le_refl _) _).setCell (p := ⟨w.heap.size, 1, none⟩) (Nat.le_refl _) _⟩
theorem LdJ.start (w : World) (S : ByteArray) (m : Int) : LdJ w ((w.alloc (.cells #[.string S, .int .i64 m] 74)).alloc (.cells #[.string ⟨#[]⟩, .int .i64 0] 74)) S m :=
  ⟨blk_a _ _ _, blk_b _ _ _, by simp, ((Below.refl _ w).alloc (Nat.le_refl _) _).alloc (by simp) _⟩

def cStr (o : Option Value) : ByteArray := match o with | some (.string s) => s | _ => ⟨#[]⟩
def cInt (o : Option Value) : Int := match o with | some (.int _ n) => n | _ => 0
theorem LdJ.read {w W : World} {S : ByteArray} {m : Int} (h : LdJ w W S m) : cStr (W.cell? ⟨w.heap.size, 0, none⟩) = S ∧ cInt (W.cell? ⟨w.heap.size, 1, none⟩) = m := by
  obtain ⟨c0, c1, -, -⟩ := cells2_of h.box
  rw [c0, c1]
  exact ⟨rfl, rfl⟩

set_option maxHeartbeats 8000000 in
set_option maxRecDepth 100000 in
theorem leadWrite_any (I : ByteArray → Int → Prop) (M : ByteArray → Int → Nat) (R : ByteArray → Int → Prop) (S : ByteArray) (n : Int) (w : World) (h : I S n)
    (ST : ∀ (S : ByteArray) (m : Int) (W : World), I S m → Calls Try.prog 85 #[.agg #[.string S, .int .i64 m]] W fun e w' => (∃ (S' : ByteArray) (m' : Int) (b : Bool), e = .returned (.tuple #[.agg #[.string S', .int .i64 m'], .bool b]) ∧ (b = true → I S' m' ∧ M S' m' < M S m) ∧ (b = false → R S' m')) ∧ Below W.heap.size W w') :
    Calls Try.prog 84 #[.agg #[.string S, .int .i64 n], .func (.func 85) #[] #[]] w fun e w' => (∃ (S' : ByteArray) (m' : Int), e = .returned (.agg #[.string S', .int .i64 m']) ∧ R S' m') ∧ Below w.heap.size w w' := by
  have HST := Lib.hid ST
  have HI := Lib.hid h
  clear ST h
  obtain ⟨W, eW⟩ : ∃ W, (w.alloc (.cells #[.string S, .int .i64 n] 74)).alloc (.cells #[.string ⟨#[]⟩, .int .i64 0] 74) = W := ⟨_, rfl⟩
  have J0 : Hid (LdJ w W S n) := Lib.hid (by rw [← eW]; exact LdJ.start w S n)
  go_enter Try.func84, Try.ntmps84
  go_wp2
  refine wp_scope_jumps 0 (fun a' W' => ∃ (S' : ByteArray) (m' : Int) (u5 u6 u7 u8 u9 u10 u11 u12 u13 : Value), a' = { tmps := #[.agg #[.string S, .int .i64 n], .func (.func 85) #[] #[], .pointer (some ⟨w.heap.size, 0, none⟩), undef, .pointer (some ⟨w.heap.size + 1, 0, none⟩), u5, u6, u7, u8, u9, u10, u11, u12, u13], defers := [] } ∧ LdJ w W' S' m' ∧ I S' m') (fun _ W' => M (cStr (W'.cell? ⟨w.heap.size, 0, none⟩)) (cInt (W'.cell? ⟨w.heap.size, 1, none⟩))) rfl ?_ ?_
  · obtain ⟨c0, c1, f0, f1⟩ := cells2_of J0.out.box
    clear eW
    go_wp2
    go_step3
    go_wp2_with fail
    refine (HST.out S n W HI.out).mono ?_
    rintro e w2 ⟨⟨S', m', b, rfl, hb, hr⟩, b2⟩
    have J2 := Lib.hid (J0.out.step b2)
    obtain ⟨c0, c1, f0, f1⟩ := cells2_of J2.out.box
    have HB := Lib.hid hb
    have HR := Lib.hid hr
    clear hb hr b2 J0
    cases b with
    | true =>
      go_wp2
      go_step3
      exact ⟨rfl, _, _, _, _, _, _, _, _, _, _, _, rfl, J2.out.put _ _, (HB.out (by simp)).1⟩
    | false =>
      obtain ⟨d0, d1, g0, g1⟩ := cells2_of J2.out.res
      go_wp2
      simp only [Exit.jump]
      refine bodyPost_ret (v := .agg #[.string S', .int .i64 m']) (results_two rfl _ _ (w.heap.size + 1) _ _ _ rfl ?_ ?_ Try.underlying74 (by kernel_rfl)) rfl ⟨⟨_, _, rfl, HR.out (by simp)⟩, ((J2.out.put S' m').bel.setCell (p := ⟨w.heap.size + 1, 0, none⟩) (by show w.heap.size ≤ w.heap.size + 1; omega) _).setCell (p := ⟨w.heap.size + 1, 1, none⟩) (by show w.heap.size ≤ w.heap.size + 1; omega) _⟩
      · simp [World.cell?_setCell_other, World.cell?_setCell_same, go_sem, d0]
      · simp [World.cell?_setCell_other, World.cell?_setCell_same, go_sem, d1]
  · clear J0 eW
    rintro a' W' ⟨S1, m1, u5, u6, u7, u8, u9, u10, u11, u12, u13, rfl, J0, hI⟩
    have HM := Lib.hid J0.read
    obtain ⟨c0, c1, f0, f1⟩ := cells2_of J0.box
    have J0 := Lib.hid J0
    have HI1 := Lib.hid hI
    clear hI
    go_wp2_with fail
    refine (HST.out S1 m1 W' HI1.out).mono ?_
    rintro e w2 ⟨⟨S', m', b, rfl, hb, hr⟩, b2⟩
    have J2 := Lib.hid (J0.out.step b2)
    obtain ⟨c0, c1, f0, f1⟩ := cells2_of J2.out.box
    have HB := Lib.hid hb
    have HR := Lib.hid hr
    clear hb hr b2 J0
    cases b with
    | true =>
      go_wp2
      go_step3
      exact ⟨rfl, ⟨_, _, _, _, _, _, _, _, _, _, _, rfl, J2.out.put _ _, (HB.out (by simp)).1⟩, by rw [HM.out.1, HM.out.2, (J2.out.put _ _).read.1, (J2.out.put _ _).read.2]; exact (HB.out (by simp)).2⟩
    | false =>
      obtain ⟨d0, d1, g0, g1⟩ := cells2_of J2.out.res
      go_wp2
      simp only [Exit.jump]
      refine bodyPost_ret (v := .agg #[.string S', .int .i64 m']) (results_two rfl _ _ (w.heap.size + 1) _ _ _ rfl ?_ ?_ Try.underlying74 (by kernel_rfl)) rfl ⟨⟨_, _, rfl, HR.out (by simp)⟩, ((J2.out.put S' m').bel.setCell (p := ⟨w.heap.size + 1, 0, none⟩) (by show w.heap.size ≤ w.heap.size + 1; omega) _).setCell (p := ⟨w.heap.size + 1, 1, none⟩) (by show w.heap.size ≤ w.heap.size + 1; omega) _⟩
      · simp [World.cell?_setCell_other, World.cell?_setCell_same, go_sem, d0]
      · simp [World.cell?_setCell_other, World.cell?_setCell_same, go_sem, d1]

set_option maxHeartbeats 8000000 in
set_option maxRecDepth 100000 in
theorem leadRead_any (I : ByteArray → Int → Prop) (M : ByteArray → Int → Nat) (R : ByteArray → Int → Prop) (S : ByteArray) (n : Int) (w : World) (h : I S n)
    (ST : ∀ (S : ByteArray) (m : Int) (W : World), I S m → Calls Try.prog 88 #[.agg #[.string S, .int .i64 m]] W fun e w' => (∃ (S' : ByteArray) (m' : Int) (b : Bool), e = .returned (.tuple #[.agg #[.string S', .int .i64 m'], .bool b]) ∧ (b = true → I S' m' ∧ M S' m' < M S m) ∧ (b = false → R S' m')) ∧ Below W.heap.size W w') :
    Calls Try.prog 84 #[.agg #[.string S, .int .i64 n], .func (.func 88) #[] #[]] w fun e w' => (∃ (S' : ByteArray) (m' : Int), e = .returned (.agg #[.string S', .int .i64 m']) ∧ R S' m') ∧ Below w.heap.size w w' := by
  have HST := Lib.hid ST
  have HI := Lib.hid h
  clear ST h
  obtain ⟨W, eW⟩ : ∃ W, (w.alloc (.cells #[.string S, .int .i64 n] 74)).alloc (.cells #[.string ⟨#[]⟩, .int .i64 0] 74) = W := ⟨_, rfl⟩
  have J0 : Hid (LdJ w W S n) := Lib.hid (by rw [← eW]; exact LdJ.start w S n)
  go_enter Try.func84, Try.ntmps84
  go_wp2
  refine wp_scope_jumps 0 (fun a' W' => ∃ (S' : ByteArray) (m' : Int) (u5 u6 u7 u8 u9 u10 u11 u12 u13 : Value), a' = { tmps := #[.agg #[.string S, .int .i64 n], .func (.func 88) #[] #[], .pointer (some ⟨w.heap.size, 0, none⟩), undef, .pointer (some ⟨w.heap.size + 1, 0, none⟩), u5, u6, u7, u8, u9, u10, u11, u12, u13], defers := [] } ∧ LdJ w W' S' m' ∧ I S' m') (fun _ W' => M (cStr (W'.cell? ⟨w.heap.size, 0, none⟩)) (cInt (W'.cell? ⟨w.heap.size, 1, none⟩))) rfl ?_ ?_
  · obtain ⟨c0, c1, f0, f1⟩ := cells2_of J0.out.box
    clear eW
    go_wp2
    go_step3
    go_wp2_with fail
    refine (HST.out S n W HI.out).mono ?_
    rintro e w2 ⟨⟨S', m', b, rfl, hb, hr⟩, b2⟩
    have J2 := Lib.hid (J0.out.step b2)
    obtain ⟨c0, c1, f0, f1⟩ := cells2_of J2.out.box
    have HB := Lib.hid hb
    have HR := Lib.hid hr
    clear hb hr b2 J0
    cases b with
    | true =>
      go_wp2
      go_step3
      exact ⟨rfl, _, _, _, _, _, _, _, _, _, _, _, rfl, J2.out.put _ _, (HB.out (by simp)).1⟩
    | false =>
      obtain ⟨d0, d1, g0, g1⟩ := cells2_of J2.out.res
      go_wp2
      simp only [Exit.jump]
      refine bodyPost_ret (v := .agg #[.string S', .int .i64 m']) (results_two rfl _ _ (w.heap.size + 1) _ _ _ rfl ?_ ?_ Try.underlying74 (by kernel_rfl)) rfl ⟨⟨_, _, rfl, HR.out (by simp)⟩, ((J2.out.put S' m').bel.setCell (p := ⟨w.heap.size + 1, 0, none⟩) (by show w.heap.size ≤ w.heap.size + 1; omega) _).setCell (p := ⟨w.heap.size + 1, 1, none⟩) (by show w.heap.size ≤ w.heap.size + 1; omega) _⟩
      · simp [World.cell?_setCell_other, World.cell?_setCell_same, go_sem, d0]
      · simp [World.cell?_setCell_other, World.cell?_setCell_same, go_sem, d1]
  · clear J0 eW
    rintro a' W' ⟨S1, m1, u5, u6, u7, u8, u9, u10, u11, u12, u13, rfl, J0, hI⟩
    have HM := Lib.hid J0.read
    obtain ⟨c0, c1, f0, f1⟩ := cells2_of J0.box
    have J0 := Lib.hid J0
    have HI1 := Lib.hid hI
    clear hI
    go_wp2_with fail
    refine (HST.out S1 m1 W' HI1.out).mono ?_
    rintro e w2 ⟨⟨S', m', b, rfl, hb, hr⟩, b2⟩
    have J2 := Lib.hid (J0.out.step b2)
    obtain ⟨c0, c1, f0, f1⟩ := cells2_of J2.out.box
    have HB := Lib.hid hb
    have HR := Lib.hid hr
    clear hb hr b2 J0
    cases b with
    | true =>
      go_wp2
      go_step3
      exact ⟨rfl, ⟨_, _, _, _, _, _, _, _, _, _, _, rfl, J2.out.put _ _, (HB.out (by simp)).1⟩, by rw [HM.out.1, HM.out.2, (J2.out.put _ _).read.1, (J2.out.put _ _).read.2]; exact (HB.out (by simp)).2⟩
    | false =>
      obtain ⟨d0, d1, g0, g1⟩ := cells2_of J2.out.res
      go_wp2
      simp only [Exit.jump]
      refine bodyPost_ret (v := .agg #[.string S', .int .i64 m']) (results_two rfl _ _ (w.heap.size + 1) _ _ _ rfl ?_ ?_ Try.underlying74 (by kernel_rfl)) rfl ⟨⟨_, _, rfl, HR.out (by simp)⟩, ((J2.out.put S' m').bel.setCell (p := ⟨w.heap.size + 1, 0, none⟩) (by show w.heap.size ≤ w.heap.size + 1; omega) _).setCell (p := ⟨w.heap.size + 1, 1, none⟩) (by show w.heap.size ≤ w.heap.size + 1; omega) _⟩
      · simp [World.cell?_setCell_other, World.cell?_setCell_same, go_sem, d0]
      · simp [World.cell?_setCell_other, World.cell?_setCell_same, go_sem, d1]

end Go.Proofs.Ytcgifmoddojnmaa
