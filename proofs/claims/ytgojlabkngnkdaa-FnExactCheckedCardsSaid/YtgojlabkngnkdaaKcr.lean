/-
  Rows of the call's own beside a slice of numbers that grows too; rows that are written over. Condition: at most 2^30 rows.
-/
import Derived.Test.YtgojlabkngnkdaaKcq
import Derived.Test.YtgojlabkngnkdaaKgq
import Derived.Test.YtgojlabkngnkdaaKgs
import Derived.Test.YtgojlabkngnkdaaQj
import Derived.Deep.AppendLies
import Derived.Deep.RegionLaw
namespace Go.Proofs.Ytgojlabkngnkdaa
open Go.RowKit

set_option maxHeartbeats 1000000 in
set_option maxRecDepth 20000 in
theorem l1Has_any (v : Value) (ys : List Int) (x : Int) (w : World) (h : Sv w v ys) (hl : ys.length ≤ 1099511627776) :
    Calls Try.prog 40 #[v, .int .i64 x] w fun e w' => e = .returned (.bool (decide (x ∈ ys))) ∧ w = w' := by
  obtain ⟨p, cap, rfl, hx⟩ := h
  go_enter Try.func40, Try.ntmps40
  go_wp2
  go_loop [9] (fun i => ∃ k : Nat, k ≤ ys.length ∧ i = .int .i64 k ∧ Hid (x ∉ ys.take k)) (fun i => ys.length - (intOf i).toNat)
  case atStart => exact ⟨0, Nat.zero_le _, rfl, Lib.hid (by simp)⟩
  case round =>
    obtain ⟨k, hk, rfl, HN⟩ := hrel
    by_cases hlt : k < ys.length
    · obtain ⟨b, off, rfl, hbl, hc⟩ := hx (by omega)
      have hcell := hc k hlt
      have T : Hid (ys.take (k + 1) = ys.take k ++ [ys.getD k 0]) := Lib.hid (by rw [List.take_add_one, List.getElem?_eq_getElem hlt, List.getD_eq_getElem?_getD, List.getElem?_eq_getElem hlt]; rfl)
      have M : Hid (ys.getD k 0 ∈ ys) := Lib.hid (by rw [List.getD_eq_getElem?_getD, List.getElem?_eq_getElem hlt]; exact List.getElem_mem hlt)
      obtain ⟨y, ey⟩ : ∃ y, ys.getD k 0 = y := ⟨_, rfl⟩
      rw [ey] at hcell T M
      clear hc hx ey
      by_cases hxy : y = x
      · subst hxy
        go_wp2
        go_ret
        exact ⟨ret_bool (by simpa using M.out), rfl⟩
      · have d : (y == x) = false := by simpa using hxy
        have HX := Lib.hid hxy
        clear hxy
        go_wp2
        go_round
        case rel => exact ⟨k + 1, by omega, by go_num, Lib.hid (by rw [T.out, List.mem_append]; rintro (h | h); exact HN.out h; exact HX.out (List.mem_singleton.1 h).symm)⟩
        case measure => simp [intOf]; omega
    · clear hx
      go_wp2
      go_ret
      have hke : k = ys.length := by omega
      have e := HN.out
      rw [hke, List.take_length] at e
      exact ⟨ret_bool (by simpa using e), rfl⟩
theorem Owa.base {w : World} {B D : Nat} {v : Value} {pl : List (List Int)} (h : Owa w B D v pl) (h0 : 0 < pl.length) : ∃ g cap cur, v = .slice (some ⟨g, 0, none⟩) pl.length cap ∧ B ≤ g ∧ w.heap[g]? = some (.cells cur 22 (0, 0)) ∧ pl.length ≤ cap ∧ cur.size = cap := by
  obtain ⟨vals, h⟩ := h
  rcases id h.out.2 with ⟨e, hn⟩ | ⟨g, cap, cur, e, hg, hh, h1, _, h3, _⟩
  · omega
  · exact ⟨g, cap, cur, e, hg, hh, h1, by omega⟩
theorem wpList_append_rowV {w : World} {ops : Array Oper} {rest : List Oper} {o : Oper} {a : Act} {Q : Exit → Act → World → Prop} (hgd : o.guard = none) (s x : Operand)
    (ho : o.op = .call { callee := .builtin .append, args := #[s, x], argTypes := #[34, 34] })
    (B D : Nat) (v : Value) (vals : List Value) (pl : List (List Int)) (hs : a.eval s = v) (hr : RowsAt w B D v vals pl) (g : Nat) (u : Value) (m : List Int) (hx : a.eval x = .slice (some ⟨g, 0, none⟩) 1 1) (hgc : w.cell? ⟨g, 0, none⟩ = some u)
    (hu : Ow w B u m) (hD : ∀ k, u.ownBlock = some k → D ≤ k) (hlen : pl.length + 1 ≤ 1073741824) (hB : B ≤ w.heap.size)
    (h : ∀ v' w', RowsAt w' B w'.heap.size v' (vals ++ [u]) (pl ++ [m]) → Below B w w' → w.grownBy w' v.ownBlock → wpList Try.prog ops Q rest (a.put o.dst v') w') : wpList Try.prog ops Q (o :: rest) a w := by
  have hi : ∃ i, Try.prog.info? 22 = some i ∧ i.zero = some (.slice none 0 0) ∧ i.size = 1 ∧ i.bytes = 24 := by
    have := Try.infoL
    cases hq : Try.prog.info? 22 with
    | none => rw [hq] at this; cases this
    | some i => rw [hq] at this; simp at this; exact ⟨i, rfl, this.1, this.2.1, this.2.2⟩
  obtain ⟨i0, hi, hz0, hz1, hz2⟩ := hi
  have hl : vals.length = pl.length := by have := hr.out.1; omega
  have hn : ∀ (j : Nat) y, ([u] : List Value)[j]? = some y → w.cell? ((⟨g, 0, none⟩ : Addr).add j) = some y := by
    intro j y hy
    cases j with
    | zero =>
      have e : u = y := by simpa using hy
      rw [← e]; simpa [Addr.add] using hgc
    | succ j => simp at hy
  have ho1 : ∀ y ∈ ([u] : List Value), y.oneCell' = true := by intro y hy; rw [List.mem_singleton.1 hy]; exact hu.one
  obtain ⟨v', w', r, k2, k3, _⟩ := run_append_own (P := Try.prog) w B 34 o.type 22 i0 (.slice none 0 0) 1 24 Try.underlying34 hi hz0 hz1 hz2 rfl (by decide) v pl.length vals hr.out ⟨g, 0, none⟩ 1 1 [u] (by simp) hn ho1 (by unfold maxLen; omega) (by omega) hB
  have hbel : Below B w w' := (Below.refl B w).grown k3 hB fun k hk => (World.ownsRow.lt hr.out k hk).1
  refine wpList_plain hgd fun K hK => ?_
  unfold Oper.wp execOp
  simp only [ho, resolve, invoke, builtin, Sem.run_bind, Sem.run_pure, Result.andThen_ok, List.map_toArray, List.map_cons, List.map_nil, hs, hx, r]
  refine hK _ _ (h v' w' ⟨?_, fun j hj => ?_, fun i j hij hj => ?_, fun j k hj hk => ?_⟩ hbel k3)
  · rw [List.length_append]; exact k2
  · have kp : ∀ {y : Value} {xs : List Int}, Ow w B y xs → Ow w' B y xs := fun q => q.kept k3 (own_ne hr.out q (by decide))
    rw [List.length_append, List.length_singleton] at hj
    by_cases e : j < pl.length
    · rw [getD_app_lt _ _ _ (by omega)]
      have := kp (hr.row j e)
      unfold rowL at this ⊢
      rw [getD_app_lt _ _ _ e]; exact this
    · obtain rfl : j = pl.length := by omega
      rw [getD_app_ge _ _ _ (by omega), hl, Nat.sub_self]
      unfold rowL
      rw [getD_app_ge _ _ _ (Nat.le_refl _), Nat.sub_self]
      exact kp hu
  · rw [List.length_append, List.length_singleton] at hj
    rw [getD_app_lt _ _ _ (by omega)]
    by_cases e : j < pl.length
    · rw [getD_app_lt _ _ _ (by omega)]; exact hr.sep i j hij e
    · obtain rfl : j = pl.length := by omega
      rw [getD_app_ge vals _ _ (by omega), hl, Nat.sub_self]
      cases eb : (vals.getD i undef).ownBlock with
      | none => exact .inl rfl
      | some k =>
        have h1 := hr.low i k hij eb
        exact .inr fun e2 => by have := hD k e2.symm; omega
  · rw [List.length_append, List.length_singleton] at hj
    by_cases e : j < pl.length
    · rw [getD_app_lt _ _ _ (by omega)] at hk
      have := (World.ownsRow.lt (hr.row j e) k hk).2
      have := k3.size
      omega
    · obtain rfl : j = pl.length := by omega
      rw [getD_app_ge _ _ _ (by omega), hl, Nat.sub_self] at hk
      have := (World.ownsRow.lt hu k hk).2
      have := k3.size
      omega
theorem wp_append_rowV {w : World} {o : Oper} {a : Act} {K : Act → World → Prop} {Q : Exit → Act → World → Prop} (s x : Operand)
    (ho : o.op = .call { callee := .builtin .append, args := #[s, x], argTypes := #[34, 34] })
    (B D : Nat) (v : Value) (vals : List Value) (pl : List (List Int)) (hs : a.eval s = v) (hr : RowsAt w B D v vals pl) (g : Nat) (u : Value) (m : List Int) (hx : a.eval x = .slice (some ⟨g, 0, none⟩) 1 1) (hgc : w.cell? ⟨g, 0, none⟩ = some u)
    (hu : Ow w B u m) (hD : ∀ k, u.ownBlock = some k → D ≤ k) (hlen : pl.length + 1 ≤ 1073741824) (hB : B ≤ w.heap.size)
    (h : ∀ v' w', RowsAt w' B w'.heap.size v' (vals ++ [u]) (pl ++ [m]) → Below B w w' → w.grownBy w' v.ownBlock → K (a.put o.dst v') w') : o.wp Try.prog a w K Q := by
  have hi : ∃ i, Try.prog.info? 22 = some i ∧ i.zero = some (.slice none 0 0) ∧ i.size = 1 ∧ i.bytes = 24 := by
    have := Try.infoL
    cases hq : Try.prog.info? 22 with
    | none => rw [hq] at this; cases this
    | some i => rw [hq] at this; simp at this; exact ⟨i, rfl, this.1, this.2.1, this.2.2⟩
  obtain ⟨i0, hi, hz0, hz1, hz2⟩ := hi
  have hl : vals.length = pl.length := by have := hr.out.1; omega
  have hn : ∀ (j : Nat) y, ([u] : List Value)[j]? = some y → w.cell? ((⟨g, 0, none⟩ : Addr).add j) = some y := by
    intro j y hy
    cases j with
    | zero =>
      have e : u = y := by simpa using hy
      rw [← e]; simpa [Addr.add] using hgc
    | succ j => simp at hy
  have ho1 : ∀ y ∈ ([u] : List Value), y.oneCell' = true := by intro y hy; rw [List.mem_singleton.1 hy]; exact hu.one
  obtain ⟨v', w', r, k2, k3, _⟩ := run_append_own (P := Try.prog) w B 34 o.type 22 i0 (.slice none 0 0) 1 24 Try.underlying34 hi hz0 hz1 hz2 rfl (by decide) v pl.length vals hr.out ⟨g, 0, none⟩ 1 1 [u] (by simp) hn ho1 (by unfold maxLen; omega) (by omega) hB
  have hbel : Below B w w' := (Below.refl B w).grown k3 hB fun k hk => (World.ownsRow.lt hr.out k hk).1
  unfold Oper.wp execOp
  simp only [ho, resolve, invoke, builtin, Sem.run_bind, Sem.run_pure, Result.andThen_ok, List.map_toArray, List.map_cons, List.map_nil, hs, hx, r]
  refine (h v' w' ⟨?_, fun j hj => ?_, fun i j hij hj => ?_, fun j k hj hk => ?_⟩ hbel k3)
  · rw [List.length_append]; exact k2
  · have kp : ∀ {y : Value} {xs : List Int}, Ow w B y xs → Ow w' B y xs := fun q => q.kept k3 (own_ne hr.out q (by decide))
    rw [List.length_append, List.length_singleton] at hj
    by_cases e : j < pl.length
    · rw [getD_app_lt _ _ _ (by omega)]
      have := kp (hr.row j e)
      unfold rowL at this ⊢
      rw [getD_app_lt _ _ _ e]; exact this
    · obtain rfl : j = pl.length := by omega
      rw [getD_app_ge _ _ _ (by omega), hl, Nat.sub_self]
      unfold rowL
      rw [getD_app_ge _ _ _ (Nat.le_refl _), Nat.sub_self]
      exact kp hu
  · rw [List.length_append, List.length_singleton] at hj
    rw [getD_app_lt _ _ _ (by omega)]
    by_cases e : j < pl.length
    · rw [getD_app_lt _ _ _ (by omega)]; exact hr.sep i j hij e
    · obtain rfl : j = pl.length := by omega
      rw [getD_app_ge vals _ _ (by omega), hl, Nat.sub_self]
      cases eb : (vals.getD i undef).ownBlock with
      | none => exact .inl rfl
      | some k =>
        have h1 := hr.low i k hij eb
        exact .inr fun e2 => by have := hD k e2.symm; omega
  · rw [List.length_append, List.length_singleton] at hj
    by_cases e : j < pl.length
    · rw [getD_app_lt _ _ _ (by omega)] at hk
      have := (World.ownsRow.lt (hr.row j e) k hk).2
      have := k3.size
      omega
    · obtain rfl : j = pl.length := by omega
      rw [getD_app_ge _ _ _ (by omega), hl, Nat.sub_self] at hk
      have := (World.ownsRow.lt hu k hk).2
      have := k3.size
      omega
theorem step_append_rowV {w : World} {ops : Array Oper} {o : Oper} {a : Act} {K : Act → World → Prop} {Q : Exit → Act → World → Prop} {E : Prop} (hgd : o.guard = none) (s x : Operand)
    (ho : o.op = .call { callee := .builtin .append, args := #[s, x], argTypes := #[34, 34] })
    (B D : Nat) (v : Value) (vals : List Value) (pl : List (List Int)) (hs : a.eval s = v) (hr : RowsAt w B D v vals pl) (g : Nat) (u : Value) (m : List Int) (hx : a.eval x = .slice (some ⟨g, 0, none⟩) 1 1) (hgc : w.cell? ⟨g, 0, none⟩ = some u)
    (hu : Ow w B u m) (hD : ∀ k, u.ownBlock = some k → D ≤ k) (hlen : pl.length + 1 ≤ 1073741824) (hB : B ≤ w.heap.size)
    (h : ∀ v' w', RowsAt w' B w'.heap.size v' (vals ++ [u]) (pl ++ [m]) → Below B w w' → w.grownBy w' v.ownBlock → K (a.put o.dst v') w') :
    if Region.wanted o (yielded ops a.tmps) = true then Oper.wp Try.prog o a w K Q else E := by
  have hw : Region.wanted o (yielded ops a.tmps) = true := by simp [Region.wanted, hgd]
  rw [if_pos hw]
  exact wp_append_rowV s x ho B D v vals pl hs hr g u m hx hgc hu hD hlen hB h

theorem RowsAt.up {w : World} {B D E : Nat} {v : Value} {vals : List Value} {pl : List (List Int)} (h : RowsAt w B D v vals pl) (hE : D ≤ E) : RowsAt w B E v vals pl :=
  ⟨h.out, h.row, h.sep, fun j k hj hk => Nat.lt_of_lt_of_le (h.low j k hj hk) hE⟩
/-- No row lies where the numbers lie. -/
def NA (vals : List Value) (d : Value) : Prop := ∀ u ∈ vals, ∀ g, u.ownBlock = some g → d.ownBlock ≠ some g
structure Rd (w : World) (B : Nat) (v : Value) (vals : List Value) (pl : List (List Int)) (d : Value) (ds : List Int) : Prop where
  rows : RowsAt w B w.heap.size v vals pl
  dig : Ow w B d ds
  na : NA vals d
theorem Rd.nil (w : World) (B : Nat) : Rd w B (.slice none 0 0) [] [] (.slice none 0 0) [] :=
  ⟨⟨World.ownsRow_nil _ _ _ _, fun j h => by simp at h, fun i j _ h => by simp at h, fun j k h => by simp at h⟩, World.ownsRow_nil _ _ _ _, fun u h => by simp at h⟩
theorem Rd.len {w : World} {B : Nat} {v d : Value} {vals : List Value} {pl : List (List Int)} {ds : List Int} (h : Rd w B v vals pl d ds) : vals.length = pl.length := by have := h.rows.out.1; omega
theorem Rd.below {w w' : World} {B C : Nat} {v d : Value} {vals : List Value} {pl : List (List Int)} {ds : List Int} (h : Rd w B v vals pl d ds) (hb : Below C w w') (hC : w.heap.size ≤ C) : Rd w' B v vals pl d ds :=
  ⟨(h.rows.below hb hC).up hb.size, h.dig.below hb hC, h.na⟩
theorem Rd.abv {w w' : World} {B : Nat} {v d : Value} {vals : List Value} {pl : List (List Int)} {ds : List Int} (h : Rd w B v vals pl d ds) (k : Abv B w w') (hz : w.heap.size ≤ w'.heap.size) : Rd w' B v vals pl d ds :=
  ⟨⟨rowsZ_abv h.rows.out k, fun j hj => (h.rows.row j hj).abv k, h.rows.sep, fun j q hj hk => Nat.lt_of_lt_of_le (h.rows.low j q hj hk) hz⟩, h.dig.abv k, h.na⟩
theorem Rd.form {w : World} {B : Nat} {v d : Value} {vals : List Value} {pl : List (List Int)} {ds : List Int} (h : Rd w B v vals pl d ds) : (∃ p c, v = .slice p pl.length c) ∧ ∃ p c, d = .slice p ds.length c := by
  refine ⟨(show Owa w B w.heap.size v pl from ⟨vals, h.rows⟩).form, ?_⟩
  obtain ⟨p, c, e, _⟩ := h.dig.sv
  exact ⟨p, c, e⟩
theorem Rd.row {w w' : World} {B : Nat} {v v' d u : Value} {vals : List Value} {pl : List (List Int)} {ds m : List Int} (h : Rd w B v vals pl d ds) (h' : RowsAt w' B w'.heap.size v' (vals ++ [u]) (pl ++ [m])) (g3 : w.grownBy w' v.ownBlock)
    (hu : ∀ g, u.ownBlock = some g → d.ownBlock ≠ some g) : Rd w' B v' (vals ++ [u]) (pl ++ [m]) d ds :=
  ⟨h', h.dig.kept g3 (own_ne h.rows.out h.dig (by decide)), fun x hx g hg => by
    rcases List.mem_append.1 hx with hx | hx
    · exact h.na x hx g hg
    · rw [List.mem_singleton] at hx; subst hx; exact hu g hg⟩
theorem Ow.out_ltD {w : World} {B : Nat} {v : Value} {ys : List Int} (h : Ow w B v ys) : ∀ k, v.ownBlock = some k → k < w.heap.size := fun k hk => (World.ownsRow.lt h k hk).2
/-- One number more. -/
theorem wpList_append_dig {w : World} {ops : Array Oper} {rest : List Oper} {o : Oper} {a : Act} {Q : Exit → Act → World → Prop} (hgd : o.guard = none) (s x : Operand)
    (ho : o.op = .call { callee := .builtin .append, args := #[s, x], argTypes := #[22, 22] })
    (B : Nat) (v : Value) (vals : List Value) (pl : List (List Int)) (d : Value) (ds : List Int) (hs : a.eval s = d) (h : Rd w B v vals pl d ds) (b : Nat) (n : Int) (hx : a.eval x = .slice (some ⟨b, 0, none⟩) 1 1) (hc : w.cell? ⟨b, 0, none⟩ = some (.int .i64 n)) (hlen : ds.length ≤ 1099511627776) (hB : B ≤ w.heap.size)
    (k : ∀ d' w', Rd w' B v vals pl d' (ds ++ [n]) → Below B w w' → wpList Try.prog ops Q rest (a.put o.dst d') w') : wpList Try.prog ops Q (o :: rest) a w := by
  obtain ⟨i0, hi, hz0, hz1, hz2⟩ := info_parts Try.infoI
  have hc' : ∀ j, j < [n].length → w.cell? ⟨b, 0 + j, none⟩ = some (.int .i64 ([n].getD j 0)) := fun j hj => by
    obtain rfl : j = 0 := by simpa using hj
    exact hc
  refine wpList_plain hgd fun K hK => ?_
  refine wp_append_lies w s x 22 ho B 3 i0 (.int .i64 0) 1 8 Try.underlying22 hi hz0 hz1 hz2 rfl (by decide) d ds.length _ hs h.dig ⟨b, 0, none⟩ 1 1 ([n].map (Value.int .i64)) hx (by simp) (src_cells hc') ?_ (by omega) (by unfold maxLen; omega) (by omega) hB w.heap.size rfl ?_
  · intro u hu; simp at hu; subst hu; rfl
  · intro g cap w' h1 h2 h3 h4
    have hbel : Below B w w' := (Below.refl B w).grown h2 hB fun k hk => (World.ownsRow.lt h.dig k hk).1
    have hnb : ∀ j, j < pl.length → ∀ q, (vals.getD j undef).ownBlock = some q → d.ownBlock ≠ some q := fun j hj q hq => h.na _ (by
      have : j < vals.length := by rw [h.len]; exact hj
      rw [List.getD_eq_getElem?_getD, List.getElem?_eq_getElem this]
      exact List.getElem_mem this) q hq
    refine hK _ _ (k _ _ ⟨⟨?_, fun j hj => ?_, h.rows.sep, fun j q hj hq => Nat.lt_of_lt_of_le (h.rows.low j q hj hq) h2.size⟩, ?_, fun u hu q hq => ?_⟩ hbel)
    · refine row1_below' h.rows.out fun q hq => h2.block q (World.ownsRow.lt h.rows.out q hq).2 fun e => ?_
      rcases own_ne h.rows.out h.dig (by decide) with e1 | e1
      · rw [e1] at e; cases e
      · exact e1 (e.symm.trans hq.symm)
    · refine (h.rows.row j hj).kept h2 ?_
      cases e : (vals.getD j undef).ownBlock with
      | none => exact .inl rfl
      | some q => exact .inr fun e2 => hnb j hj q e e2.symm
    · have e : ds.map (Value.int .i64) ++ [n].map (Value.int .i64) = (ds ++ [n]).map (Value.int .i64) := by simp
      rw [e] at h1
      have e2 : (ds ++ [n]).length = ds.length + 1 := by simp
      unfold Ow
      rw [e2]
      exact h1
    · intro e
      have eg : g = q := by simpa [Value.ownBlock] using e
      subst eg
      rcases h3 with h3 | h3
      · exact h.na u hu _ hq h3
      · obtain ⟨j, hj, rfl⟩ := List.getElem_of_mem hu
        have hj2 : j < pl.length := by rw [← h.len]; exact hj
        have := h.rows.low j g hj2 (by rw [List.getD_eq_getElem?_getD, List.getElem?_eq_getElem hj]; exact hq)
        omega
/-- Rows of a table that may be written over: each reads as its list. -/
def Rs (w : World) (B g cap : Nat) (pl : List (List Int)) : Prop :=
  B ≤ g ∧ pl.length ≤ cap ∧ ∃ cur : Array Value, w.heap[g]? = some (.cells cur 22 (0, 0)) ∧ cur.size = cap ∧ ∀ j, j < pl.length → ∃ u, cur[j]? = some u ∧ Ow w B u (rowL pl j)
theorem Rd.rs {w : World} {B : Nat} {v d : Value} {vals : List Value} {pl : List (List Int)} {ds : List Int} (h : Rd w B v vals pl d ds) (h0 : 0 < pl.length) : ∃ g cap, v = .slice (some ⟨g, 0, none⟩) pl.length cap ∧ g < w.heap.size ∧ Rs w B g cap pl := by
  obtain ⟨g, cap, cur, e, hg, hh, h1, h2⟩ := Owa.base (show Owa w B w.heap.size v pl from ⟨vals, h.rows⟩) h0
  refine ⟨g, cap, e, (Array.getElem?_eq_some_iff.1 hh).1, hg, h1, cur, hh, h2, fun j hj => ⟨vals.getD j undef, ?_, h.rows.row j hj⟩⟩
  have := rowvals h.rows.out e hj
  rw [cell_of_row _ _ _ _ _ _ hh, Nat.zero_add] at this
  exact this
theorem Rs.below {w w' : World} {B C g cap : Nat} {pl : List (List Int)} (h : Rs w B g cap pl) (hb : Below C w w') (hC : w.heap.size ≤ C) : Rs w' B g cap pl := by
  obtain ⟨h1, h2, cur, h3, h4, h5⟩ := h
  exact ⟨h1, h2, cur, (hb.block g (Nat.lt_of_lt_of_le (Array.getElem?_eq_some_iff.1 h3).1 hC)).trans h3, h4, fun j hj => by obtain ⟨u, a, b⟩ := h5 j hj; exact ⟨u, a, b.below hb hC⟩⟩
theorem Rs.cell {w : World} {B g cap : Nat} {pl : List (List Int)} (h : Rs w B g cap pl) {j : Nat} (hj : j < pl.length) : ∃ u, w.cell? ⟨g, j, none⟩ = some u ∧ w.frozen? ⟨g, j, none⟩ = false ∧ Ow w B u (rowL pl j) := by
  obtain ⟨h1, h2, cur, h3, h4, h5⟩ := h
  obtain ⟨u, a, b⟩ := h5 j hj
  exact ⟨u, by rw [cell_of_row _ _ _ _ _ _ h3]; exact a, frozen_of_row _ _ _ _ _ h3, b⟩
theorem Rs.set {w : World} {B C g cap : Nat} {pl : List (List Int)} (h : Rs w B g cap pl) {k : Nat} (hk : k < pl.length) {x : Value} {L : List Int} (hx : Ow w C x L) (hC : B ≤ C) : Rs (w.setCell ⟨g, k, none⟩ x) B g cap (pl.set k L) := by
  obtain ⟨h1, h2, cur, h3, h4, h5⟩ := h
  refine ⟨h1, by rw [List.length_set]; exact h2, cur.setIfInBounds k x, heap_setCell_same w g k _ _ x h3, by simpa using h4, fun j hj => ?_⟩
  rw [List.length_set] at hj
  by_cases e : j = k
  · subst e
    refine ⟨x, by rw [Array.getElem?_setIfInBounds_self_of_lt (by omega)], ?_⟩
    rw [rowL_set hj, if_pos rfl]
    exact (hx.setOut h3 j x).mono hC
  · obtain ⟨u, a, b⟩ := h5 j hj
    refine ⟨u, ?_, ?_⟩
    · rw [Array.getElem?_setIfInBounds_ne (by omega)]; exact a
    · rw [rowL_set hk, if_neg e]; exact b.setOut h3 k x
theorem Rs.svv {w : World} {B g cap : Nat} {pl : List (List Int)} (h : Rs w B g cap pl) : Svv w (.slice (some ⟨g, 0, none⟩) pl.length cap) pl := by
  obtain ⟨h1, h2, cur, h3, h4, h5⟩ := h
  refine ⟨some ⟨g, 0, none⟩, cap, rfl, fun _ => ⟨g, 0, rfl, (Array.getElem?_eq_some_iff.1 h3).1, fun j hj => ?_⟩⟩
  obtain ⟨u, a, b⟩ := h5 j hj
  exact ⟨u, by rw [cell_of_row _ _ _ _ _ _ h3, Nat.zero_add]; exact a, b.sv⟩
theorem Rs.abv {w w' : World} {B g cap : Nat} {pl : List (List Int)} (h : Rs w B g cap pl) (k : Abv B w w') : Rs w' B g cap pl := by
  obtain ⟨h1, h2, cur, h3, h4, h5⟩ := h
  exact ⟨h1, h2, cur, (k g h1).trans h3, h4, fun j hj => by obtain ⟨u, a, b⟩ := h5 j hj; exact ⟨u, a, b.abv k⟩⟩
end Go.Proofs.Ytgojlabkngnkdaa
