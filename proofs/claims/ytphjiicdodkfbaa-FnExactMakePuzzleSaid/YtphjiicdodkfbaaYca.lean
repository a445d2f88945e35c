/-
  Slices of clues put together: appends, the library's Grow (of nil), Concat and Clone, by their contracts. Conditions: at most 100 slices of at most 1,024 clues.
-/
import Derived.Test.YtphjiicdodkfbaaYtc
import Derived.Lib.AppendZerosOnto
namespace Go.Proofs.Ytphjiicdodkfbaa
open Go.RowKit

def Cs (w : World) (u : Value) (xs : List Cl) : Prop :=
  (u = .slice none 0 0 ∧ xs = []) ∨ ∃ g o c, u = .slice (some ⟨g, o, none⟩) xs.length c ∧ g < w.heap.size ∧ ∀ j y, (flC xs)[j]? = some y → w.cell? ⟨g, o + j, none⟩ = some y
theorem Cs.below {w w' : World} {u : Value} {xs : List Cl} {B : Nat} (h : Cs w u xs) (hb : Below B w w') (hB : w.heap.size ≤ B) : Cs w' u xs := by
  rcases h with h | ⟨g, o, c, hu, hg, hc⟩
  · exact .inl h
  · exact .inr ⟨g, o, c, hu, Nat.lt_of_lt_of_le hg hb.size, fun j y hy => (hb.cell (p := ⟨g, o + j, none⟩) (by show g < B; omega)).trans (hc j y hy)⟩
theorem zc3 : (Value.agg #[.int .i64 0, .int .i64 0, .int .i64 0]).cells.size = 3 := rfl
theorem wp_append_clue {w : World} {o : Oper} {a : Act} {K : Act → World → Prop} {Q : Exit → Act → World → Prop} (s x : Operand)
    (ho : o.op = .call { callee := .builtin .append, args := #[s, x], argTypes := #[37, 37] })
    (B : Nat) (v : Value) (ps : List Cl) (hs : a.eval s = v) (hr : Ck w B v ps) (u : Value) (qs : List Cl) (hx : a.eval x = u) (hu : Cs w u qs) (hlen : ps.length + qs.length ≤ 1073741824) (hB : B ≤ w.heap.size)
    (h : ∀ v' w', Ck w' B v' (ps ++ qs) → w.grownBy w' v.ownBlock → K (a.put o.dst v') w') : o.wp Try.prog a w K Q := by
  obtain ⟨i0, hi, hz0, hz1, hz2⟩ := clue_info
  rcases hu with ⟨rfl, rfl⟩ | ⟨g, off, c, rfl, hg, hc⟩
  · have hrun := run_append_owned_none (P := Try.prog) (w := w) B 37 o.type 29 i0 3 Try.underlying37 hi v ps.length _ hr
    unfold Oper.wp
    simp [execOp, ho, resolve, invoke, builtin, hs, hx, hrun, Result.andThen]
    exact h v w (by rw [List.append_nil]; exact hr) (grown_refl _ _)
  · obtain ⟨v', w', r, k2, k3, _⟩ := run_append_own (P := Try.prog) w B 37 o.type 29 i0 _ 3 24 Try.underlying37 hi hz0 hz1 hz2 zc3 (by decide) v ps.length _ hr ⟨g, off, none⟩ qs.length c (flC qs) (flC_len qs)
      (fun j y hy => by rw [addr_add]; exact hc j y hy)
      (flC_one qs) (by unfold maxLen; omega) (by omega) hB
    unfold Oper.wp execOp
    simp only [ho, resolve, invoke, builtin, Sem.run_bind, Sem.run_pure, Result.andThen_ok, List.map_toArray, List.map_cons, List.map_nil, hs, hx, r]
    exact h v' w' (by unfold Ck; rw [List.length_append, flC_app]; exact k2) k3
theorem wl_append_clue {w : World} {ops : Array Oper} {rest : List Oper} {o : Oper} {a : Act} {Q : Exit → Act → World → Prop} (hgd : o.guard = none) (s x : Operand)
    (ho : o.op = .call { callee := .builtin .append, args := #[s, x], argTypes := #[37, 37] })
    (B : Nat) (v : Value) (ps : List Cl) (hs : a.eval s = v) (hr : Ck w B v ps) (u : Value) (qs : List Cl) (hx : a.eval x = u) (hu : Cs w u qs) (hlen : ps.length + qs.length ≤ 1073741824) (hB : B ≤ w.heap.size)
    (h : ∀ v' w', Ck w' B v' (ps ++ qs) → w.grownBy w' v.ownBlock → wpList Try.prog ops Q rest (a.put o.dst v') w') : wpList Try.prog ops Q (o :: rest) a w :=
  wpList_plain hgd fun _ hK => wp_append_clue s x ho B v ps hs hr u qs hx hu hlen hB fun v' w' h1 h2 => hK _ _ (h v' w' h1 h2)
theorem step_append_clue {w : World} {ops : Array Oper} {o : Oper} {a : Act} {K : Act → World → Prop} {Q : Exit → Act → World → Prop} {E : Prop} (hgd : o.guard = none) (s x : Operand)
    (ho : o.op = .call { callee := .builtin .append, args := #[s, x], argTypes := #[37, 37] })
    (B : Nat) (v : Value) (ps : List Cl) (hs : a.eval s = v) (hr : Ck w B v ps) (u : Value) (qs : List Cl) (hx : a.eval x = u) (hu : Cs w u qs) (hlen : ps.length + qs.length ≤ 1073741824) (hB : B ≤ w.heap.size)
    (h : ∀ v' w', Ck w' B v' (ps ++ qs) → w.grownBy w' v.ownBlock → K (a.put o.dst v') w') :
    if Region.wanted o (yielded ops a.tmps) = true then Oper.wp Try.prog o a w K Q else E := by
  have hw : Region.wanted o (yielded ops a.tmps) = true := by simp [Region.wanted, hgd]
  rw [if_pos hw]
  exact wp_append_clue s x ho B v ps hs hr u qs hx hu hlen hB h
theorem CkGrown {w w' : World} {B : Nat} {v : Value} {ps : List Cl} (h : Ck w B v ps) (hB : B ≤ w.heap.size) (hg : w.grownBy w' v.ownBlock) : Below B w w' :=
  (Below.refl B w).grown hg hB fun k hk => (World.ownsRow.lt h k hk).1
set_option maxHeartbeats 4000000 in
set_option maxRecDepth 100000 in
/-- slices.Grow of nil: room for n more. -/
theorem growC_nil (n : Nat) (w : World) (hn : n ≤ 1048576) :
    Calls Try.prog 122 #[.slice none 0 0, .int .i64 n] w fun e w' => ∃ u, e = .returned u ∧ Ck w' w.heap.size u [] ∧ Below w.heap.size w w' := by
  by_cases h0 : n = 0
  · subst h0
    go_enter Try.func122, Try.ntmps122
    go_wp2
    go_ret
    exact ⟨_, rfl, Ck.nil _ _, Below.refl _ _⟩
  · obtain ⟨i0, hi, hz0, hz1, hz2⟩ := clue_info
    have hold : (Builtin.firstCells i0.size 0 (.slice none 0 0)).run Try.prog w.drew = .ok ([] : List Value).toArray w.drew := run_firstCells_none w.drew i0.size 0 0 0
    obtain ⟨Z, eZ⟩ : ∃ Z, (Value.agg #[.int .i64 0, .int .i64 0, .int .i64 0]).cells = Z := ⟨_, rfl⟩
    have hZs : Z.size = 3 := by rw [← eZ]; simp only [Value.cells]; exact zc3
    have hrz : ∀ ty, (Builtin.append_ #[37, 3] ty #[.slice none 0 0, .int .i64 (n : Int)]).run Try.prog w =
        .ok (.slice (some ⟨w.heap.size, 0, none⟩) n (grownCap w n 0 29)) (w.drew.alloc (.cells (([] : List Value).toArray ++ Builtin.zeroCells Z n ++ Builtin.zeroCells Z (grownCap w n 0 29 - n)) 29)) := fun ty => by
      have h := Lib.run_append_grow_zeros w 37 3 ty 29 i0 (.agg #[.int .i64 0, .int .i64 0, .int .i64 0]) .i64 .i64 Try.underlying37 Try.underlying3 hi hz0 none 0 0 [] hold n (by omega) (by omega) (by omega) (by omega)
        (by rw [hz2]; omega)
        (by rw [Nat.zero_add]; exact growslice_fits (by omega) (by rw [hz2]; omega))
      rw [Nat.zero_add, eZ] at h
      exact h
    have hGn : n ≤ grownCap w n 0 29 := grownCap_ge w _ _ _
    have hGm : grownCap w n 0 29 ≤ maxLen := grownCap_le_maxLen w n 0 29 (by unfold maxLen; omega)
    obtain ⟨G, hG⟩ : ∃ G, G = grownCap w n 0 29 := ⟨_, rfl⟩
    rw [← hG] at hrz hGn hGm
    obtain ⟨C, hC⟩ : ∃ C, C = ([] : List Value).toArray ++ Builtin.zeroCells Z n ++ Builtin.zeroCells Z (G - n) := ⟨_, rfl⟩
    have hCs : C.size = G * 3 := by rw [hC]; simp only [Array.size_append, List.size_toArray, size_zeroCells, hZs, List.length_nil]; omega
    rw [← hC] at hrz
    have ho : Ck (w.drew.alloc (.cells C 29)) w.heap.size (.slice (some ⟨w.heap.size, 0, none⟩) 0 G) [] :=
      World.ownsRow_made w.drew _ G (Nat.le_refl _) hGm hCs
    have hb : Below w.heap.size w (w.drew.alloc (.cells C 29)) := (Below.refl _ _).drew.alloc (Nat.le_refl _) _
    have hG63 : G ≤ 9223372036854775807 := by unfold maxLen at hGm; exact hGm
    clear hold hG hGm hC hCs eZ hZs
    go_enter Try.func122, Try.ntmps122
    go_wp2_with (at_builtin; refine Lib.wpList_append_run _ rfl _ _ _ _ rfl _ _ rfl rfl _ _ (hrz _) ?_)
    all_goals (go_ret; exact ⟨_, rfl, ho, hb⟩)

def catC (ps : List (Value × List Cl)) (k : Nat) : List Cl := (ps.take k).flatMap (·.2)
theorem catC_succ {ps : List (Value × List Cl)} {k : Nat} {q : Value × List Cl} (h : ps[k]? = some q) : catC ps k ++ q.2 = catC ps (k + 1) := by
  unfold catC
  rw [List.take_add_one, h]
  simp
theorem catC_len {ps : List (Value × List Cl)} (h : ∀ (j : Nat) q, ps[j]? = some q → q.2.length ≤ 1024) : ∀ k, (catC ps k).length ≤ 1024 * k := by
  intro k
  induction k with
  | zero => simp [catC]
  | succ k ih =>
    by_cases hk : k < ps.length
    · obtain ⟨q, hq⟩ : ∃ q, ps[k]? = some q := ⟨_, List.getElem?_eq_getElem hk⟩
      rw [← catC_succ hq, List.length_append]
      have := h k q hq
      omega
    · have e : catC ps (k + 1) = catC ps k := by unfold catC; rw [List.take_of_length_le (by omega), List.take_of_length_le (by omega)]
      rw [e]; omega

set_option maxHeartbeats 4000000 in
set_option maxRecDepth 100000 in
theorem concatC_any (b : Nat) (ps : List (Value × List Cl)) (w : World) (hb : b < w.heap.size) (hm : ps.length ≤ 100)
    (hc : ∀ (j : Nat) q, ps[j]? = some q → w.cell? ⟨b, j, none⟩ = some q.1) (hs : ∀ (j : Nat) q, ps[j]? = some q → Cs w q.1 q.2) (hq : ∀ (j : Nat) q, ps[j]? = some q → q.2.length ≤ 1024) :
    Calls Try.prog 110 #[.slice (some ⟨b, 0, none⟩) ps.length ps.length] w fun e w' => ∃ u, e = .returned u ∧ Ck w' w.heap.size u (catC ps ps.length) ∧ Below w.heap.size w w' := by
  have HC := Lib.hid hc
  have HQ := Lib.hid hq
  have HS := Lib.hid hs
  clear hc hq hs
  go_enter Try.func110, Try.ntmps110
  go_wp2
  go_loop [3, 11] (fun t i => ∃ k s : Nat, k ≤ ps.length ∧ i = .int .i64 k ∧ t = .int .i64 s ∧ s ≤ 1024 * k) (fun _ i => ps.length - (intOf i).toNat)
  case atStart => exact ⟨0, 0, Nat.zero_le _, rfl, rfl, by omega⟩
  case round =>
    obtain ⟨k, s, hk, rfl, rfl, hsb⟩ := hrel
    by_cases hlt : k < ps.length
    · obtain ⟨q, hq⟩ : ∃ q, ps[k]? = some q := ⟨_, List.getElem?_eq_getElem hlt⟩
      obtain ⟨u, xs⟩ := q
      have hcell := HC.out k _ hq
      have hln := HQ.out k _ hq
      have hsr := HS.out k _ hq
      have HQK := Lib.hid hq
      clear hq
      simp only at hcell hln hsr
      rcases hsr with ⟨rfl, rfl⟩ | ⟨b2, off2, c2, rfl, _, _⟩
      · go_wp2
        go_round
        case rel => exact ⟨k + 1, s, by omega, by go_num, by go_num, by omega⟩
        case measure => simp [intOf]; omega
      · go_wp2
        go_round
        case rel => exact ⟨k + 1, s + xs.length, by omega, by go_num, by go_num, by omega⟩
        case measure => simp [intOf]; omega
    · go_wp2_with (go_at_call 122; refine (growC_nil s _ (by omega)).mono ?_; rintro e w1 ⟨v1, rfl, ho, hbl⟩)
      go_loopw [6, 27] (fun v i wr => ∃ k : Nat, k ≤ ps.length ∧ i = .int .i64 k ∧ Ck wr w.heap.size v (catC ps k) ∧ Below w.heap.size w wr) (fun _ i _ => ps.length - (intOf i).toNat)
      case atStart => exact ⟨0, Nat.zero_le _, rfl, by simpa [catC] using ho, hbl⟩
      case round =>
        obtain ⟨k, hk, rfl, ho, hbl⟩ := hrel
        by_cases hlt : k < ps.length
        · obtain ⟨q, hq⟩ : ∃ q, ps[k]? = some q := ⟨_, List.getElem?_eq_getElem hlt⟩
          obtain ⟨u, xs⟩ := q
          have hcell := (hbl.cell (p := ⟨b, k, none⟩) hb).trans (HC.out k _ hq)
          have hln := HQ.out k _ hq
          have hsr := (HS.out k _ hq).below hbl (Nat.le_refl _)
          have hcl := catC_len HQ.out k
          have HQK := Lib.hid hq
          have hsz := hbl.size
          simp only at hcell hln hsr
          clear hq
          go_wp2_with (at_builtin; refine wl_append_clue rfl _ _ rfl w.heap.size _ _ rfl ho _ xs rfl hsr (by omega) hsz ?_; intro v' w2 h1 hg)
          have b2 := hbl.trans (CkGrown ho hsz hg)
          rw [catC_succ HQK.out] at h1
          clear ho hsr hg hcell
          go_roundw
          case rel => exact ⟨k + 1, by omega, by go_num, h1, b2⟩
          case measure => simp [intOf]; omega
        · have hkm : k = ps.length := by omega
          subst hkm
          go_wp2
          go_ret
          exact ⟨_, rfl, ho, hbl⟩


theorem concatC2_any (b : Nat) (v1 v2 : Value) (x1 x2 : List Cl) (w : World) (hh : w.heap[b]? = some (.cells #[v1, v2] 37)) (h1 : Cs w v1 x1) (h2 : Cs w v2 x2)
    (l1 : x1.length ≤ 1024) (l2 : x2.length ≤ 1024) :
    Calls Try.prog 110 #[.slice (some ⟨b, 0, none⟩) 2 2] w fun e w' => ∃ u, e = .returned u ∧ Ck w' w.heap.size u (x1 ++ x2) ∧ Below w.heap.size w w' := by
  refine (concatC_any b [(v1, x1), (v2, x2)] w (Array.getElem?_eq_some_iff.1 hh).1 (by simp) ?_ ?_ ?_).mono ?_
  · intro j q hq
    match j, hq with
    | 0, hq => simp at hq; subst hq; simp [World.cell?, hh]
    | 1, hq => simp at hq; subst hq; simp [World.cell?, hh]
  · intro j q hq
    match j, hq with
    | 0, hq => simp at hq; subst hq; exact h1
    | 1, hq => simp at hq; subst hq; exact h2
  · intro j q hq
    match j, hq with
    | 0, hq => simp at hq; subst hq; exact l1
    | 1, hq => simp at hq; subst hq; exact l2
  · rintro e w' ⟨u, he, ho, hb⟩
    exact ⟨u, he, by simpa [catC] using ho, hb⟩

theorem Ck.cs {w : World} {B : Nat} {v : Value} {cs : List Cl} (h : Ck w B v cs) : Cs w v cs := by
  obtain ⟨h1, h2⟩ := h
  rcases h2 with ⟨e, h0⟩ | ⟨g, cap, cur, hv, hg, hh, hl, hm, hs, ht⟩
  · exact .inl ⟨e, List.length_eq_zero_iff.1 h0⟩
  · refine .inr ⟨g, 0, cap, hv, (Array.getElem?_eq_some_iff.1 hh).1, fun j y hy => ?_⟩
    rw [Nat.zero_add, cell_of_row _ _ _ _ _ _ hh]
    rw [← ht, List.getElem?_take] at hy
    split at hy
    · simpa using hy
    · cases hy
theorem flC_of {cs : List Cl} {j : Nat} {y : Value} (h : (flC cs)[j]? = some y) : j < cs.length * 3 := by
  have := (List.getElem?_eq_some_iff.1 h).1
  rwa [flC_len] at this
/-- The cells of clues that lie somewhere. -/
theorem flC_cells {w : World} {g o : Nat} {cs : List Cl} (h : ∀ j, j < cs.length → w.cell? ⟨g, o + j * 3, none⟩ = some (.int .i64 (cA cs j).k) ∧ w.cell? ⟨g, o + j * 3 + 1, none⟩ = some (.int .i64 (cA cs j).a) ∧ w.cell? ⟨g, o + j * 3 + 2, none⟩ = some (.int .i64 (cA cs j).b)) :
    ∀ j y, (flC cs)[j]? = some y → w.cell? ⟨g, o + j, none⟩ = some y := fun j y hy => by
  have hj := flC_of hy
  have h1 := h (j / 3) (by omega)
  have h2 := flC_at cs (j / 3) (by omega)
  have h3 : j = j / 3 * 3 ∨ j = j / 3 * 3 + 1 ∨ j = j / 3 * 3 + 2 := by omega
  rcases h3 with e | e | e
  · rw [e, h2.1] at hy
    rw [e, h1.1]; exact hy
  · rw [e, h2.2.1] at hy
    rw [e, ← Nat.add_assoc, h1.2.1]; exact hy
  · rw [e, h2.2.2] at hy
    rw [e, ← Nat.add_assoc, h1.2.2]; exact hy
theorem cA_drop (cs : List Cl) (k j : Nat) : cA (cs.drop k) j = cA cs (k + j) := by
  unfold cA; rw [List.getD_eq_getElem?_getD, List.getD_eq_getElem?_getD, List.getElem?_drop]
/-- The first ones, and those behind one. -/
theorem Cv.cs_take {w : World} {b off cap k c2 : Nat} {cs : List Cl} (h : Cv w (.slice (some ⟨b, off, none⟩) cs.length cap) cs) (hk : k < cs.length) : Cs w (.slice (some ⟨b, off, none⟩) k c2) (cs.take k) := by
  obtain ⟨q, cap2, e, _, _, hx⟩ := h
  simp only [Value.slice.injEq, true_and] at e
  obtain ⟨rfl, rfl⟩ := e
  obtain ⟨b2, off2, hp, hb, hc3⟩ := hx (by omega)
  simp only [Option.some.injEq, Addr.mk.injEq, and_true] at hp
  obtain ⟨rfl, rfl⟩ := hp
  have hl : (cs.take k).length = k := by rw [List.length_take]; omega
  refine .inr ⟨b, off, c2, by rw [hl], hb, flC_cells fun j hj => ?_⟩
  rw [hl] at hj
  have : cA (cs.take k) j = cA cs j := by unfold cA; rw [List.getD_eq_getElem?_getD, List.getD_eq_getElem?_getD, List.getElem?_take, if_pos hj]
  rw [this]
  exact hc3 j (by omega)
theorem Cv.cs_drop {w : World} {b off cap k c2 l : Nat} {cs : List Cl} (h : Cv w (.slice (some ⟨b, off, none⟩) cs.length cap) cs) (hk : k < cs.length) (hl : l = cs.length - (k + 1)) : Cs w (.slice (if cap = k + 1 then some ⟨b, off, none⟩ else some ⟨b, off + (k + 1) * 3, none⟩) l c2) (cs.drop (k + 1)) := by
  obtain ⟨q, cap2, e, hcap, _, hx⟩ := h
  simp only [Value.slice.injEq, true_and] at e
  obtain ⟨rfl, rfl⟩ := e
  obtain ⟨b2, off2, hp, hb, hc3⟩ := hx (by omega)
  simp only [Option.some.injEq, Addr.mk.injEq, and_true] at hp
  obtain ⟨rfl, rfl⟩ := hp
  have hl2 : (cs.drop (k + 1)).length = l := by rw [List.length_drop, hl]
  by_cases hc : cap = k + 1
  · rw [if_pos hc]
    have e0 : cs.drop (k + 1) = [] := List.length_eq_zero_iff.1 (by rw [hl2]; omega)
    have e1 : l = 0 := by omega
    rw [e0, e1]
    exact .inr ⟨b, off, c2, rfl, hb, fun j y hy => by simp [flC] at hy⟩
  · rw [if_neg hc]
    refine .inr ⟨b, off + (k + 1) * 3, c2, by rw [hl2], hb, flC_cells fun j hj => ?_⟩
    rw [hl2] at hj
    rw [cA_drop]
    have := hc3 (k + 1 + j) (by omega)
    rwa [show off + (k + 1 + j) * 3 = off + (k + 1) * 3 + j * 3 by omega] at this
end Go.Proofs.Ytphjiicdodkfbaa
