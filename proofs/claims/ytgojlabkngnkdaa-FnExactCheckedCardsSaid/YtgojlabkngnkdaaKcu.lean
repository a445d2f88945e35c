/-
  Checked cards in the program, by contract. No condition.
-/
import Derived.Test.YtgojlabkngnkdaaKct
import Derived.Test.YtgojlabkngnkdaaQbn
import Derived.Test.YtgojlabkngnkdaaQa
import Derived.Deep.RegionHeld3
import Derived.Deep.CutRange
import Derived.Deep.MidRow
namespace Go.Proofs.Ytgojlabkngnkdaa
open Go.RowKit

theorem flatD_cell {ps : List (Int → Bool)} {k : Nat} {p : Int → Bool} (h : ps[k]? = some p) {j : Nat} (hj : j < 128) (b : Bool) : (flatD ps).set (k * 128 + j) (.bool b) = flatD (ps.set k fun x => if x = (j : Int) then b else p x) := by
  induction ps generalizing k with
  | nil => simp at h
  | cons q t ih =>
    have e0 : (bA q).toList.length = 128 := by simp [bA_size]
    cases k with
    | zero =>
      simp only [List.getElem?_cons_zero, Option.some.injEq] at h
      subst h
      simp only [flatD, List.set_cons_zero, Nat.zero_mul, Nat.zero_add]
      rw [List.set_append_left _ _ (by omega), ← bA_set q hj, Array.toList_setIfInBounds]
    | succ k =>
      simp only [List.getElem?_cons_succ] at h
      simp only [flatD, List.set_cons_succ]
      rw [List.set_append_right _ _ (by omega), e0, show (k + 1) * 128 + j - 128 = k * 128 + j by omega, ih h]
theorem Dk.cellL {w : World} {B g n cap m : Nat} {qs : List (Int → Bool)} {p : Int → Bool} (h : Dk w B (.slice (some ⟨g, 0, none⟩) n cap) qs) (hm : qs[m]? = some p) {j : Nat} (hj : j < 128) (hn : qs.length = n) :
    w.cell? ⟨g, m * 128 + j, none⟩ = some (.bool (p (j : Int))) ∧ w.frozen? ⟨g, m * 128 + j, none⟩ = false ∧ B ≤ g := by
  subst hn
  rcases id h.2 with ⟨e, _⟩ | ⟨q, cap', cur, e, hq, hh, _⟩
  · cases e
  · simp only [Value.slice.injEq, Option.some.injEq, Addr.mk.injEq, and_true, true_and] at e
    obtain ⟨rfl, rfl⟩ := e
    refine ⟨?_, frozen_of_row _ _ _ _ _ hh, hq⟩
    have R := World.ownsRow.cells h (g := g) rfl (m * 128 + j) _ (flatD_at hm hj)
    rwa [addr_add, Nat.zero_add] at R
theorem Dk.set {w : World} {B g n cap m : Nat} {qs : List (Int → Bool)} {p : Int → Bool} (h : Dk w B (.slice (some ⟨g, 0, none⟩) n cap) qs) (hm : qs[m]? = some p) {j : Nat} (hj : j < 128) (hn : qs.length = n) (b : Bool) :
    Dk (w.setCell ⟨g, m * 128 + j, none⟩ (.bool b)) B (.slice (some ⟨g, 0, none⟩) n cap) (qs.set m fun x => if x = (j : Int) then b else p x) := by
  subst hn
  have R := (World.ownsRow.stored h (m * 128 + j) (.bool b)).1
  unfold Dk
  rw [List.length_set, ← flatD_cell hm hj]
  exact R

theorem lenC_posU {k : Nat} (h : 1 ≤ k) : 0 < lenC k := by
  cases k with
  | zero => omega
  | succ k => simp only [lenC, plC]; split <;> omega
theorem flatD_same {p q : Int → Bool} (h : ∀ j : Nat, j < 128 → p j = q j) : ∀ (ps : List (Int → Bool)) (m : Nat), flatD (ps.set m p) = flatD (ps.set m q)
  | [], m => by simp
  | f :: t, 0 => by
    simp only [List.set_cons_zero, flatD]
    rw [show bA p = bA q from bA_ext h]
  | f :: t, m + 1 => by
    simp only [List.set_cons_succ, flatD]
    rw [flatD_same h t m]
theorem bA_list (q : Int → Bool) : (bA q).toList = (List.range 128).map fun (j : Nat) => Value.bool (q (j : Int)) := by simp [bA, arG]
theorem Dk.fill {B g n cap m : Nat} {f q : Int → Bool} {ps : List (Int → Bool)} (hm : m < ps.length) (hn : ps.length = n) : ∀ (r j : Nat), j + r = 128 → ∀ w : World, Dk w B (.slice (some ⟨g, 0, none⟩) n cap) (ps.set m (mixF f q j)) →
    Dk (w.setCells g (m * 128 + j) ((List.range' j r).map fun (j : Nat) => Value.bool (q (j : Int)))) B (.slice (some ⟨g, 0, none⟩) n cap) (ps.set m (mixF f q 128))
  | 0, j, e, w, h => by
    obtain rfl : j = 128 := by omega
    exact h
  | r + 1, j, e, w, h => by
    rw [List.range'_succ, List.map_cons, World.setCells]
    have h1 := h.set (m := m) (p := mixF f q j) (by rw [List.getElem?_set, if_pos rfl, if_pos hm]) (j := j) (by omega) (by rw [List.length_set]; exact hn) (q (j : Int))
    rw [List.set_set, mixF_succ] at h1
    exact Dk.fill hm hn r (j + 1) (by omega) _ h1
theorem Dk.setRow {w : World} {B g n cap m : Nat} {q : Int → Bool} {ps : List (Int → Bool)} (h : Dk w B (.slice (some ⟨g, 0, none⟩) n cap) ps) (hm : m < ps.length) (hn : ps.length = n) :
    Dk (w.setCells g (m * 128) (bA q).toList) B (.slice (some ⟨g, 0, none⟩) n cap) (ps.set m q) := by
  have h1 := Dk.fill (f := ps[m]) (q := q) hm hn 128 0 (by omega) w (by rw [mixF_zero, List.set_getElem_self]; exact h)
  rw [bA_list, List.range_eq_range']
  unfold Dk at h1 ⊢
  rw [flatD_same (p := mixF ps[m] q 128) (q := q) (fun j hj => by unfold mixF; rw [if_pos (by omega)])] at h1
  rw [List.length_set] at h1 ⊢
  exact h1
theorem setCells_far : ∀ (vs : List Value) (w : World) (b o k : Nat), k ≠ b → (w.setCells b o vs).heap[k]? = w.heap[k]?
  | [], _, _, _, _, _ => rfl
  | v :: r, w, b, o, k, h => by
    rw [World.setCells, setCells_far r _ b (o + 1) k h, heap_setCell_other _ _ _ _ (by show k ≠ b; exact h)]
theorem below_setCells {B : Nat} {w0 : World} : ∀ (vs : List Value) (w : World) (b o : Nat), Below B w0 w → B ≤ b → Below B w0 (w.setCells b o vs)
  | [], _, _, _, h, _ => h
  | v :: r, w, b, o, h, hb => by
    rw [World.setCells]
    exact below_setCells r _ b (o + 1) (h.setCell (p := ⟨b, o, none⟩) hb v) hb
theorem size_setCells : ∀ (vs : List Value) (w : World) (b o : Nat), (w.setCells b o vs).heap.size = w.heap.size
  | [], _, _, _ => rfl
  | v :: r, w, b, o => by rw [World.setCells, size_setCells r]; simp [World.setCell]
def lenAt : Option Value → Nat
  | some (.slice _ n _) => n
  | _ => 0
theorem Dk.ne_box {w : World} {B b : Nat} {v : Value} {ps : List (Int → Bool)} {c : Array Value} (h : Dk w B v ps) (hb : w.heap[b]? = some (.cells c 67 (0, 0))) : some b ≠ v.ownBlock := by
  rcases h.2 with ⟨rfl, _⟩ | ⟨gv, cap, cur, rfl, _, hh, _⟩
  · simp [Value.ownBlock]
  · intro e
    have e2 : b = gv := by simpa [Value.ownBlock] using e
    subst e2
    rw [hb] at hh
    simp at hh
theorem box1_set {w : World} {b : Nat} {v x : Value} {t : TypeId} (h : w.heap[b]? = some (.cells #[v] t (0, 0))) : (w.setCell ⟨b, 0, none⟩ x).heap[b]? = some (.cells #[x] t (0, 0)) := by
  simp [World.setCell, Array.getElem?_modify, h]
theorem box1_of {w : World} {b : Nat} {v : Value} {t : TypeId} (h : w.heap[b]? = some (.cells #[v] t (0, 0))) : w.cell? ⟨b, 0, none⟩ = some v ∧ w.frozen? ⟨b, 0, none⟩ = false :=
  ⟨by rw [cell_of_row _ _ _ _ _ _ h]; rfl, frozen_of_row _ _ _ _ _ h⟩
theorem Dk.setOutB {w : World} {B b : Nat} {v : Value} {ps : List (Int → Bool)} {c : Array Value} (h : Dk w B v ps) (hb : w.heap[b]? = some (.cells c 67 (0, 0))) (x : Value) : Dk (w.setCell ⟨b, 0, none⟩ x) B v ps := by
  have hn := h.ne_box hb
  obtain ⟨h1, h2⟩ := h
  refine ⟨h1, ?_⟩
  rcases h2 with h2 | ⟨g, cap, cur, hv, hg, hh, r⟩
  · exact .inl h2
  · refine .inr ⟨g, cap, cur, hv, hg, ?_, r⟩
    rw [heap_setCell_other _ _ _ _ (by show g ≠ b; intro e; subst e; exact hn (by rw [hv]; rfl))]; exact hh
/-- One card more, and where the cards lie then. -/
theorem wp_append_cardL {w : World} {o : Oper} {a : Act} {K : Act → World → Prop} {Q : Exit → Act → World → Prop} (s x : Operand)
    (ho : o.op = .call { callee := .builtin .append, args := #[s, x], argTypes := #[67, 67] })
    (B : Nat) (v : Value) (ps : List (Int → Bool)) (hs : a.eval s = v) (hr : Dk w B v ps) (u : Value) (q : Int → Bool) (hx : a.eval x = u) (hu : Crd w u [q]) (hlen : ps.length + 1 ≤ 1073741824) (hB : B ≤ w.heap.size)
    (h : ∀ g cap w', Dk w' B (.slice (some ⟨g, 0, none⟩) (ps.length + 1) cap) (ps ++ [q]) → w.grownBy w' v.ownBlock → (v.ownBlock = some g ∨ g = w.heap.size) → K (a.put o.dst (.slice (some ⟨g, 0, none⟩) (ps.length + 1) cap)) w') : o.wp Try.prog a w K Q := by
  obtain ⟨i0, hi, hz0, hz1, hz2⟩ := card_info
  rcases hu with ⟨_, e⟩ | ⟨g, off, c, rfl, hg, hc⟩
  · cases e
  · refine wp_append_lies w s x 67 ho B 82 i0 _ 128 128 Try.underlying67 hi hz0 hz1 hz2 Try.zcS (by decide) v ps.length _ hs hr ⟨g, off, none⟩ 1 c (flatD [q]) hx (by rw [flatD_len]; rfl)
      (fun j y hy => by
        obtain ⟨q', hq, rfl⟩ := flatD_inv hy
        rw [addr_add]
        have := hc _ _ hq (j % 128) (Nat.mod_lt _ (by omega))
        rwa [show j / 128 * 128 + j % 128 = j by omega] at this)
      (flatD_one_cell [q]) (by omega) (by unfold maxLen; omega) (by omega) hB w.heap.size rfl ?_
    intro g' cap w' h1 h2 h3 _
    refine h g' cap w' ?_ h2 h3
    unfold Dk
    rw [List.length_append, flatD_app]
    exact h1

set_option maxHeartbeats 16000000 in
set_option maxRecDepth 100000 in
theorem checked_any (n m : Nat) (s : Value) (w : World) (h : Dr w s (bdK n m)) (h1 : 1 ≤ m) (hm : m ≤ 7) :
    Calls Try.prog 43 #[.agg #[.int .i64 (n : Int), s]] w fun e w' => ∃ s', e = .returned (.agg #[.int .i64 (n : Int), s']) ∧ Dk w' w.heap.size s' (stL n m 16) ∧ Below w.heap.size w w' := by
  obtain ⟨sp, sc, rfl⟩ := h.form
  rw [bdK_len] at h ⊢
  have H := Lib.hid h
  clear h
  obtain ⟨W1, e1⟩ : ∃ W1, (w.alloc (.cells #[.int .i64 (n : Int), .slice sp m sc] 69)).alloc (.cells #[.int .i64 0, .slice none 0 0] 69) = W1 := ⟨_, rfl⟩
  obtain ⟨W, eW⟩ : ∃ W, (W1.alloc (.cells #[] 82)).alloc (.cells #[.slice (some ⟨(w.heap.size + 1 + 1), 0, none⟩) 0 0] 67) = W := ⟨_, rfl⟩
  have z1 : W1.heap.size = (w.heap.size + 1 + 1) := by rw [← e1]; simp
  have zW : W.heap.size = (w.heap.size + 1 + 1 + 1) + 1 := by rw [← eW]; simp; omega
  have hb1 : Below w.heap.size w W1 := by rw [← e1]; exact ((Below.refl _ _).alloc (Nat.le_refl _) _).alloc (by simp) _
  have hb12 : Below W1.heap.size W1 W := by rw [← eW]; exact ((Below.refl _ _).alloc (Nat.le_refl _) _).alloc (by simp) _
  have hb0 := nxt hb1 hb12
  have k0 : W.heap[w.heap.size]? = some (.cells #[.int .i64 (n : Int), .slice sp m sc] 69 (0, 0)) := (hb12.block _ (by omega)).trans (by rw [← e1]; exact blk_a _ _ _)
  have k1 : W.heap[(w.heap.size + 1)]? = some (.cells #[.int .i64 0, .slice none 0 0] 69 (0, 0)) := (hb12.block _ (by omega)).trans (by rw [← e1]; exact blk_b _ _ _)
  have k3 : W.heap[(w.heap.size + 1 + 1 + 1)]? = some (.cells #[.slice (some ⟨(w.heap.size + 1 + 1), 0, none⟩) 0 0] 67 (0, 0)) := by
    rw [← eW]
    have z := blk_b W1 (.cells #[] 82) (.cells #[.slice (some ⟨(w.heap.size + 1 + 1), 0, none⟩) 0 0] 67)
    rw [z1] at z
    exact z
  have kD : Hid (Dk W (w.heap.size + 1 + 1) (.slice (some ⟨(w.heap.size + 1 + 1), 0, none⟩) 0 0) (preL n (lenC 0))) := Lib.hid (by
    rw [← eW]
    have z := World.ownsRow_made (e := 82) (size := 128) W1 #[] 0 (Nat.le_refl _) (by unfold maxLen; omega) rfl
    rw [z1] at z
    exact World.ownsRow.alloc z _)
  rw [← e1] at eW
  have EW := Lib.hid eW
  clear eW e1 hb1 hb12
  go_enter Try.func43, Try.ntmps43
  go_wp2_with fail
  rw [EW.out]
  clear EW
  go_loopw [12] (fun i wr => ∃ (k : Nat) (v : Value), k ≤ m ∧ i = .int .i64 (k : Int) ∧ wr.heap[(w.heap.size + 1 + 1 + 1)]? = some (.cells #[v] 67 (0, 0)) ∧ Hid (Dk wr (w.heap.size + 1 + 1) v (preL n (lenC k))) ∧ wr.heap[w.heap.size]? = some (.cells #[.int .i64 (n : Int), .slice sp m sc] 69 (0, 0)) ∧ wr.heap[(w.heap.size + 1)]? = some (.cells #[.int .i64 0, .slice none 0 0] 69 (0, 0)) ∧ Below w.heap.size w wr ∧ (w.heap.size + 1 + 1 + 1) + 1 ≤ wr.heap.size) (fun i _ => m - (intOf i).toNat)
  case atStart => exact ⟨0, _, Nat.zero_le _, rfl, k3, kD, k0, k1, hb0, by omega⟩
  case round =>
    clear k3 kD k0 k1 hb0 zW z1
    obtain ⟨k, v, hk, rfl, h3, HD, h0, h1', hb, hz⟩ := hrel
    by_cases hlt : k < m
    · have hbl := bdK_len n m
      have H2 : Dr w (.slice sp (bdK n m).length sc) (bdK n m) := by rw [hbl]; exact H.out
      obtain ⟨g, o, rfl, hg, hc⟩ := H2.row (by omega)
      have hq : (bdK n m)[k]? = some (bnP k n) := by simp [bdK, hlt]
      have hpart : ∀ j v, (bA (bnP k n))[j]? = some v → wr.cell? ⟨g, o + k * 128 + j, none⟩ = some v := fun j v hv => by
        have hj : j < 128 := by
          by_cases e : j < 128
          · exact e
          · rw [Array.getElem?_eq_none (by rw [bA_size]; omega)] at hv; cases hv
        rw [bA_at _ hj] at hv
        have := (hb.cell (p := ⟨g, o + (k * 128 + j), none⟩) hg).trans (hc k _ hq j hj)
        rw [Nat.add_assoc, this]
        exact hv
      have HP := Lib.hid hpart
      have LC : lenC k < plC k := lenC_lt ⟨k, by omega⟩
      have LF : Hid (∀ l : Nat, lenC k ≤ l → l < plC k → ((isPw (l + 1) = true ↔ l + 1 ≠ plC k) ∧ (l + 1 = plC k → ixC (l + 1) = k))) := Lib.hid (fun l h1 h2 => lenC_facts ⟨k, by omega⟩ ⟨l, by have := plC_le k; omega⟩ h1 h2)
      have LE : Hid (lenC (k + 1) = plC k) := Lib.hid rfl
      have CO := Lib.hid (fun W' => crd_one W' (bnP k n))
      obtain ⟨q, eq⟩ : ∃ q, bnP k n = q := ⟨_, rfl⟩
      rw [eq] at HP CO
      have EQ := Lib.hid eq
      have HCs : Hid ((bA q).size = 128) := Lib.hid (bA_size q)
      have HCo : Hid ((bA q).all (·.oneCell') = true) := Lib.hid (bA_one q)
      obtain ⟨C, eC⟩ : ∃ C, bA q = C := ⟨_, rfl⟩
      rw [eC] at HP HCs HCo CO
      have HF := fold_card HCs.out
      obtain ⟨wo, ewo⟩ : ∃ wo, wo = wr := ⟨_, rfl⟩
      subst ewo
      have hbn := hb.alloc hb.size (.cells C 82)
      have hzn : (w.heap.size + 1 + 1 + 1) + 1 ≤ (wo.alloc (.cells C 82)).heap.size := by simp; omega
      have A0 := (heap_alloc_old wo (.cells C 82) (show w.heap.size < wo.heap.size by omega)).trans h0
      have A1 := (heap_alloc_old wo (.cells C 82) (show (w.heap.size + 1) < wo.heap.size by omega)).trans h1'
      have A3 := (heap_alloc_old wo (.cells C 82) (show (w.heap.size + 1 + 1 + 1) < wo.heap.size by omega)).trans h3
      have AC := heap_alloc_new wo (.cells C 82)
      have AD := Lib.hid (HD.out.alloc (.cells C 82))
      have NC : Hid (v.ownBlock ≠ some wo.heap.size) := Lib.hid (fun e => by have := (World.ownsRow.lt HD.out _ e).2; omega)
      have PK := plC_le k
      clear hpart hc hq eq eC hb h0 h1' h3 HD H2 hbl
      go_wp2_with (first
        | (refine wl_load_part rfl 82 _ rfl g (o + k * 128) rfl C _ (by exact HP.out) Try.setU rfl (by rw [HCs.out]; exact Try.setI) ?_)
        | (refine wpList_store_row rfl 82 _ _ rfl wo.heap.size C rfl rfl 82 Try.zeroCells82 (by exact heap_alloc_new wo _) (by rw [HCs.out]; exact Try.setI) (by rw [HCs.out]; exact Try.zcS) HCo.out ?_; rw [World.setRow_alloc_new]))
      simp only [Act.put]
      go_loopw [16] (fun _ wr => ∃ (l : Nat) (v : Value), lenC k ≤ l ∧ l < plC k ∧ wr.heap[(w.heap.size + 1 + 1 + 1)]? = some (.cells #[v] 67 (0, 0)) ∧ Hid (Dk wr (w.heap.size + 1 + 1) v (preL n l)) ∧ wr.heap[w.heap.size]? = some (.cells #[.int .i64 (n : Int), .slice (some ⟨g, o, none⟩) m sc] 69 (0, 0)) ∧ wr.heap[(w.heap.size + 1)]? = some (.cells #[.int .i64 0, .slice none 0 0] 69 (0, 0)) ∧ Hid (wr.heap[wo.heap.size]? = some (.cells C 82 (0, 0))) ∧ Hid (v.ownBlock ≠ some wo.heap.size) ∧ Below w.heap.size w wr ∧ wo.heap.size + 1 ≤ wr.heap.size) (fun _ wr => 20 - lenAt (wr.cell? ⟨(w.heap.size + 1 + 1 + 1), 0, none⟩))
      case atStart => exact ⟨lenC k, v, Nat.le_refl _, LC, A3, AD, A0, A1, Lib.hid AC, NC, hbn, by simp⟩
      case round =>
        clear hbn hzn A0 A1 A3 AC AD NC
        obtain ⟨l, v, hl1, hl2, h3, HD, h0, h1', HC5, HNC, hb, hz5⟩ := hrel
        have LFl := LF.out l hl1 hl2
        obtain ⟨vp, vc, hv⟩ := HD.out.form
        rw [preL_len] at hv
        subst hv
        have IP := fun W => Lib.hid (isPower_any l W (by omega))
        obtain ⟨t0, t1⟩ := box1_of h3
        have HNB := Lib.hid (HD.out.ne_box h3)
        have H3 := Lib.hid h3
        have H0 := Lib.hid h0
        have H1 := Lib.hid h1'
        by_cases hp : isPw (l + 1) = true
        · have hne := LFl.1.1 hp
          have HPF : Hid (preL n l ++ [fun _ => false] = preL n (l + 1)) := Lib.hid (by rw [preL_succ, preF_pw hp])
          have CZ : Hid (∀ W : World, Crd (W.alloc (.cells Try.zeroCells82 82)) (.slice (some ⟨W.heap.size, 0, none⟩) 1 1) [fun _ => false]) := Lib.hid (fun W => by rw [Try.zcE]; exact crd_one W _)
          have HF0 := fold_card Try.zcS
          rw [hp] at IP
          clear hp LFl h3 h0 h1' HP
          go_wp2_with (first
            | (go_at_call 62; refine (IP _).out.mono ?_; rintro e w' ⟨rfl, rfl⟩)
            | (at_builtin; refine wpList_plain rfl ?_; intro K5 hK5; refine wp_append_cardL _ _ rfl (w.heap.size + 1 + 1) (.slice vp l vc) (preL n l) rfl (by exact HD.out.alloc _) _ (fun _ => false) rfl (by exact CZ.out _) (by rw [preL_len]; omega) (by simp; omega) ?_; rw [preL_len]; intro g8 cap8 w8 d8 gr8 at8; have D8 := Lib.hid d8; have Y3 := (gr8.block (w.heap.size + 1 + 1 + 1) (by simp; omega) HNB.out).trans ((heap_alloc_old _ _ (by omega)).trans H3.out); have YC := Lib.hid ((gr8.block wo.heap.size (by simp; omega) (fun e => HNC.out e.symm)).trans ((heap_alloc_old _ _ (by omega)).trans HC5.out)); have B8 : Below (w.heap.size + 1 + 1) wr w8 := ((Below.refl (w.heap.size + 1 + 1) wr).alloc (by omega) _).trans ((HD.out.alloc _).grown (by simp; omega) gr8); have NC8 : Hid ((Value.slice (some ⟨g8, 0, none⟩) (l + 1) cap8).ownBlock ≠ some wo.heap.size) := Lib.hid (fun e => by have eg : g8 = wo.heap.size := (by simpa [Value.ownBlock] using e); exact at8.elim (fun h => HNC.out (h.trans (congrArg Option.some eg))) (fun h => by have z := h; rw [World.size_alloc] at z; omega)); obtain ⟨u0, u1⟩ := box1_of Y3; have HY3 := Lib.hid Y3; have Z8 := B8.size; clear d8 gr8 at8 Y3; refine hK5 _ _ ?_))
          go_roundw
          case rel => exact ⟨l + 1, _, by omega, by omega, box1_set HY3.out, Lib.hid (by rw [← HPF.out]; exact D8.out.setOutB HY3.out _), by rw [heap_setCell_other _ _ _ _ (by show w.heap.size ≠ (w.heap.size + 1 + 1 + 1); omega)]; exact (B8.block _ (by omega)).trans H0.out, by rw [heap_setCell_other _ _ _ _ (by show (w.heap.size + 1) ≠ (w.heap.size + 1 + 1 + 1); omega)]; exact (B8.block _ (by omega)).trans H1.out, Lib.hid (by rw [heap_setCell_other _ _ _ _ (by show wo.heap.size ≠ (w.heap.size + 1 + 1 + 1); omega)]; exact YC.out), NC8, (hb.trans (B8.mono (by omega))).setCell (by show w.heap.size ≤ (w.heap.size + 1 + 1 + 1); omega) _, by simp [World.setCell]; omega⟩
          case measure => simp only [t0, World.cell?_setCell_same _ _ _ u0, lenAt]; omega
        · have hpf : isPw (l + 1) = false := by simpa using hp
          have heq : l + 1 = plC k := Classical.byContradiction fun e => hp (LFl.1.2 e)
          have HPF : Hid (preL n l ++ [q] = preL n (lenC (k + 1))) := Lib.hid (by rw [LE.out, ← heq, preL_succ, preF_digit hpf (LFl.2 heq), EQ.out])
          have HC1 : C.size = 128 := HCs.out
          rw [hpf] at IP
          clear hp hpf heq LFl h3 h0 h1' HP
          go_wp2_with (first
            | (go_at_call 62; refine (IP _).out.mono ?_; rintro e w' ⟨rfl, rfl⟩)
            | (refine wpList_load_row rfl 82 _ rfl wo.heap.size rfl 82 C (0, 0) _ (by exact HC5.out) Try.setU rfl (by rw [HCs.out]; exact Try.setI) ?_)
            | (at_builtin; refine wpList_plain rfl ?_; intro K5 hK5; refine wp_append_cardL _ _ rfl (w.heap.size + 1 + 1) (.slice vp l vc) (preL n l) rfl (by exact HD.out.alloc _) _ q rfl (by exact CO.out _) (by rw [preL_len]; omega) (by simp; omega) ?_; rw [preL_len]; intro g8 cap8 w8 d8 gr8 at8; have D8 := Lib.hid d8; have Y3 := (gr8.block (w.heap.size + 1 + 1 + 1) (by simp; omega) HNB.out).trans ((heap_alloc_old _ _ (by omega)).trans H3.out); have B8 : Below (w.heap.size + 1 + 1) wr w8 := ((Below.refl (w.heap.size + 1 + 1) wr).alloc (by omega) _).trans ((HD.out.alloc _).grown (by simp; omega) gr8); obtain ⟨u0, u1⟩ := box1_of Y3; have HY3 := Lib.hid Y3; have Z8 := B8.size; clear d8 gr8 at8 Y3; refine hK5 _ _ ?_))
          go_roundw
          case rel => exact ⟨k + 1, _, by omega, by go_num, box1_set HY3.out, Lib.hid (by rw [← HPF.out]; exact D8.out.setOutB HY3.out _), by rw [heap_setCell_other _ _ _ _ (by show w.heap.size ≠ (w.heap.size + 1 + 1 + 1); omega)]; exact (B8.block _ (by omega)).trans H0.out, by rw [heap_setCell_other _ _ _ _ (by show (w.heap.size + 1) ≠ (w.heap.size + 1 + 1 + 1); omega)]; exact (B8.block _ (by omega)).trans H1.out, (hb.trans (B8.mono (by omega))).setCell (by show w.heap.size ≤ (w.heap.size + 1 + 1 + 1); omega) _, by simp [World.setCell]; omega⟩
          case measure => simp only [intOf]; omega
    · obtain rfl : k = m := by omega
      have hl0 := lenC_posU h1
      have hlc := lenC_le k
      have HSt : Hid (Dk wr (w.heap.size + 1 + 1) v (stL n k 1)) := Lib.hid (by rw [stL_one]; exact HD.out)
      have hne : 0 < (stL n k 1).length := by rw [stL_len]; exact hl0
      obtain ⟨vp, vc, hv⟩ := HD.out.form
      rw [preL_len] at hv
      subst hv
      have hvp : ∃ g, vp = some ⟨g, 0, none⟩ := by
        rcases id HD.out.2 with ⟨e, _⟩ | ⟨g, cap, cur, e, _⟩
        · simp only [Value.slice.injEq] at e
          have := e.2.1
          omega
        · simp only [Value.slice.injEq] at e
          exact ⟨g, e.1⟩
      obtain ⟨g, rfl⟩ := hvp
      obtain ⟨nl, enl⟩ : ∃ nl, lenC k = nl := ⟨_, rfl⟩
      have ENL := Lib.hid enl
      rw [enl] at h3 hl0 hlc
      have HSt2 : Hid (Dk wr (w.heap.size + 1 + 1) (.slice (some ⟨g, 0, none⟩) nl vc) (stL n k 1)) := Lib.hid (by have z := HSt.out; rw [enl] at z; exact z)
      obtain ⟨t0, t1⟩ := box1_of h3
      clear HSt enl HD
      go_wp2_with fail
      go_loopw [7] (fun q wr => ∃ (p Q : Nat), p ≤ 4 ∧ Hid (Q + 1 = 2 ^ p) ∧ Q ≤ 15 ∧ q = .int .i64 ((Q : Int) + 1) ∧ Hid (Dk wr (w.heap.size + 1 + 1) (.slice (some ⟨g, 0, none⟩) nl vc) (stL n k (Q + 1))) ∧ wr.heap[(w.heap.size + 1 + 1 + 1)]? = some (.cells #[.slice (some ⟨g, 0, none⟩) nl vc] 67 (0, 0)) ∧ wr.heap[w.heap.size]? = some (.cells #[.int .i64 (n : Int), .slice sp k sc] 69 (0, 0)) ∧ wr.heap[(w.heap.size + 1)]? = some (.cells #[.int .i64 0, .slice none 0 0] 69 (0, 0)) ∧ Below w.heap.size w wr ∧ (w.heap.size + 1 + 1 + 1) + 1 ≤ wr.heap.size) (fun q _ => 40 - (intOf q).toNat)
      case atStart => exact ⟨0, 0, by omega, Lib.hid rfl, by omega, by go_num, HSt2, h3, h0, h1', hb, hz⟩
      case round =>
        clear HSt2 h3 h0 h1' hb hz t0 t1 hne
        obtain ⟨p, Q, hp4, HP, hQ, rfl, HD, h3, h0, h1', hb, hz⟩ := hrel
        obtain ⟨t0, t1⟩ := box1_of h3
        have HSL : Hid ((stL n k (Q + 1)).length = nl) := Lib.hid (by rw [stL_len, ENL.out])
        by_cases hle : Q < nl
        · have hp : p < 4 := by
            have e := HP.out
            rcases (by omega : p < 4 ∨ p = 4) with h | h
            · exact h
            · subst h
              have : (2 : Nat) ^ 4 = 16 := rfl
              omega
          have hleI : (Q : Int) + 1 ≤ (nl : Int) := by omega
          have hq1 : IntKind.i64.wrap ((Q : Int) + 1 - 1) = (Q : Int) := by rw [show ((Q : Int) + 1 - 1) = (Q : Int) by omega]; exact IntWalk.i64_in _ (by omega)
          have hqn : (Q : Int) < (nl : Int) := by omega
          have hq2 : IntKind.i64.wrap (Q : Int) = (Q : Int) := IntWalk.i64_in _ (by omega)
          have hq0 : (0 : Int) ≤ (Q : Int) := by omega
          have HCF : (fun x => xorK (stL n k (Q + 1)) (Q + 1) (stL n k (Q + 1)).length x) = ckF n k (Q + 1) := funext fun x => by rw [stL_len, HP.out]; exact xor_st n k hp x
          have HSn := Lib.hid (show (stL n k (Q + 1)).set Q (ckF n k (Q + 1)) = stL n k (2 * (Q + 1)) by
            have z := st_next n k hp
            rw [← HP.out, Nat.pow_succ, ← HP.out] at z
            rw [show 2 * (Q + 1) = (Q + 1) * 2 by omega, ← z]; rfl)
          have HCK := fun (W : World) (hW : Below wr.heap.size wr W) => check_any (Q + 1) (w.heap.size + 1 + 1 + 1) _ (stL n k (Q + 1)) W ((hW.cell (p := ⟨(w.heap.size + 1 + 1 + 1), 0, none⟩) (by show (w.heap.size + 1 + 1 + 1) < wr.heap.size; omega)).trans t0) (by have z := (HD.out.below hW (Nat.le_refl _)).dr; exact z) (by rw [HSL.out]; exact hlc) (fun i hi => by
            have z := ix_bits ⟨i, hi⟩ ⟨p, hp⟩
            simp only at z
            rw [← HP.out] at z
            rw [Int.natCast_add] at z
            exact z)
          rw [HCF] at HCK
          have HCs : (bA (ckF n k (Q + 1))).size = 128 := bA_size _
          have HCo : (bA (ckF n k (Q + 1))).all (·.oneCell') = true := bA_one _
          obtain ⟨C, eC⟩ : ∃ C, bA (ckF n k (Q + 1)) = C := ⟨_, rfl⟩
          rw [eC] at HCK HCs HCo
          rw [Int.natCast_add] at HCK
          have HCK := Lib.hid HCK
          have EC := Lib.hid eC
          have hQ7 : 2 * Q + 1 ≤ 15 := by
            have e := HP.out
            rcases (by omega : p = 0 ∨ p = 1 ∨ p = 2 ∨ p = 3) with h | h | h | h <;> subst h <;> simp at e <;> omega
          have HP2 := Lib.hid (show (2 * Q + 1) + 1 = 2 ^ (p + 1) by rw [Nat.pow_succ, ← HP.out]; omega)
          have H3 := Lib.hid h3
          have H0 := Lib.hid h0
          have H1 := Lib.hid h1'
          have HSs := Lib.hid HCs
          have HSo := Lib.hid HCo
          clear eC HCF h3 h0 h1' HCs HCo
          go_upto_region 13 with (fail)
          refine wp_region_held_drew (S := fun w' => w'.cell? ⟨(w.heap.size + 1 + 1 + 1), 0, none⟩ = some (.slice (some ⟨g, 0, none⟩) nl vc)) (by kernel_rfl) t0 (fun hH => ?_)
          refine wpAnyH_take (i := 0) (v := ?va) rfl (by kernel_rfl) (by kernel_rfl) (by kernel_rfl) (fun _ _ _ h => h) (Or.inl ⟨by rfl, ?hya⟩) hH ?resta
          case hya => (intro w hSw; (try dsimp only at hSw); go_simp <;> with_reducible rfl)
          try simp only [Act.put]
          refine wpAnyH_take (i := 1) (v := ?vb) rfl (by kernel_rfl) (by kernel_rfl) (by kernel_rfl) (fun _ _ _ h => h) (Or.inl ⟨by rfl, ?hyb⟩) hH ?restb
          case hyb => (intro w hSw; (try dsimp only at hSw); go_simp <;> with_reducible rfl)
          try simp only [Act.put]
          refine wpAnyH_take (i := 2) (v := ?vc) rfl (by kernel_rfl) (by kernel_rfl) (by kernel_rfl) (fun _ _ _ h => h) (Or.inl ⟨by rfl, ?hyc⟩) hH ?restc
          case hyc => (intro w hSw; (try dsimp only at hSw); go_simp <;> with_reducible rfl)
          try simp only [Act.put]
          refine wpAnyH_take (i := 3) (v := ?vd) rfl (by kernel_rfl) (by kernel_rfl) (by kernel_rfl) (fun _ _ _ h => h) (Or.inl ⟨by rfl, ?hyd⟩) hH ?restd
          case hyd => (intro w hSw; (try dsimp only at hSw); go_simp <;> with_reducible rfl)
          try simp only [Act.put]
          refine wpAnyH_take (i := 4) (v := ?ve) rfl (by kernel_rfl) (by kernel_rfl) (by kernel_rfl) (fun _ _ _ h => h) (Or.inl ⟨by rfl, ?hye⟩) hH ?reste
          case hye => (intro w hSw; (try dsimp only at hSw); go_simp <;> with_reducible rfl)
          try simp only [Act.put]
          refine wpAnyH_ready (rs := [5]) (by kernel_rfl) (by simp) (AllReadyH.cons rfl (fun K hK => ?_) AllReadyH.nil)
          go_simp
          go_at_call 63
          refine (HCK.out _ (Below.refl _ _).drew).mono ?_
          rintro e w1 ⟨rfl, b1⟩
          have B1 : Below wr.heap.size wr w1 := (Below.refl _ _).drew.trans b1
          have z1 := B1.size
          have K3 := (B1.block (w.heap.size + 1 + 1 + 1) (by omega)).trans H3.out
          obtain ⟨r0, r1⟩ := box1_of K3
          have D1 := Lib.hid (HD.out.below B1 (Nat.le_refl _))
          go_wp2_with fail
          refine hK.out _ _ r0 (fun hH => ?_)
          clear hK K
          try simp only [Act.put]
          refine wpAnyH_take (i := 6) (v := ?vf) rfl (by kernel_rfl) (by kernel_rfl) (by kernel_rfl) (fun _ _ _ h => h) (Or.inl ⟨by rfl, ?hyf⟩) hH ?restf
          case hyf => (intro w hSw; (try dsimp only at hSw); go_simp <;> with_reducible rfl)
          try simp only [Act.put]
          refine wpAnyH_ready (rs := [7]) (by kernel_rfl) (by simp) (AllReadyH.cons rfl (fun K hK => ?_) AllReadyH.nil)
          rw [if_pos (by rfl)]
          have hth : w1.there g (Q * 128) C.size := fun j hj => by
            rw [HSs.out] at hj
            obtain ⟨q1, q2, _⟩ := D1.out.cellL (m := Q) (p := (stL n k (Q + 1))[Q]'(by rw [HSL.out]; exact hle)) (List.getElem?_eq_getElem _) hj HSL.out
            exact ⟨by rw [q1]; rfl, q2⟩
          refine wp_store_mid 82 _ _ rfl g (Q * 128) C rfl rfl hth (by rw [HSs.out]; exact Try.setI) HSo.out ?_
          have KB := Lib.hid (below_setCells C.toList w1 g (Q * 128) (B1.mono (show w.heap.size + 1 + 1 ≤ wr.heap.size by omega)) (D1.out.cellL (m := Q) (p := (stL n k (Q + 1))[Q]'(by rw [HSL.out]; exact hle)) (List.getElem?_eq_getElem _) (j := 0) (by omega) HSL.out).2.2)
          have hgne : (w.heap.size + 1 + 1 + 1) ≠ g := fun e => D1.out.ne_box K3 (by rw [e]; rfl)
          have K33 := (setCells_far C.toList w1 g (Q * 128) (w.heap.size + 1 + 1 + 1) hgne).trans K3
          have D2 : Hid (Dk (w1.setCells g (Q * 128) C.toList) (w.heap.size + 1 + 1) (.slice (some ⟨g, 0, none⟩) nl vc) (stL n k (2 * (Q + 1)))) := Lib.hid (by rw [← HSn.out, ← EC.out]; exact D1.out.setRow (by rw [HSL.out]; exact hle) HSL.out)
          have Z2 := size_setCells C.toList w1 g (Q * 128)
          obtain ⟨w2, ew2⟩ : ∃ w2, w1.setCells g (Q * 128) C.toList = w2 := ⟨_, rfl⟩
          rw [ew2] at KB K33 D2 Z2 ⊢
          refine hK.out _ _ (box1_of K33).1 (fun hH => ?_)
          clear hK K ew2
          try simp only [Act.put]
          refine wpAnyH_done (by kernel_rfl) ?_ _
          have HK33 := Lib.hid K33
          have HZ2 : wr.heap.size ≤ w2.heap.size := by omega
          clear K33 Z2 hth K3
          go_wp2_with fail
          go_roundw
          case rel => exact ⟨p + 1, 2 * Q + 1, by omega, HP2, hQ7, by go_num, Lib.hid (by rw [show 2 * Q + 1 + 1 = 2 * (Q + 1) by omega]; exact D2.out), HK33.out, (KB.out.block _ (by omega)).trans H0.out, (KB.out.block _ (by omega)).trans H1.out, hb.trans (KB.out.mono (by omega)), by omega⟩
          case measure => simp only [intOf]; omega
        · have hlt : ¬ (Q : Int) + 1 ≤ (nl : Int) := by omega
          have EE := Lib.hid (ck_end n k p (by rw [ENL.out, ← HP.out]; omega))
          obtain ⟨c00, c01, -, -⟩ := cells2_of h0
          obtain ⟨c10, c11, f10, f11⟩ := cells2_of h1'
          have HBv := Lib.hid hb
          clear hb h3 h0 h1'
          go_wp2_with fail
          obtain ⟨fs, hfs⟩ := Try.deckU
          refine bodyPost_ret (v := .agg #[.int .i64 (n : Int), .slice (some ⟨g, 0, none⟩) nl vc]) (results_two rfl _ _ (w.heap.size + 1) _ _ fs rfl ?_ ?_ hfs Try.deckI) rfl ⟨_, rfl, ?_, (HBv.out.setCell (p := ⟨(w.heap.size + 1), 0, none⟩) (by show w.heap.size ≤ (w.heap.size + 1); omega) _).setCell (p := ⟨(w.heap.size + 1), 1, none⟩) (by show w.heap.size ≤ (w.heap.size + 1); omega) _⟩
          · simp [World.cell?_setCell_other, World.cell?_setCell_same, go_sem, c10]
          · simp [World.cell?_setCell_other, World.cell?_setCell_same, go_sem, c11]
          · have z := (HD.out.abv (((Abv.refl (w.heap.size + 1 + 1) wr).setCell (g := (w.heap.size + 1)) (by omega) 0 (.int .i64 (n : Int))).setCell (g := (w.heap.size + 1)) (by omega) 1 (.slice (some ⟨g, 0, none⟩) nl vc))).mono (show w.heap.size ≤ (w.heap.size + 1 + 1) by omega)
            rw [HP.out, EE.out] at z
            exact z
end Go.Proofs.Ytgojlabkngnkdaa
