/-
  Slices of slices of the call's own, each row in a block of its own: what they hold, appended to, marked and found again. Conditions: at most 2^20 rows.
-/
import Derived.Test.YtgojlabkngnkdaaCat4
import Derived.Test.YtgojlabkngnkdaaPsl4
namespace Go.Proofs.Ytgojlabkngnkdaa
open Go.RowKit

theorem Try.infoL : (Try.prog.info? 22).map (fun i => (i.zero, i.size, i.bytes)) = some (some (.slice none 0 0), 1, 24) := by kernel_rfl
theorem own_ne {w : World} {B C : Nat} {t s : TypeId} {z y n k : Nat} {v u : Value} {xs ys : List Value} (h : w.ownsRow B t z v n xs) (g : w.ownsRow C s y u k ys) (hts : s ≠ t) : u.ownBlock = none ∨ u.ownBlock ≠ v.ownBlock := by
  rcases g.2 with ⟨rfl, _⟩ | ⟨gu, capu, curu, rfl, _, hu, _⟩
  · exact .inl rfl
  · refine .inr fun e => ?_
    rcases h.2 with ⟨rfl, _⟩ | ⟨gv, capv, curv, rfl, _, hv, _⟩
    · simp [Value.ownBlock] at e
    · have e2 : gu = gv := by simpa [Value.ownBlock] using e
      subst e2
      rw [hu] at hv
      simp at hv
      exact hts hv.2
theorem getD_app_lt {α : Type} (a b : List α) (d : α) {j : Nat} (h : j < a.length) : (a ++ b).getD j d = a.getD j d := by
  rw [List.getD_eq_getElem?_getD, List.getD_eq_getElem?_getD, List.getElem?_append_left h]
theorem getD_app_ge {α : Type} (a b : List α) (d : α) {j : Nat} (h : a.length ≤ j) : (a ++ b).getD j d = b.getD (j - a.length) d := by
  rw [List.getD_eq_getElem?_getD, List.getD_eq_getElem?_getD, List.getElem?_append_right h]
theorem row1_below {w w' : World} {B C n : Nat} {t : TypeId} {v : Value} {xs : List Value} (h : w.ownsRow B t 1 v n xs) (hb : Below C w w') (hC : w.heap.size ≤ C) : w'.ownsRow B t 1 v n xs := by
  obtain ⟨h1, h2⟩ := h
  refine ⟨h1, ?_⟩
  rcases h2 with h2 | ⟨g, cap, cur, hv, hg, hh, r⟩
  · exact .inl h2
  · refine .inr ⟨g, cap, cur, hv, hg, ?_, r⟩
    rw [hb.block g (Nat.lt_of_lt_of_le (Array.getElem?_eq_some_iff.1 hh).1 hC)]; exact hh
theorem row1_mono {w : World} {B C n : Nat} {t : TypeId} {v : Value} {xs : List Value} (h : w.ownsRow B t 1 v n xs) (hC : C ≤ B) : w.ownsRow C t 1 v n xs := by
  obtain ⟨h1, h2⟩ := h
  refine ⟨h1, ?_⟩
  rcases h2 with h2 | ⟨g, cap, cur, hv, hg, r⟩
  · exact .inl h2
  · exact .inr ⟨g, cap, cur, hv, by omega, r⟩
theorem row1_below' {w w' : World} {B n : Nat} {t : TypeId} {v : Value} {xs : List Value} (h : w.ownsRow B t 1 v n xs) (hb : ∀ k, v.ownBlock = some k → w'.heap[k]? = w.heap[k]?) : w'.ownsRow B t 1 v n xs := by
  obtain ⟨h1, h2⟩ := h
  refine ⟨h1, ?_⟩
  rcases h2 with h2 | ⟨g, cap, cur, hv, hg, hh, r⟩
  · exact .inl h2
  · refine .inr ⟨g, cap, cur, hv, hg, ?_, r⟩
    rw [hb g (by rw [hv]; rfl)]; exact hh

/-- The call's own slice of slices: its rows lie in blocks of their own, below D. -/
structure RowsAt (w : World) (B D : Nat) (v : Value) (vals : List Value) (pl : List (List Int)) : Prop where
  out : w.ownsRow B 22 1 v pl.length vals
  row : ∀ j, j < pl.length → Ow w B (vals.getD j undef) (rowL pl j)
  sep : ∀ i j, i < j → j < pl.length → (vals.getD i undef).ownBlock = none ∨ (vals.getD i undef).ownBlock ≠ (vals.getD j undef).ownBlock
  low : ∀ j k, j < pl.length → (vals.getD j undef).ownBlock = some k → k < D
def Owa (w : World) (B D : Nat) (v : Value) (pl : List (List Int)) : Prop := ∃ vals, RowsAt w B D v vals pl
theorem Owa.nil (w : World) (B D : Nat) : Owa w B D (.slice none 0 0) [] := ⟨[], World.ownsRow_nil _ _ _ _, fun j h => by simp at h, fun i j _ h => by simp at h, fun j k h => by simp at h⟩
theorem RowsAt.below {w w' : World} {B C D : Nat} {v : Value} {vals : List Value} {pl : List (List Int)} (h : RowsAt w B D v vals pl) (hb : Below C w w') (hC : w.heap.size ≤ C) : RowsAt w' B D v vals pl :=
  ⟨row1_below h.out hb hC, fun j hj => (h.row j hj).below hb hC, h.sep, h.low⟩
theorem Owa.below {w w' : World} {B C D : Nat} {v : Value} {pl : List (List Int)} (h : Owa w B D v pl) (hb : Below C w w') (hC : w.heap.size ≤ C) : Owa w' B D v pl := by
  obtain ⟨vals, h⟩ := h; exact ⟨vals, h.below hb hC⟩
theorem Owa.mono {w : World} {B C D E : Nat} {v : Value} {pl : List (List Int)} (h : Owa w B D v pl) (hC : C ≤ B) (hE : D ≤ E) : Owa w C E v pl := by
  obtain ⟨vals, h⟩ := h
  exact ⟨vals, row1_mono h.out hC, fun j hj => (h.row j hj).mono hC, h.sep, fun j k hj hk => Nat.lt_of_lt_of_le (h.low j k hj hk) hE⟩
theorem rowvals {w : World} {B n : Nat} {v : Value} {vals : List Value} (h : w.ownsRow B 22 1 v n vals) {g cap : Nat} (hv : v = .slice (some ⟨g, 0, none⟩) n cap) {j : Nat} (hj : j < n) : w.cell? ⟨g, 0 + j, none⟩ = some (vals.getD j undef) := by
  subst hv
  have hl : vals.length = n := by have := h.1; omega
  rw [Nat.zero_add, World.ownsRow.cellAt h j (by omega), List.getD_eq_getElem?_getD, List.getElem?_eq_getElem (by omega)]
  rfl
theorem Owa.svv {w : World} {B D : Nat} {v : Value} {pl : List (List Int)} (h : Owa w B D v pl) : Svv w v pl := by
  obtain ⟨vals, h⟩ := h
  rcases id h.out.2 with ⟨e, hn⟩ | ⟨g, cap, cur, e, hg, hh, _⟩
  · exact ⟨none, 0, by rw [e, hn], fun h0 => by omega⟩
  · exact ⟨some ⟨g, 0, none⟩, cap, e, fun _ => ⟨g, 0, rfl, (Array.getElem?_eq_some_iff.1 hh).1, fun j hj => ⟨vals.getD j undef, rowvals h.out e hj, (h.row j hj).sv⟩⟩⟩
theorem Owa.form {w : World} {B D : Nat} {v : Value} {pl : List (List Int)} (h : Owa w B D v pl) : ∃ p cap, v = .slice p pl.length cap := by
  obtain ⟨p, cap, e, _⟩ := h.svv
  exact ⟨p, cap, e⟩
theorem Ow.one {w : World} {B : Nat} {v : Value} {ys : List Int} (h : Ow w B v ys) : v.oneCell' = true := by
  rcases h.form with ⟨e, _⟩ | ⟨g, cap, e, _⟩ <;> rw [e] <;> rfl

/-- The marks that the laws write into the rows. -/
def markL (k : Int) (pl : List (List Int)) : List (List Int) := (List.range pl.length).map fun (j : Nat) => marks (k + tot pl j) (rowL pl j).length
theorem markL_len (k : Int) (pl : List (List Int)) : (markL k pl).length = pl.length := by simp [markL]
theorem markL_row (k : Int) (pl : List (List Int)) {j : Nat} (h : j < pl.length) : rowL (markL k pl) j = marks (k + tot pl j) (rowL pl j).length := by
  unfold rowL markL
  rw [List.getD_eq_getElem?_getD, List.getElem?_map, List.getElem?_range h]; rfl
theorem tot_up (pl : List (List Int)) : ∀ n k, k ≤ n → tot pl k ≤ tot pl n := by
  intro n
  induction n with
  | zero => intro k h; have : k = 0 := by omega
            subst this; omega
  | succ n ih =>
    intro k h
    by_cases e : k = n + 1
    · subst e; omega
    · have := ih k (by omega); simp only [tot]; omega
theorem tot_row (pl : List (List Int)) {n k : Nat} (h : k < n) : (rowL pl k).length ≤ tot pl n := by
  have := tot_up pl n (k + 1) h
  simp only [tot] at this
  omega

theorem mid_grown {C D B : Nat} {w w1 w2 : World} {u : Value} {ys : List Int} (h : Mid C D w w1) (k : w1.grownBy w2 u.ownBlock) (o : Ow w1 B u ys) (hD : ∀ q, u.ownBlock = some q → q < D) (hB : C ≤ B := by exact Nat.le_refl _) : Mid C D w w2 := by
  cases e : u.ownBlock with
  | none =>
    rw [e] at k
    exact ⟨k.os.trans h.os, k.tape.trans h.tape, k.output.trans h.output, Nat.le_trans h.size k.size, fun i hi hn => (k.block i (Nat.lt_of_lt_of_le hi h.size) (by simp)).trans (h.block i hi hn)⟩
  | some q =>
    rw [e] at k
    exact h.grown k (Nat.le_trans hB (World.ownsRow.lt o q e).1) (hD q e)

set_option maxHeartbeats 2000000 in
set_option maxRecDepth 20000 in
theorem markIntSS_own (v : Value) (pl : List (List Int)) (B D : Nat) (k : Int) (w : World) (h : Owa w B D v pl) (hn : pl.length ≤ 1048576) (hf : tot pl pl.length ≤ 1048576) (hk0 : 0 ≤ k) (hk1 : k ≤ 1048577) :
    Calls Try.prog 46 #[v, .int .i64 k] w fun e w' => e = .returned (.int .i64 (k + tot pl pl.length)) ∧ Owa w' B D v (markL k pl) ∧ Mid B D w w' := by
  obtain ⟨vals, h⟩ := h
  have hform : (v = .slice none 0 0 ∧ pl.length = 0) ∨ ∃ g cap, v = .slice (some ⟨g, 0, none⟩) pl.length cap ∧ g < w.heap.size ∧ B ≤ g := by
    rcases h.out.2 with ⟨e, e0⟩ | ⟨g, cap, cur, e, hg, hh, _⟩
    · exact .inl ⟨e, e0⟩
    · exact .inr ⟨g, cap, e, (Array.getElem?_eq_some_iff.1 hh).1, hg⟩
  have hlv : vals.length = pl.length := by have := h.out.1; omega
  have HO := h.out
  rcases hform with ⟨rfl, e0⟩ | ⟨g, cap, rfl, hg, hBg⟩
  · have e1 : pl = [] := List.length_eq_zero_iff.1 e0
    subst e1
    go_enter Try.func46, Try.ntmps46
    go_wp2
    refine wp_loop_rounds 1 ?_
    rw [rounds_succ]
    go_wp2
    go_ret
    exact ⟨ret_int (by simp [tot]), ⟨vals, h⟩, Mid.refl _ _ _⟩
  · have HF := Lib.hid hf
    have HL := Lib.hid h.low
    have HS := Lib.hid h.sep
    have HC := Lib.hid (fun (j : Nat) (hj : j < pl.length) => rowvals h.out rfl hj)
    have HR := h.row
    have HOH := Lib.hid HO
    clear h hf hlv
    go_enter Try.func46, Try.ntmps46
    go_wp2
    go_loopw [1, 5] (fun t i wr => ∃ j : Nat, j ≤ pl.length ∧ i = .int .i64 j ∧ t = .int .i64 (k + tot pl j) ∧ Hid (∀ i, i < j → Ow wr B (vals.getD i undef) (marks (k + tot pl i) (rowL pl i).length)) ∧ Hid (∀ i, j ≤ i → i < pl.length → Ow wr B (vals.getD i undef) (rowL pl i)) ∧ wr.heap[g]? = w.heap[g]? ∧ Mid B D w wr) (fun _ i _ => pl.length - (intOf i).toNat)
    case atStart => exact ⟨0, Nat.zero_le _, rfl, by simp [tot], Lib.hid (fun i hi => by omega), Lib.hid (fun i _ hi => HR i hi), rfl, Mid.refl _ _ _⟩
    case round =>
      clear HR HO
      obtain ⟨j, hj, rfl, rfl, H1, H2, hgb, hb⟩ := hrel
      have htm := tot_up pl _ _ hj
      have hs0 : 0 ≤ k + (tot pl j : Int) := by omega
      have hs1 : k + (tot pl j : Int) ≤ 1099511627776 := by have := HF.out; omega
      by_cases hlt : j < pl.length
      · have hcell := HC.out j hlt
        have hcell : wr.cell? ⟨g, j, none⟩ = some (vals.getD j undef) := by rw [← hcell, Nat.zero_add]; simp only [World.cell?, hgb]
        have oj := H2.out j (Nat.le_refl _) hlt
        have hrl : (rowL pl j).length ≤ 1099511627776 := by have := tot_row pl hlt; have := HF.out; omega
        have hbj : ∀ i, i < pl.length → i ≠ j → (vals.getD i undef).ownBlock = none ∨ (vals.getD i undef).ownBlock ≠ (vals.getD j undef).ownBlock := fun i hi hne => by
          by_cases e : i < j
          · exact HS.out i j e hlt
          · rcases HS.out j i (by omega) hi with e2 | e2
            · by_cases e3 : (vals.getD i undef).ownBlock = none
              · exact .inl e3
              · exact .inr fun e4 => e3 (by rw [e4, e2])
            · exact .inr fun e4 => e2 e4.symm
        have HBJ := Lib.hid hbj
        have hgE : ∀ q, (Value.slice (some ⟨g, 0, none⟩) pl.length cap).ownBlock = some q → wr.heap[q]? = w.heap[q]? := fun q hq => by
          have e : q = g := by simpa [Value.ownBlock] using hq.symm
          rw [e]; exact hgb
        have hoj := own_ne (row1_below' HOH.out hgE) oj (by decide)
        clear hgE
        have S : Hid (tot pl (j + 1) = tot pl j + (rowL pl j).length) := Lib.hid rfl
        have MK := Lib.hid (markIntS_any _ _ B _ wr oj hrl hs0 hs1)
        have OJ := Lib.hid oj
        have HLJ := Lib.hid (fun q hq => HL.out j q hlt hq)
        obtain ⟨u, eu⟩ : ∃ u, vals.getD j undef = u := ⟨_, rfl⟩
        rw [eu] at hcell MK hoj HBJ OJ HLJ
        have EU := Lib.hid eu
        obtain ⟨x, ex⟩ : ∃ x : Int, k + (tot pl j : Int) = x := ⟨_, rfl⟩
        have EX := Lib.hid ex
        rw [ex] at MK hs0 hs1 ⊢
        clear eu hbj oj ex htm
        go_wp2_with (go_at_call 30; refine MK.out.mono ?_; rintro e w2 ⟨rfl, o2, g2⟩)
        go_roundw
        case rel =>
          refine ⟨j + 1, by omega, by go_num, by have := EX.out; have := S.out; congr 1; omega, Lib.hid (fun i hi => ?_), Lib.hid (fun i hi hil => ?_), ?_, mid_grown hb g2 OJ.out (HLJ.out)⟩
          · by_cases e : i = j
            · subst e; rw [EU.out, EX.out]; exact o2
            · exact (H1.out i (by omega)).kept g2 (HBJ.out i (by omega) e)
          · exact (H2.out i (by omega) hil).kept g2 (HBJ.out i hil (by omega))
          · rw [g2.block g (Nat.lt_of_lt_of_le hg hb.size) (fun e => by
              rcases hoj with e2 | e2
              · rw [e2] at e; cases e
              · exact e2 e.symm), hgb]
        case measure => simp only [intOf]; omega
      · obtain rfl : j = pl.length := by omega
        go_wp2
        go_ret
        refine ⟨rfl, ⟨vals, ?_, fun j hj => ?_, fun i j hij hj => HS.out i j hij (by rw [markL_len] at hj; exact hj), fun j q hj hq => HL.out j q (by rw [markL_len] at hj; exact hj) hq⟩, hb⟩
        · rw [markL_len]
          have hgE : ∀ q, (Value.slice (some ⟨g, 0, none⟩) pl.length cap).ownBlock = some q → wr.heap[q]? = w.heap[q]? := fun q hq => by
            have e : q = g := by simpa [Value.ownBlock] using hq.symm
            rw [e]; exact hgb
          exact row1_below' HOH.out hgE
        · rw [markL_len] at hj
          rw [markL_row k pl hj]
          exact H1.out j hj

set_option maxHeartbeats 2000000 in
set_option maxRecDepth 20000 in
theorem heldIntSS_any (v : Value) (pl : List (List Int)) (k : Int) (w : World) (h : Svv w v (markL k pl)) (hn : pl.length ≤ 1048576) (hf : tot pl pl.length ≤ 1048576) (hk0 : 0 ≤ k) (hk1 : k ≤ 1048577) :
    Calls Try.prog 47 #[v, .int .i64 k] w fun e w' => e = .returned (.int .i64 (k + tot pl pl.length)) ∧ w = w' := by
  obtain ⟨p, cap, rfl, hx⟩ := h
  have HF := Lib.hid hf
  have HX := Lib.hid hx
  clear hf hx
  rw [markL_len] at HX ⊢
  go_enter Try.func47, Try.ntmps47
  go_wp2
  go_loop [1, 5] (fun t i => ∃ j : Nat, j ≤ pl.length ∧ i = .int .i64 j ∧ t = .int .i64 (k + tot pl j)) (fun _ i => pl.length - (intOf i).toNat)
  case atStart => exact ⟨0, Nat.zero_le _, rfl, by simp [tot]⟩
  case round =>
    obtain ⟨j, hj, rfl, rfl⟩ := hrel
    have htm := tot_up pl _ _ hj
    have hs0 : 0 ≤ k + (tot pl j : Int) := by omega
    have hs1 : k + (tot pl j : Int) ≤ 1099511627776 := by have := HF.out; omega
    by_cases hlt : j < pl.length
    · obtain ⟨b, off, rfl, hbl, hc⟩ := HX.out (by omega)
      obtain ⟨u, hcell, hu⟩ := hc j hlt
      rw [markL_row k pl hlt] at hu
      have hrl : (rowL pl j).length ≤ 1099511627776 := by have := tot_row pl hlt; have := HF.out; omega
      have hrb : (rowL pl j).length ≤ 1048576 := by have := tot_row pl hlt; have := HF.out; omega
      have S : Hid (tot pl (j + 1) = tot pl j + (rowL pl j).length) := Lib.hid rfl
      have HE := Lib.hid (heldIntS_any _ _ _ w hu hrl hs0 hs1)
      obtain ⟨x, ex⟩ : ∃ x : Int, k + (tot pl j : Int) = x := ⟨_, rfl⟩
      have EX := Lib.hid ex
      rw [ex] at HE hs0 hs1 ⊢
      have d : decide (x + ((rowL pl j).length : Int) < 0) = false := by simp; omega
      clear hc hu ex htm
      go_wp2_with (go_at_call 31; refine HE.out.mono ?_; rintro e w2 ⟨rfl, rfl⟩)
      go_round
      case rel => exact ⟨j + 1, by omega, by go_num, by have := EX.out; have := S.out; congr 1; omega⟩
      case measure => simp only [intOf]; omega
    · obtain rfl : j = pl.length := by omega
      go_wp2
      go_ret
      exact ⟨rfl, rfl⟩
def Abv (B : Nat) (w w' : World) : Prop := ∀ i, B ≤ i → w'.heap[i]? = w.heap[i]?
theorem Abv.refl (B : Nat) (w : World) : Abv B w w := fun _ _ => rfl
theorem Abv.setCell {B : Nat} {w w' : World} (h : Abv B w w') {g : Nat} (hg : g < B) (j : Nat) (u : Value) : Abv B w (w'.setCell ⟨g, j, none⟩ u) := fun i hi => by
  rw [heap_setCell_other _ _ _ _ (by show i ≠ g; omega)]; exact h i hi
theorem rowsZ_abv {w w' : World} {B n z : Nat} {t : TypeId} {v : Value} {xs : List Value} (h : w.ownsRow B t z v n xs) (k : Abv B w w') : w'.ownsRow B t z v n xs := by
  obtain ⟨h1, h2⟩ := h
  refine ⟨h1, ?_⟩
  rcases h2 with h2 | ⟨g, cap, cur, hv, hg, hh, r⟩
  · exact .inl h2
  · exact .inr ⟨g, cap, cur, hv, hg, by rw [k g hg]; exact hh, r⟩
theorem Ow.abv {w w' : World} {B : Nat} {v : Value} {ys : List Int} (h : Ow w B v ys) (k : Abv B w w') : Ow w' B v ys := rowsZ_abv h k
theorem Owa.abv {w w' : World} {B D : Nat} {v : Value} {pl : List (List Int)} (h : Owa w B D v pl) (k : Abv B w w') : Owa w' B D v pl := by
  obtain ⟨vals, h⟩ := h
  exact ⟨vals, rowsZ_abv h.out k, fun j hj => (h.row j hj).abv k, h.sep, h.low⟩
/-- The cells of a block of two. -/
theorem cells2_of {w : World} {b : Nat} {x y : Value} {t : TypeId} (h : w.heap[b]? = some (.cells #[x, y] t (0, 0))) :
    w.cell? ⟨b, 0, none⟩ = some x ∧ w.cell? ⟨b, 1, none⟩ = some y ∧ w.frozen? ⟨b, 0, none⟩ = false ∧ w.frozen? ⟨b, 1, none⟩ = false :=
  ⟨by rw [cell_of_row _ _ _ _ _ _ h]; rfl, by rw [cell_of_row _ _ _ _ _ _ h]; rfl, frozen_of_row _ _ _ _ _ h, frozen_of_row _ _ _ _ _ h⟩
theorem blk_0 (w : World) (a b c : Obj) : (((w.alloc a).alloc b).alloc c).heap[w.heap.size]? = some a := by
  rw [heap_alloc_old _ _ (by simp; omega)]; exact blk_a w a b
theorem blk_1 (w : World) (a b c : Obj) : (((w.alloc a).alloc b).alloc c).heap[w.heap.size + 1]? = some b := by
  rw [heap_alloc_old _ _ (by simp)]; exact blk_b w a b
theorem blk_2 (w : World) (a b c : Obj) : (((w.alloc a).alloc b).alloc c).heap[w.heap.size + 1 + 1]? = some c := by
  have := blk_b (w.alloc a) b c
  rwa [World.size_alloc] at this
theorem addr_add (g o j : Nat) : (⟨g, o, none⟩ : Addr).add j = ⟨g, o + j, none⟩ := by unfold Addr.add; split <;> simp_all
theorem run_loadVar_part {P : Program} (w : World) (g o : Nat) (ty : TypeId) (cs : Array Value) (d : TypeDesc) (hc : ∀ j v, cs[j]? = some v → w.cell? ⟨g, o + j, none⟩ = some v)
    (hu : P.underlying ty = some d) (hd : (match d with | .struct _ | .array _ _ => true | _ => false) = true) (hi : (P.info? ty).map (·.size) = some cs.size) :
    (loadVar ty ⟨g, o, none⟩).run P w = .ok (.agg cs) w := by
  have hl : (loadCells ⟨g, o, none⟩ cs.toList.length).run P w = .ok cs.toList.toArray w :=
    run_loadCells_list (P := P) w ⟨g, o, none⟩ cs.toList (fun j v hv => by
      rw [addr_add]
      exact hc j v (by simpa using hv))
  cases hq : P.info? ty with
  | none => simp [hq] at hi
  | some i =>
    have hs : i.size = cs.size := by simpa [hq] using hi
    have hagg : (isAgg ty).run P w = .ok true w := by
      unfold isAgg
      rw [Sem.run_bind, run_underlying hu w]
      cases d <;> simp_all
    simp only [Array.length_toList, Array.toArray_toList] at hl
    simp [loadVar, Sem.run_bind, hagg, sizeOf, typeInfo, hq, hs, hl]
theorem wl_load_part {P : Program} {ops : Array Oper} {rest : List Oper} {o : Oper} {a : Act} {w : World} {Q : Exit → Act → World → Prop} (hgd : o.guard = none) (ty : TypeId) (x : Operand) (ho : o.op = .load ty x)
    (g k : Nat) (hx : a.eval x = .pointer (some ⟨g, k, none⟩)) (cs : Array Value) (d : TypeDesc) (hc : ∀ j v, cs[j]? = some v → w.cell? ⟨g, k + j, none⟩ = some v)
    (hu : P.underlying ty = some d) (hd : (match d with | .struct _ | .array _ _ => true | _ => false) = true) (hi : (P.info? ty).map (·.size) = some cs.size)
    (h : wpList P ops Q rest (a.put o.dst (.agg cs)) w) : wpList P ops Q (o :: rest) a w :=
  wpList_plain hgd fun K hK => by
    unfold Oper.wp execOp
    simp only [ho, hx, Instr.loadAt, Instr.sureAddr, Sem.run_bind, Sem.run_pure, Result.andThen_ok, run_loadVar_part w g k ty cs d hc hu hd hi]
    exact hK _ _ h

/-- A result of two cells. -/
theorem results_two {P : Program} {fn : Func} {p : Tmp} {ty : TypeId} (h : fn.results = #[.cell p ty]) (tmps : Array Value) (w : World) (g : Nat) (x y : Value) (fs : Array Field)
    (hp : tmps.getD p undef = .pointer (some ⟨g, 0, none⟩)) (c0 : w.cell? ⟨g, 0, none⟩ = some x) (c1 : w.cell? ⟨g, 1, none⟩ = some y)
    (hu : P.underlying ty = some (.struct fs)) (hi : (P.info? ty).map (·.size) = some 2) :
    (results fn tmps).run P w = .ok (.agg #[x, y]) w := by
  have hp' : tmps[p]?.getD undef = .pointer (some ⟨g, 0, none⟩) := by simpa using hp
  have hl := run_loadVar_part (P := P) w g 0 ty #[x, y] (.struct fs) (fun j v hv => by
    match j, hv with
    | 0, hv => simp at hv; subst hv; simpa using c0
    | 1, hv => simp at hv; subst hv; simpa using c1) hu rfl (by simpa using hi)
  simp [results, h, hp', asAddr, hl]
theorem Abv.up {B C : Nat} {w w' : World} (h : Abv B w w') (hC : B ≤ C) : Abv C w w' := fun i hi => h i (by omega)
theorem Oww.abv {w w' : World} {B D : Nat} {v : Value} {pl : List (List Int)} (h : Oww w B D v pl) (k : Abv B w w') : Oww w' B D v pl := by
  obtain ⟨g, U, bs, hv, hg, hr, h2, ho⟩ := h
  refine ⟨g, U, bs, hv, hg, hr.of_block (k g hg), ⟨fun j h0 hj => ?_, h2.pos, h2.inc⟩, fun j hj => (ho j hj).abv (k.up (by have := h2.pos j hj; omega))⟩
  obtain ⟨ys, e, o, a⟩ := h2.own j h0 hj
  exact ⟨ys, e, o.abv (k.up (by have := h2.pos j hj; omega)), a⟩
theorem Mid.cell {C D : Nat} {w w' : World} (m : Mid C D w w') {g j : Nat} (hg : g < w.heap.size) (hn : g < C ∨ D ≤ g) : w'.cell? ⟨g, j, none⟩ = w.cell? ⟨g, j, none⟩ := by
  simp only [World.cell?, m.block g hg hn]
end Go.Proofs.Ytgojlabkngnkdaa
