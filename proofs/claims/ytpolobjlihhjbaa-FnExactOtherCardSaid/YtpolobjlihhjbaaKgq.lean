/-
  OtherCard in the model, by contract. No condition but lengths that fit int.
-/
import Derived.Test.YtpolobjlihhjbaaKgp
import Derived.Test.YtpolobjlihhjbaaQpu
namespace Go.Proofs.Ytpolobjlihhjbaa
open Go.RowKit

theorem Ow.setOut {w : World} {B : Nat} {v : Value} {ys : List Int} (h : Ow w B v ys) {g : Nat} {cur : Array Value} (hg : w.heap[g]? = some (.cells cur 38 (0, 0))) (i : Nat) (x : Value) : Ow (w.setCell ⟨g, i, none⟩ x) B v ys := by
  obtain ⟨h1, h2⟩ := h
  refine ⟨h1, ?_⟩
  rcases h2 with h2 | ⟨q, cap, c, hv, hq, hh, r⟩
  · exact .inl h2
  · refine .inr ⟨q, cap, c, hv, hq, ?_, r⟩
    rw [heap_setCell_other _ _ _ _ (by intro e; subst e; rw [hg] at hh; simp at hh)]
    exact hh
theorem rowL_set {pl : List (List Int)} {k j : Nat} {L : List Int} (hk : k < pl.length) : rowL (pl.set k L) j = if j = k then L else rowL pl j := by
  unfold rowL
  simp only [List.getD_eq_getElem?_getD, List.getElem?_set]
  by_cases e : k = j
  · subst e; simp [hk]
  · rw [if_neg e, if_neg (fun h => e h.symm)]
theorem abv_cell {w w' : World} {E : Nat} (h : Abv E w w') {p : Addr} (hp : E ≤ p.block) : w'.cell? p = w.cell? p := by
  simp only [World.cell?]; rw [h _ hp]
theorem Owa.setRow {w w' : World} {B D C E g cap : Nat} {pl : List (List Int)} {k : Nat} {x : Value} {L : List Int} (h : Owa w B D (.slice (some ⟨g, 0, none⟩) pl.length cap) pl) (hk : k < pl.length) (hx : Ow w C x L)
    (k2 : Abv E (w.setCell ⟨g, k, none⟩ x) w') (hE : E ≤ B) (hC : E ≤ C) :
    Svv w' (.slice (some ⟨g, 0, none⟩) pl.length cap) (pl.set k L) := by
  obtain ⟨vals, h⟩ := h
  rcases id h.out.2 with ⟨e, hn⟩ | ⟨g', cap', cur, e, hg, hh, h1, _, h3, _⟩
  · omega
  · simp only [Value.slice.injEq, Option.some.injEq, Addr.mk.injEq, and_true, true_and] at e
    obtain ⟨rfl, rfl⟩ := e
    have hsz : g < w'.heap.size := by
      have h4 := k2 g (by omega)
      rw [heap_setCell_same w g k _ _ x hh] at h4
      exact (Array.getElem?_eq_some_iff.1 h4).1
    refine ⟨some ⟨g, 0, none⟩, cap, by rw [List.length_set], fun _ => ⟨g, 0, rfl, hsz, fun j hj => ?_⟩⟩
    rw [List.length_set] at hj
    rw [abv_cell k2 (by show E ≤ g; omega)]
    by_cases e : j = k
    · subst e
      refine ⟨x, ?_, ?_⟩
      · rw [Nat.zero_add]
        exact World.cell?_setCell_same _ _ _ (show w.cell? ⟨g, j, none⟩ = some (vals.getD j undef) by have := rowvals h.out rfl hj; rwa [Nat.zero_add] at this)
      · rw [rowL_set hj, if_pos rfl]; exact ((hx.setOut hh j x).abv (k2.up hC)).sv
    · refine ⟨vals.getD j undef, ?_, ?_⟩
      · rw [World.cell?_setCell_other _ _ _ _ (by first | (simp; omega) | simp)]; exact rowvals h.out rfl hj
      · rw [rowL_set hk, if_neg e]; exact (((h.row j hj).setOut hh k x).abv (k2.up hE)).sv
theorem Owa.base {w : World} {B D : Nat} {v : Value} {pl : List (List Int)} (h : Owa w B D v pl) (h0 : 0 < pl.length) : ∃ g cap cur, v = .slice (some ⟨g, 0, none⟩) pl.length cap ∧ B ≤ g ∧ w.heap[g]? = some (.cells cur 38 (0, 0)) ∧ pl.length ≤ cap ∧ cur.size = cap := by
  obtain ⟨vals, h⟩ := h
  rcases id h.out.2 with ⟨e, hn⟩ | ⟨g, cap, cur, e, hg, hh, h1, _, h3, _⟩
  · omega
  · exact ⟨g, cap, cur, e, hg, hh, h1, by omega⟩
theorem cell_at {w : World} {g : Nat} {cur : Array Value} {t : TypeId} (h : w.heap[g]? = some (.cells cur t (0, 0))) {m : Nat} (hm : m < cur.size) : ∃ y, w.cell? ⟨g, m, none⟩ = some y ∧ w.frozen? ⟨g, m, none⟩ = false :=
  ⟨cur[m], by rw [cell_of_row _ _ _ _ _ _ h]; simp [hm], by simp [World.frozen?, h]⟩
noncomputable def ocR (n : Int) (Ls : List (List Int)) (k : Int) : List (List Int) := if dcB n Ls k = true then Ls.set k.toNat (sLK (fun x => !inL (rowL Ls k.toNat) x) n.toNat) else []

set_option maxHeartbeats 4000000 in
set_option maxRecDepth 100000 in
theorem specOtherCard_any (n k : Int) (v : Value) (Ls : List (List Int)) (w : World) (h : SrcL w v Ls) (hl : Ls.length ≤ 1099511627776) (hx : ∀ j, j < Ls.length → (rowL Ls j).length ≤ 1099511627776) :
    Calls Try.prog 53 #[.agg #[.int .i64 n, v], .int .i64 k] w fun e w' => ∃ u, e = .returned (.tuple #[.agg #[.int .i64 (dcN n Ls k), u], .bool (dcB n Ls k)]) ∧ Svv w' u (ocR n Ls k) ∧ Below w.heap.size w w' := by
  obtain ⟨p, cap, rfl⟩ := svv_form h.svv
  obtain ⟨W, eW⟩ : ∃ W, (w.alloc (.cells #[.int .i64 n, .slice p Ls.length cap] 27)).alloc (.cells #[.int .i64 0, .slice none 0 0] 27) = W := ⟨_, rfl⟩
  have hb0 : Below w.heap.size w W := by rw [← eW]; exact pairW
  have HZ : Hid (W.heap.size = w.heap.size + 1 + 1) := Lib.hid (by rw [← eW]; simp)
  have k0 : W.heap[w.heap.size]? = some (.cells #[.int .i64 n, .slice p Ls.length cap] 27 (0, 0)) := by rw [← eW]; exact blk_a _ _ _
  have k1 : W.heap[w.heap.size + 1]? = some (.cells #[.int .i64 0, .slice none 0 0] 27 (0, 0)) := by rw [← eW]; exact blk_b _ _ _
  have CC := caCard_any n k _ Ls _ (h.svv.below hb0 (Nat.le_refl _)) hl hx
  have K0 := Lib.hid k0
  have K1 := Lib.hid k1
  have H := Lib.hid h
  obtain ⟨c00, c01, -, -⟩ := cells2_of k0
  clear h hx k0 k1
  cases hg : dcB n Ls k with
  | false =>
    rw [hg] at CC
    have CC := Lib.hid CC
    have RN : Hid (dcN n Ls k = 0) := Lib.hid (by simp [dcN, hg])
    have RR : Hid (ocR n Ls k = []) := Lib.hid (by simp [ocR, hg])
    clear hg
    go_enter Try.func53, Try.ntmps53
    go_wp2_with (go_at_call 91; refine CC.out.mono ?_; rintro e w1 ⟨rfl, b1⟩; have B1 := nxt hb0 b1; have k1 := (b1.block (w.heap.size + 1) (by have := HZ.out; omega)).trans K1.out; obtain ⟨c10, c11, f10, f11⟩ := cells2_of k1; clear b1 k1)
    obtain ⟨fs, hfs⟩ := Try.cardsU
    rw [RN.out, RR.out]
    refine bodyPost_ret (v := .tuple #[.agg #[.int .i64 0, .slice none 0 0], .bool false]) (results_twob rfl _ _ (w.heap.size + 1) _ _ fs rfl ?_ ?_ hfs Try.cardsI _ rfl) rfl ⟨_, rfl, (Owa.nil _ 0 0).svv, (B1.setCell (p := ⟨w.heap.size + 1, 0, none⟩) (by show w.heap.size ≤ w.heap.size + 1; omega) _).setCell (p := ⟨w.heap.size + 1, 1, none⟩) (by show w.heap.size ≤ w.heap.size + 1; omega) _⟩
    · simp [World.cell?_setCell_other, World.cell?_setCell_same, go_sem, c10]
    · simp [World.cell?_setCell_other, World.cell?_setCell_same, go_sem, c11]
  | true =>
    rw [hg] at CC
    have CC := Lib.hid CC
    have hg2 := hg
    unfold dcB at hg2
    rw [Bool.and_eq_true] at hg2
    have G := caB_iff.1 hg2.1
    have hin := inB_iff.1 hg2.2
    have hlo := G.lo
    have hhi := G.hi
    have hl12 := G.len
    obtain ⟨m, rfl⟩ : ∃ m : Nat, k = m := ⟨k.toNat, by omega⟩
    obtain ⟨N, rfl⟩ : ∃ N : Nat, n = N := ⟨n.toNat, by omega⟩
    have hm : m < Ls.length := by omega
    have hmi : (m : Int) < (Ls.length : Int) := by omega
    have RN : Hid (dcN N Ls m = N) := Lib.hid (by simp [dcN, hg])
    have RR : Hid (ocR N Ls m = Ls.set m (sLK (fun x => !inL (rowL Ls m) x) N)) := Lib.hid (by simp [ocR, hg])
    have FA := fun (W' : World) (b : Below w.heap.size w W') => caOwn_any N (-1) _ Ls W' (H.out.below b (Nat.le_refl _)) G
    rw [owK_all] at FA
    have FA := Lib.hid FA
    obtain ⟨b, off, rfl, hbl, hr⟩ := svv_row H.out.svv (by omega)
    obtain ⟨ur, hcell, hs⟩ := hr m hm
    have hrow : (rowL Ls m).length ≤ 1099511627776 := by have := G.row hm; unfold rowL; omega
    have HC := Lib.hid hcell
    obtain ⟨L, eL⟩ : ∃ L, rowL Ls m = L := ⟨_, rfl⟩
    rw [eL] at hs hrow RR
    obtain ⟨pu, cu, rfl⟩ : ∃ pu cu, ur = .slice pu L.length cu := by obtain ⟨pu, cu, e, _⟩ := hs; exact ⟨pu, cu, e⟩
    have LH := Lib.hid (fun (x : Int) (W' : World) (hb : Below w.heap.size w W') => l1Has_any _ L x W' (hs.below hb (Nat.le_refl _)) hrow)
    obtain ⟨q, eq⟩ : ∃ q : Int → Bool, (fun x => !inL L x) = q := ⟨_, rfl⟩
    have IN : Hid (∀ x : Int, decide (x ∈ L) = !q x) := Lib.hid (fun x => by rw [← eq]; simp [inL])
    rw [eq] at RR
    clear hg hg2 hin G eL hr hcell hs hrow eq
    go_enter Try.func53, Try.ntmps53
    go_wp2_with (first
      | (go_at_call 91; refine CC.out.mono ?_; rintro e w1 ⟨rfl, b1⟩; have B1 := nxt hb0 b1; have k0 := (b1.block w.heap.size (by have := HZ.out; omega)).trans K0.out; have k1 := (b1.block (w.heap.size + 1) (by have := HZ.out; omega)).trans K1.out; have z1 := b1.size; obtain ⟨d00, d01, -, -⟩ := cells2_of k0; clear b1)
      | (go_at_call 92; refine (FA.out _ B1).mono ?_; rintro e w2 ⟨u, rfl, o2, b2⟩; have B2 := nxt B1 b2; have z2 := b2.size; have k0 := (b2.block w.heap.size (by have := HZ.out; omega)).trans k0; have k1 := (b2.block (w.heap.size + 1) (by have := HZ.out; omega)).trans k1; obtain ⟨g, gc, cur, rfl, hgB, hgh, hgl, hgs⟩ := o2.base (by omega); have O2 := Lib.hid o2; clear o2 b2 d00 d01))
    have W20 : Below w2.heap.size w2 (w2.alloc (.cells #[.int .i64 (N : Int), .slice (some ⟨g, 0, none⟩) Ls.length gc] 27)) := (Below.refl _ _).alloc (Nat.le_refl _) _
    have xb := heap_alloc_new w2 (.cells #[.int .i64 (N : Int), .slice (some ⟨g, 0, none⟩) Ls.length gc] 27)
    have zx : w2.heap.size < (w2.alloc (.cells #[.int .i64 (N : Int), .slice (some ⟨g, 0, none⟩) Ls.length gc] 27)).heap.size := by simp
    have HB2 := Lib.hid B2
    have HK0 := Lib.hid k0
    have HK1 := Lib.hid k1
    have HG := Lib.hid hgh
    have hg2 : g < w2.heap.size := (Array.getElem?_eq_some_iff.1 hgh).1
    have hw2 : w.heap.size + 1 + 1 ≤ w2.heap.size := by have := HZ.out; omega
    have hw1 : w.heap.size + 1 + 1 ≤ w1.heap.size := by have := HZ.out; omega
    clear B1 B2 k0 k1 z1 z2 hgh c00 c01 hb0
    go_loopw [7, 8] (fun v i wr => ∃ x : Nat, x ≤ N ∧ i = .int .i64 x ∧ Ow wr (w2.heap.size + 1) v (sLK q x) ∧ Below w2.heap.size w2 wr ∧ wr.heap[w2.heap.size]? = some (.cells #[.int .i64 (N : Int), .slice (some ⟨g, 0, none⟩) Ls.length gc] 27 (0, 0)) ∧ w2.heap.size < wr.heap.size) (fun _ i _ => N - (intOf i).toNat)
    case atStart => exact ⟨0, Nat.zero_le _, rfl, ow_nil _ _, W20, xb, zx⟩
    case round =>
      clear W20 xb zx
      obtain ⟨x, hx, rfl, ho, hb, hxb, hgt⟩ := hrel
      have hk0 := (hb.block w.heap.size (by omega)).trans HK0.out
      obtain ⟨d00, d01, -, -⟩ := cells2_of hk0
      by_cases hlt : x < N
      · have hcell := ((HB2.out.trans (hb.mono (by omega))).cell (p := ⟨b, off + m, none⟩) hbl).trans HC.out
        have LH1 := LH.out (x : Int) wr (HB2.out.trans (hb.mono (by omega)))
        rw [IN.out] at LH1
        have hcl := sLK_len q x
        by_cases hq : q x = true
        · have HN := Lib.hid (sLK_yes hq)
          rw [hq] at LH1
          have LH1 := Lib.hid LH1
          obtain ⟨T, eT⟩ : ∃ T, sLK q x = T := ⟨_, rfl⟩
          rw [eT] at ho HN hcl
          clear hq eT
          go_wp2_with (first
            | (go_at_call 89; refine LH1.out.mono ?_; rintro e w3 ⟨rfl, rfl⟩)
            | (at_builtin; refine wpList_append_src rfl _ _ rfl (w2.heap.size + 1) _ T rfl (ho.alloc _) _ [(x : Int)] rfl (src_one _ _) (by simp only [List.length_cons, List.length_nil]; omega) (by simp; omega) ?_; intro v' w3 h3 g3))
          have bg := (ho.alloc _).grown (by simp; omega) g3
          have b3 := (hb.alloc (Nat.le_of_lt hgt) _).trans (bg.mono (Nat.le_succ _))
          have ba : Below wr.heap.size wr (wr.alloc (.cells #[.int .i64 (x : Int)] 3)) := (Below.refl _ _).alloc (Nat.le_refl _) _
          have xb3 := (bg.block w2.heap.size (Nat.lt_succ_self _)).trans ((ba.block w2.heap.size hgt).trans hxb)
          have z3 := Nat.lt_of_lt_of_le hgt (Nat.le_trans ba.size bg.size)
          clear ho g3 hb bg ba hgt hxb
          go_roundw
          case rel => exact ⟨x + 1, by omega, by go_num, by rw [HN.out]; exact h3, b3, xb3, z3⟩
          case measure => simp only [intOf]; omega
        · have hq : q x = false := by simpa using hq
          have HN := Lib.hid (sLK_no hq)
          rw [hq] at LH1
          have LH1 := Lib.hid LH1
          clear hq
          go_wp2_with (go_at_call 89; refine LH1.out.mono ?_; rintro e w3 ⟨rfl, rfl⟩)
          go_roundw
          case rel => exact ⟨x + 1, by omega, by go_num, by rw [HN.out]; exact ho, hb, hxb, hgt⟩
          case measure => simp only [intOf]; omega
      · have hke : x = N := by omega
        subst hke
        obtain ⟨e20, e21, f20, f21⟩ := cells2_of hxb
        have hgw := (hb.block g hg2).trans HG.out
        obtain ⟨old, hold, hfr⟩ := cell_at hgw (m := m) (by omega)
        have k1 := (hb.block (w.heap.size + 1) (by omega)).trans HK1.out
        obtain ⟨c10, c11, f10, f11⟩ := cells2_of k1
        obtain ⟨lp, lc, rfl, -⟩ := ho.sv
        have HO := Lib.hid ho
        have HB := Lib.hid hb
        have gne : g ≠ w2.heap.size := by omega
        clear ho hb
        go_wp2
        obtain ⟨fs, hfs⟩ := Try.cardsU
        rw [RN.out, RR.out]
        have OO := (O2.out.below HB.out (Nat.le_refl _)).mono (show w.heap.size + 1 + 1 ≤ _ from hw1) (Nat.le_refl _)
        refine bodyPost_ret (v := .tuple #[.agg #[.int .i64 x, .slice (some ⟨g, 0, none⟩) Ls.length gc], .bool true]) (results_twob rfl _ _ (w.heap.size + 1) _ _ fs rfl ?_ ?_ hfs Try.cardsI _ rfl) rfl ⟨_, rfl, OO.setRow hm HO.out (((Abv.refl _ _).setCell (g := w.heap.size + 1) (by omega) 0 _).setCell (g := w.heap.size + 1) (by omega) 1 _) (Nat.le_refl _) (by omega), (((HB2.out.trans (HB.out.mono (by omega))).setCell (p := ⟨g, m, none⟩) (by show w.heap.size ≤ g; omega) _).setCell (p := ⟨w.heap.size + 1, 0, none⟩) (by show w.heap.size ≤ w.heap.size + 1; omega) _).setCell (p := ⟨w.heap.size + 1, 1, none⟩) (by show w.heap.size ≤ w.heap.size + 1; omega) _⟩
        · simp [World.cell?_setCell_other, World.cell?_setCell_same, go_sem, c10]
        · simp [World.cell?_setCell_other, World.cell?_setCell_same, go_sem, c11]
end Go.Proofs.Ytpolobjlihhjbaa
