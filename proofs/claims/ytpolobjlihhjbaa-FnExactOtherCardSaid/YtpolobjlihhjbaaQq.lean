/-
  OtherCard in the program, by contract. No condition but lengths that fit int.
-/
import Derived.Test.YtpolobjlihhjbaaQo
import Derived.Test.YtpolobjlihhjbaaKgq
namespace Go.Proofs.Ytpolobjlihhjbaa
open Go.RowKit

theorem Dk.cellL {w : World} {B g n cap m : Nat} {qs : List (Int → Bool)} {p : Int → Bool} (h : Dk w B (.slice (some ⟨g, 0, none⟩) n cap) qs) (hm : qs[m]? = some p) {j : Nat} (hj : j < 128) (hn : qs.length = n) :
    w.cell? ⟨g, m * 128 + j, none⟩ = some (.bool (p (j : Int))) ∧ w.frozen? ⟨g, m * 128 + j, none⟩ = false ∧ B ≤ g := by
  subst hn
  rcases id h.2 with ⟨e, _⟩ | ⟨q, cap', cur, e, hq, hh, _⟩
  · cases e
  · simp only [Value.slice.injEq, Option.some.injEq, Addr.mk.injEq, and_true, true_and] at e
    obtain ⟨rfl, rfl⟩ := e
    refine ⟨?_, frozen_of_row _ _ _ _ _ hh, hq⟩
    have R := World.ownsRow.cells h (g := g) rfl (m * 128 + j) _ (flatD_at hm hj)
    rwa [addr_add, Nat.zero_add] at R
theorem Dk.set {w : World} {B g n cap m : Nat} {qs : List (Int → Bool)} {p : Int → Bool} (h : Dk w B (.slice (some ⟨g, 0, none⟩) n cap) qs) (hm : qs[m]? = some p) {j : Nat} (hj : j < 128) (hn : qs.length = n) (b : Bool) :
    Dk (w.setCell ⟨g, m * 128 + j, none⟩ (.bool b)) B (.slice (some ⟨g, 0, none⟩) n cap) (qs.set m fun x => if x = (j : Int) then b else p x) := by
  subst hn
  have R := (World.ownsRow.stored h (m * 128 + j) (.bool b)).1
  unfold Dk
  rw [List.length_set, ← flatD_cell hm hj]
  exact R
theorem set_self {ps : List (Int → Bool)} {m : Nat} {f : Int → Bool} (h : ps[m]? = some f) : ps.set m f = ps := by
  refine List.ext_getElem? fun i => ?_
  rw [List.getElem?_set]
  by_cases e : m = i
  · subst e
    rw [if_pos rfl, h, if_pos (List.getElem?_eq_some_iff.1 h).1]
  · rw [if_neg e]
/-- A card with its first numbers turned. -/
def ocF (p : Int → Bool) (x : Nat) (y : Int) : Bool := if 0 ≤ y ∧ y < x then !p y else p y
theorem ocF_zero (p : Int → Bool) : ocF p 0 = p := by
  funext y; unfold ocF; rw [if_neg (by omega)]
theorem ocF_at (p : Int → Bool) (x : Nat) : ocF p x (x : Int) = p x := by unfold ocF; rw [if_neg (by omega)]
theorem ocF_succ (p : Int → Bool) (x : Nat) : (fun y => if y = (x : Int) then !ocF p x (x : Int) else ocF p x y) = ocF p (x + 1) := by
  funext y
  rw [ocF_at]
  unfold ocF
  by_cases e : y = x
  · subst e; rw [if_pos rfl, if_pos (by omega)]
  · rw [if_neg e]
    by_cases h : 0 ≤ y ∧ y < x
    · rw [if_pos h, if_pos (by omega)]
    · rw [if_neg h, if_neg (by omega)]
theorem ocF_sL {L : List Int} {N : Nat} (h1 : N ≤ 128) (hi : ∀ x ∈ L, x < N) : sL (ocF (inL L) N) = sLK (fun x => !inL L x) N := by
  refine sL_low h1 fun x h2 h3 => ?_
  unfold ocF
  by_cases e : x < N
  · rw [if_pos ⟨h2, e⟩]; simp [e]
  · rw [if_neg (fun h => e h.2)]
    have : inL L x = false := by
      simp only [inL, decide_eq_false_iff_not]
      intro hm
      exact e (hi x hm)
    simp [e, this]
theorem set_map_sL {Ls : List (List Int)} {m : Nat} {f : Int → Bool} (h : (Ls.map inL).map sL = Ls) : ((Ls.map inL).set m f).map sL = Ls.set m (sL f) := by
  rw [List.map_set, h]

set_option maxHeartbeats 4000000 in
set_option maxRecDepth 100000 in
theorem implOtherCard_any (n : Int) (v : Value) (Ls : List (List Int)) (k : Int) (w : World) (h : Svv w v Ls) (hl : Ls.length ≤ 1099511627776) (hx : ∀ j, j < Ls.length → (rowL Ls j).length ≤ 1099511627776) :
    Calls Try.prog 54 #[.agg #[.int .i64 n, v], .int .i64 k] w fun e w' => ∃ u, e = .returned (.tuple #[.agg #[.int .i64 (dcN n Ls k), u], .bool (dcB n Ls k)]) ∧ Owa w' w.heap.size w'.heap.size u (ocR n Ls k) ∧ Below w.heap.size w w' := by
  obtain ⟨p, cap, rfl⟩ := svv_form h
  obtain ⟨W, eW⟩ : ∃ W, (w.alloc (.cells #[.int .i64 n, .slice p Ls.length cap] 27)).alloc (.cells #[.int .i64 0, .slice none 0 0] 27) = W := ⟨_, rfl⟩
  have hb0 : Below w.heap.size w W := by rw [← eW]; exact pairW
  have HZ : Hid (W.heap.size = w.heap.size + 1 + 1) := Lib.hid (by rw [← eW]; simp)
  have k0 : W.heap[w.heap.size]? = some (.cells #[.int .i64 n, .slice p Ls.length cap] 27 (0, 0)) := by rw [← eW]; exact blk_a _ _ _
  have k1 : W.heap[w.heap.size + 1]? = some (.cells #[.int .i64 0, .slice none 0 0] 27 (0, 0)) := by rw [← eW]; exact blk_b _ _ _
  have AC := implAreCards_any n _ Ls _ (h.below hb0 (Nat.le_refl _)) hl hx
  have HC := Lib.hid (fun (W' : World) (hb : Below w.heap.size w W') => hasCard_any n k _ Ls W' (h.below hb (Nat.le_refl _)))
  have K0 := Lib.hid k0
  have K1 := Lib.hid k1
  have H := Lib.hid h
  obtain ⟨c00, c01, -, -⟩ := cells2_of k0
  have DB : Hid (dcB n Ls k = (caB n Ls && inB k 0 (Ls.length - 1))) := Lib.hid rfl
  have DN : Hid (dcN n Ls k = if dcB n Ls k = true then n else 0) := Lib.hid rfl
  have DR : Hid (ocR n Ls k = if dcB n Ls k = true then Ls.set k.toNat (sLK (fun x => !inL (rowL Ls k.toNat) x) n.toNat) else []) := Lib.hid rfl
  rw [DB.out] at DN DR
  clear h hx k0 k1
  cases hg : caB n Ls with
  | false =>
    rw [hg] at AC DB DN DR
    have AC := Lib.hid AC
    clear hg HC
    go_enter Try.func54, Try.ntmps54
    go_wp2_with (go_at_call 23; refine AC.out.mono ?_; rintro e w1 ⟨rfl, b1⟩; have B1 := nxt hb0 b1; have k1 := (b1.block (w.heap.size + 1) (by have := HZ.out; omega)).trans K1.out; obtain ⟨c10, c11, f10, f11⟩ := cells2_of k1; clear b1 k1)
    obtain ⟨fs, hfs⟩ := Try.cardsU
    rw [DN.out, DR.out, DB.out]
    refine bodyPost_ret (v := .tuple #[.agg #[.int .i64 0, .slice none 0 0], .bool false]) (results_twob rfl _ _ (w.heap.size + 1) _ _ fs rfl ?_ ?_ hfs Try.cardsI _ rfl) rfl ⟨_, rfl, Owa.nil _ _ _, (B1.setCell (p := ⟨w.heap.size + 1, 0, none⟩) (by show w.heap.size ≤ w.heap.size + 1; omega) _).setCell (p := ⟨w.heap.size + 1, 1, none⟩) (by show w.heap.size ≤ w.heap.size + 1; omega) _⟩
    · simp [World.cell?_setCell_other, World.cell?_setCell_same, go_sem, c10]
    · simp [World.cell?_setCell_other, World.cell?_setCell_same, go_sem, c11]
  | true =>
    rw [hg] at AC DB DN DR
    have AC := Lib.hid AC
    have G := caB_iff.1 hg
    clear hg
    cases hi : inB k 0 (Ls.length - 1) with
    | false =>
      rw [hi] at HC DB DN DR
      clear hi
      go_enter Try.func54, Try.ntmps54
      go_wp2_with (first
        | (go_at_call 23; refine AC.out.mono ?_; rintro e w1 ⟨rfl, b1⟩; have B1 := nxt hb0 b1; have k0 := (b1.block w.heap.size (by have := HZ.out; omega)).trans K0.out; have k1 := (b1.block (w.heap.size + 1) (by have := HZ.out; omega)).trans K1.out; have z1 := b1.size; obtain ⟨d00, d01, -, -⟩ := cells2_of k0; clear b1)
        | (go_at_call 93; refine (HC.out _ B1).mono ?_; rintro e w2 ⟨rfl, b2⟩; have B2 := nxt B1 b2; have k1 := (b2.block (w.heap.size + 1) (by have := HZ.out; omega)).trans k1; obtain ⟨c10, c11, f10, f11⟩ := cells2_of k1; clear b2))
      obtain ⟨fs, hfs⟩ := Try.cardsU
      rw [DN.out, DR.out, DB.out]
      refine bodyPost_ret (v := .tuple #[.agg #[.int .i64 0, .slice none 0 0], .bool false]) (results_twob rfl _ _ (w.heap.size + 1) _ _ fs rfl ?_ ?_ hfs Try.cardsI _ rfl) rfl ⟨_, rfl, Owa.nil _ _ _, (B2.setCell (p := ⟨w.heap.size + 1, 0, none⟩) (by show w.heap.size ≤ w.heap.size + 1; omega) _).setCell (p := ⟨w.heap.size + 1, 1, none⟩) (by show w.heap.size ≤ w.heap.size + 1; omega) _⟩
      · simp [World.cell?_setCell_other, World.cell?_setCell_same, go_sem, c10]
      · simp [World.cell?_setCell_other, World.cell?_setCell_same, go_sem, c11]
    | true =>
      rw [hi] at HC DB DN DR
      have hin := inB_iff.1 hi
      obtain ⟨m, rfl⟩ : ∃ m : Nat, k = m := ⟨k.toNat, by omega⟩
      have hlo := G.lo
      have hhi := G.hi
      obtain ⟨N, rfl⟩ : ∃ N : Nat, n = N := ⟨n.toNat, by omega⟩
      have hm0 : m < Ls.length := by omega
      have hm : m < (Ls.map inL).length := by rw [map_len]; omega
      have hl12 : (Ls.map inL).length ≤ 12 := by rw [map_len]; exact G.len
      have DO := fun (W : World) (hb : Below w.heap.size w W) => deckOf_any N _ Ls W (H.out.below hb (Nat.le_refl _)) G
      have hpm : (Ls.map inL)[m]? = some (inL (rowL Ls m)) := by rw [List.getElem?_map]; unfold rowL; rw [List.getD_eq_getElem?_getD, List.getElem?_eq_getElem hm0]; rfl
      have EL : ((Ls.map inL).set m (ocF (inL (rowL Ls m)) N)).map sL = Ls.set m (sLK (fun x => !inL (rowL Ls m) x) N) := by
        rw [set_map_sL G.lists, ocF_sL (by omega) (fun x hx => by have := ris_memC (G.ris m hm0) hx; omega)]
      obtain ⟨ps, eps⟩ : ∃ ps, Ls.map inL = ps := ⟨_, rfl⟩
      obtain ⟨f, ef⟩ : ∃ f, inL (rowL Ls m) = f := ⟨_, rfl⟩
      obtain ⟨E, eE⟩ : ∃ E, Ls.set m (sLK (fun x => !inL (rowL Ls m) x) N) = E := ⟨_, rfl⟩
      rw [eE] at EL
      rw [show Ls.set (m : Int).toNat (sLK (fun x => !inL (rowL Ls (m : Int).toNat) x) (N : Int).toNat) = Ls.set m (sLK (fun x => !inL (rowL Ls m) x) N) from rfl, eE] at DR
      rw [eps] at hm hl12 DO hpm EL
      rw [ef] at hpm EL
      have TO := Lib.hid (fun (u : Value) (W' : World) (hd : Dr W' u (ps.set m (ocF f N))) => told_any N u (ps.set m (ocF f N)) W' hd (by rw [List.length_set]; exact hl12))
      rw [EL] at TO
      have hmi : (m : Int) < (ps.length : Int) := by omega
      have HPM := Lib.hid hpm
      have DO := Lib.hid DO
      clear hi hin eps ef eE EL G hpm hm0
      go_enter Try.func54, Try.ntmps54
      go_wp2_with (first
        | (go_at_call 23; refine AC.out.mono ?_; rintro e w1 ⟨rfl, b1⟩; have B1 := nxt hb0 b1; have k0 := (b1.block w.heap.size (by have := HZ.out; omega)).trans K0.out; have k1 := (b1.block (w.heap.size + 1) (by have := HZ.out; omega)).trans K1.out; have z1 := b1.size; obtain ⟨d00, d01, -, -⟩ := cells2_of k0; clear b1)
        | (go_at_call 93; refine (HC.out _ B1).mono ?_; rintro e w2 ⟨rfl, b2⟩; have B2 := nxt B1 b2; have k0 := (b2.block w.heap.size (by have := HZ.out; omega)).trans k0; have k1 := (b2.block (w.heap.size + 1) (by have := HZ.out; omega)).trans k1; have z2 := b2.size; obtain ⟨e00, e01, -, -⟩ := cells2_of k0; clear b2)
        | (go_at_call 77; refine (DO.out _ B2).mono ?_; rintro e w3 ⟨s3, rfl, o3, b3⟩; have B3 := nxt B2 b3; have k1 := (b3.block (w.heap.size + 1) (by have := HZ.out; omega)).trans k1; have z3 := b3.size; obtain ⟨g, gc, rfl, hgc, hgm, hg3, -⟩ := o3.cap (by omega); have O3 := Lib.hid o3; clear b3 o3))
      have hbx := (Below.refl w3.heap.size w3).alloc (Nat.le_refl _) (.cells #[.int .i64 (N : Int), .slice (some ⟨g, 0, none⟩) ps.length gc] 68)
      have xb := heap_alloc_new w3 (.cells #[.int .i64 (N : Int), .slice (some ⟨g, 0, none⟩) ps.length gc] 68)
      have zx : w3.heap.size < (w3.alloc (.cells #[.int .i64 (N : Int), .slice (some ⟨g, 0, none⟩) ps.length gc] 68)).heap.size := by simp
      have hw2 : w.heap.size + 1 + 1 ≤ w2.heap.size := by have := HZ.out; omega
      have OX := O3.out.below hbx (Nat.le_refl _)
      have HB3 := Lib.hid (nxt B3 hbx)
      have kx := (hbx.block (w.heap.size + 1) (by omega)).trans k1
      clear B1 B2 B3 k0 k1 z1 z2 d00 d01 e00 e01 c00 c01 hb0 hbx O3
      go_loopw [22] (fun i wr => ∃ x : Nat, x ≤ N ∧ i = .int .i64 x ∧ Dk wr w2.heap.size (.slice (some ⟨g, 0, none⟩) ps.length gc) (ps.set m (ocF f x)) ∧ Below w.heap.size w wr ∧ wr.heap[w3.heap.size]? = some (.cells #[.int .i64 (N : Int), .slice (some ⟨g, 0, none⟩) ps.length gc] 68 (0, 0)) ∧ wr.heap[w.heap.size + 1]? = some (.cells #[.int .i64 0, .slice none 0 0] 27 (0, 0)) ∧ w3.heap.size < wr.heap.size) (fun i _ => N - (intOf i).toNat)
      case atStart => exact ⟨0, Nat.zero_le _, rfl, by rw [ocF_zero, set_self HPM.out]; exact OX, HB3.out, xb, kx, zx⟩
      case round =>
        clear OX xb zx kx
        obtain ⟨x, hx, rfl, ho, hb, hxb, hk1, hgt⟩ := hrel
        obtain ⟨c0, c1, -, -⟩ := cells2_of hxb
        by_cases hlt : x < N
        · have hps : (ps.set m (ocF f x))[m]? = some (ocF f x) := by rw [List.getElem?_set_self hm]
          have hln : (ps.set m (ocF f x)).length = ps.length := List.length_set
          obtain ⟨hcell, hfr, hBg⟩ := ho.cellL hps (j := x) (by omega) hln
          have HS := Lib.hid (fun b => ho.set hps (j := x) (by omega) hln b)
          have HF := Lib.hid (ocF_succ f x)
          obtain ⟨z, ez⟩ : ∃ z, ocF f x (x : Int) = z := ⟨_, rfl⟩
          rw [ez] at hcell HF
          have x1 : (x : Int) < 128 := by omega
          have x0 : (0 : Int) ≤ (x : Int) := by omega
          have m0 : (0 : Int) ≤ (m : Int) := by omega
          have gne : g ≠ w3.heap.size := by omega
          have HB := Lib.hid hb
          have HX := Lib.hid hxb
          have H1 := Lib.hid hk1
          clear ez ho hps hln hb hxb hk1
          go_wp2
          go_region_law (fail)
          all_goals
            have NX : Dk (wr.setCell ⟨g, m * 128 + x, none⟩ (.bool !z)) w2.heap.size (.slice (some ⟨g, 0, none⟩) ps.length gc) (ps.set m (ocF f (x + 1))) := by
              have h9 := HS.out (!z)
              rw [HF.out, List.set_set] at h9
              exact h9
            have BX := (HB.out.setCell (p := ⟨g, m * 128 + x, none⟩) (by show w.heap.size ≤ g; omega) (.bool !z)).drew
            have XX : (wr.setCell ⟨g, m * 128 + x, none⟩ (.bool !z)).heap[w3.heap.size]? = some (.cells #[.int .i64 (N : Int), .slice (some ⟨g, 0, none⟩) ps.length gc] 68 (0, 0)) := by rw [heap_setCell_other _ _ _ _ (by show w3.heap.size ≠ g; omega)]; exact HX.out
            have X1 : (wr.setCell ⟨g, m * 128 + x, none⟩ (.bool !z)).heap[w.heap.size + 1]? = some (.cells #[.int .i64 0, .slice none 0 0] 27 (0, 0)) := by rw [heap_setCell_other _ _ _ _ (by show w.heap.size + 1 ≠ g; omega)]; exact H1.out
            have NY := NX.below ((Below.refl _ _).drew) (Nat.le_refl _)
            clear c0 c1 hcell hfr NX
            first | go_roundw | (go_wp2; go_roundw)
            case rel => exact ⟨x + 1, by omega, by go_num, NY, BX, XX, X1, by simpa using hgt⟩
            case measure => simp only [intOf]; omega
        · have hke : x = N := by omega
          subst hke
          have HB := Lib.hid hb
          have HO := Lib.hid ho.dr
          have TT := TO.out _ _ ho.dr
          obtain ⟨fs, hfs⟩ := Try.cardsU
          clear ho hb hxb
          go_wp2_with (go_at_call 73; refine TT.mono ?_; rintro e w5 ⟨u5, rfl, o5, b5⟩; have B5 := nxt HB.out b5; have k1 := (b5.block (w.heap.size + 1) (by omega)).trans hk1; obtain ⟨c10, c11, f10, f11⟩ := cells2_of k1; obtain ⟨up, uc, rfl⟩ := o5.form; have O5 := Lib.hid o5; clear o5 b5)
          rw [DN.out, DR.out, DB.out]
          refine bodyPost_ret (v := .tuple #[.agg #[.int .i64 x, .slice up E.length uc], .bool true]) (results_twob rfl _ _ (w.heap.size + 1) _ _ fs rfl ?_ ?_ hfs Try.cardsI _ rfl) rfl ⟨_, rfl, ((O5.out.mono (show w.heap.size + 1 + 1 ≤ _ by omega) (Nat.le_refl _)).abv (((Abv.refl _ _).setCell (g := w.heap.size + 1) (by omega) 0 _).setCell (g := w.heap.size + 1) (by omega) 1 _)).mono (by omega) (by simp), (B5.setCell (p := ⟨w.heap.size + 1, 0, none⟩) (by show w.heap.size ≤ w.heap.size + 1; omega) _).setCell (p := ⟨w.heap.size + 1, 1, none⟩) (by show w.heap.size ≤ w.heap.size + 1; omega) _⟩
          · simp [World.cell?_setCell_other, World.cell?_setCell_same, go_sem, c10]
          · simp [World.cell?_setCell_other, World.cell?_setCell_same, go_sem, c11]
end Go.Proofs.Ytpolobjlihhjbaa
