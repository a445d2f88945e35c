/-
  DropCard in the program, by contract. No condition but lengths that fit int.
-/
import Derived.Test.YtpolobjlihhjbaaQn
import Derived.Test.YtpolobjlihhjbaaKgp
namespace Go.Proofs.Ytpolobjlihhjbaa
open Go.RowKit

set_option maxHeartbeats 4000000 in
set_option maxRecDepth 100000 in
theorem implDropCard_any (n : Int) (v : Value) (Ls : List (List Int)) (k : Int) (w : World) (h : Svv w v Ls) (hl : Ls.length ≤ 1099511627776) (hx : ∀ j, j < Ls.length → (rowL Ls j).length ≤ 1099511627776) :
    Calls Try.prog 49 #[.agg #[.int .i64 n, v], .int .i64 k] w fun e w' => ∃ u, e = .returned (.tuple #[.agg #[.int .i64 (dcN n Ls k), u], .bool (dcB n Ls k)]) ∧ Owa w' w.heap.size w'.heap.size u (dcR n Ls k) ∧ Below w.heap.size w w' := by
  obtain ⟨p, cap, rfl⟩ := svv_form h
  obtain ⟨W, eW⟩ : ∃ W, (w.alloc (.cells #[.int .i64 n, .slice p Ls.length cap] 27)).alloc (.cells #[.int .i64 0, .slice none 0 0] 27) = W := ⟨_, rfl⟩
  have hb0 : Below w.heap.size w W := by rw [← eW]; exact pairW
  have HZ : Hid (W.heap.size = w.heap.size + 1 + 1) := Lib.hid (by rw [← eW]; simp)
  have k0 : W.heap[w.heap.size]? = some (.cells #[.int .i64 n, .slice p Ls.length cap] 27 (0, 0)) := by rw [← eW]; exact blk_a _ _ _
  have k1 : W.heap[w.heap.size + 1]? = some (.cells #[.int .i64 0, .slice none 0 0] 27 (0, 0)) := by rw [← eW]; exact blk_b _ _ _
  have AC := implAreCards_any n _ Ls _ (h.below hb0 (Nat.le_refl _)) hl hx
  have HC := Lib.hid (fun (W' : World) (hb : Below w.heap.size w W') => hasCard_any n k _ Ls W' (h.below hb (Nat.le_refl _)))
  have K0 := Lib.hid k0
  have K1 := Lib.hid k1
  have H := Lib.hid h
  obtain ⟨c00, c01, -, -⟩ := cells2_of k0
  have DB : Hid (dcB n Ls k = (caB n Ls && inB k 0 (Ls.length - 1))) := Lib.hid rfl
  have DN : Hid (dcN n Ls k = if dcB n Ls k = true then n else 0) := Lib.hid rfl
  have DR : Hid (dcR n Ls k = if dcB n Ls k = true then Ls.eraseIdx k.toNat else []) := Lib.hid rfl
  rw [DB.out] at DN DR
  clear h hx k0 k1
  cases hg : caB n Ls with
  | false =>
    rw [hg] at AC DB DN DR
    have AC := Lib.hid AC
    clear hg HC
    go_enter Try.func49, Try.ntmps49
    go_wp2_with (go_at_call 23; refine AC.out.mono ?_; rintro e w1 ⟨rfl, b1⟩; have B1 := nxt hb0 b1; have k1 := (b1.block (w.heap.size + 1) (by have := HZ.out; omega)).trans K1.out; obtain ⟨c10, c11, f10, f11⟩ := cells2_of k1; clear b1 k1)
    obtain ⟨fs, hfs⟩ := Try.cardsU
    rw [DN.out, DR.out, DB.out]
    refine bodyPost_ret (v := .tuple #[.agg #[.int .i64 0, .slice none 0 0], .bool false]) (results_twob rfl _ _ (w.heap.size + 1) _ _ fs rfl ?_ ?_ hfs Try.cardsI _ rfl) rfl ⟨_, rfl, Owa.nil _ _ _, (B1.setCell (p := ⟨w.heap.size + 1, 0, none⟩) (by show w.heap.size ≤ w.heap.size + 1; omega) _).setCell (p := ⟨w.heap.size + 1, 1, none⟩) (by show w.heap.size ≤ w.heap.size + 1; omega) _⟩
    · simp [World.cell?_setCell_other, World.cell?_setCell_same, go_sem, c10]
    · simp [World.cell?_setCell_other, World.cell?_setCell_same, go_sem, c11]
  | true =>
    rw [hg] at AC DB DN DR
    have AC := Lib.hid AC
    have G := caB_iff.1 hg
    clear hg
    cases hi : inB k 0 (Ls.length - 1) with
    | false =>
      rw [hi] at HC DB DN DR
      clear hi
      go_enter Try.func49, Try.ntmps49
      go_wp2_with (first
        | (go_at_call 23; refine AC.out.mono ?_; rintro e w1 ⟨rfl, b1⟩; have B1 := nxt hb0 b1; have k0 := (b1.block w.heap.size (by have := HZ.out; omega)).trans K0.out; have k1 := (b1.block (w.heap.size + 1) (by have := HZ.out; omega)).trans K1.out; have z1 := b1.size; obtain ⟨d00, d01, -, -⟩ := cells2_of k0; clear b1)
        | (go_at_call 93; refine (HC.out _ B1).mono ?_; rintro e w2 ⟨rfl, b2⟩; have B2 := nxt B1 b2; have k1 := (b2.block (w.heap.size + 1) (by have := HZ.out; omega)).trans k1; obtain ⟨c10, c11, f10, f11⟩ := cells2_of k1; clear b2))
      obtain ⟨fs, hfs⟩ := Try.cardsU
      rw [DN.out, DR.out, DB.out]
      refine bodyPost_ret (v := .tuple #[.agg #[.int .i64 0, .slice none 0 0], .bool false]) (results_twob rfl _ _ (w.heap.size + 1) _ _ fs rfl ?_ ?_ hfs Try.cardsI _ rfl) rfl ⟨_, rfl, Owa.nil _ _ _, (B2.setCell (p := ⟨w.heap.size + 1, 0, none⟩) (by show w.heap.size ≤ w.heap.size + 1; omega) _).setCell (p := ⟨w.heap.size + 1, 1, none⟩) (by show w.heap.size ≤ w.heap.size + 1; omega) _⟩
      · simp [World.cell?_setCell_other, World.cell?_setCell_same, go_sem, c10]
      · simp [World.cell?_setCell_other, World.cell?_setCell_same, go_sem, c11]
    | true =>
      rw [hi] at HC DB DN DR
      have hin := inB_iff.1 hi
      obtain ⟨m, rfl⟩ : ∃ m : Nat, k = m := ⟨k.toNat, by omega⟩
      have hm : m < (Ls.map inL).length := by rw [map_len]; omega
      have hl12 : (Ls.map inL).length ≤ 12 := by rw [map_len]; exact G.len
      have DO := fun (W : World) (hb : Below w.heap.size w W) => deckOf_any n _ Ls W (H.out.below hb (Nat.le_refl _)) G
      have EL : ((Ls.map inL).eraseIdx m).map sL = Ls.eraseIdx m := by rw [erase_in]; exact (G.erase m).lists
      have hle : ((Ls.map inL).eraseIdx m).length ≤ 12 := by rw [List.length_eraseIdx_of_lt hm]; omega
      obtain ⟨ps, eps⟩ : ∃ ps, Ls.map inL = ps := ⟨_, rfl⟩
      rw [eps] at hm hl12 DO EL hle
      have WO := Lib.hid (fun (u : Value) (B : Nat) (W' : World) (hd : Dk W' B u ps) => without_any n u ps m B W' hd hm hl12)
      obtain ⟨qs, eqs⟩ : ∃ qs, ps.eraseIdx m = qs := ⟨_, rfl⟩
      rw [eqs] at WO EL hle
      have TO := Lib.hid (fun (u : Value) (W' : World) (hd : Dr W' u qs) => told_any n u qs W' hd hle)
      obtain ⟨E, eE⟩ : ∃ E, Ls.eraseIdx m = E := ⟨_, rfl⟩
      rw [show Ls.eraseIdx (m : Int).toNat = Ls.eraseIdx m from rfl, eE] at DR
      rw [eE] at EL
      rw [EL] at TO
      have DO := Lib.hid DO
      clear hi hin eps eqs eE EL hm hl12 hle G
      go_enter Try.func49, Try.ntmps49
      go_wp2_with (first
        | (go_at_call 23; refine AC.out.mono ?_; rintro e w1 ⟨rfl, b1⟩; have B1 := nxt hb0 b1; have k0 := (b1.block w.heap.size (by have := HZ.out; omega)).trans K0.out; have k1 := (b1.block (w.heap.size + 1) (by have := HZ.out; omega)).trans K1.out; have z1 := b1.size; obtain ⟨d00, d01, -, -⟩ := cells2_of k0; clear b1)
        | (go_at_call 93; refine (HC.out _ B1).mono ?_; rintro e w2 ⟨rfl, b2⟩; have B2 := nxt B1 b2; have k0 := (b2.block w.heap.size (by have := HZ.out; omega)).trans k0; have k1 := (b2.block (w.heap.size + 1) (by have := HZ.out; omega)).trans k1; have z2 := b2.size; obtain ⟨e00, e01, -, -⟩ := cells2_of k0; clear b2)
        | (go_at_call 77; refine (DO.out _ B2).mono ?_; rintro e w3 ⟨s3, rfl, o3, b3⟩; have B3 := nxt B2 b3; have k1 := (b3.block (w.heap.size + 1) (by have := HZ.out; omega)).trans k1; have z3 := b3.size; clear b3)
        | (go_at_call 94; refine (WO.out _ _ _ o3).mono ?_; rintro e w4 ⟨s4, rfl, o4, b4⟩; have o4 := o4.dr; have B4 := nxt B3 b4; have k1 := (b4.block (w.heap.size + 1) (by have := HZ.out; omega)).trans k1; have z4 := b4.size; clear b4 o3)
        | (go_at_call 73; refine (TO.out _ _ o4).mono ?_; rintro e w5 ⟨u5, rfl, o5, b5⟩; have B5 := nxt B4 b5; have k1 := (b5.block (w.heap.size + 1) (by have := HZ.out; omega)).trans k1; obtain ⟨c10, c11, f10, f11⟩ := cells2_of k1; obtain ⟨up, uc, rfl⟩ := o5.form; have O5 := Lib.hid o5; clear o5 o4 b5))
      obtain ⟨fs, hfs⟩ := Try.cardsU
      rw [DN.out, DR.out, DB.out]
      refine bodyPost_ret (v := .tuple #[.agg #[.int .i64 n, .slice up E.length uc], .bool true]) (results_twob rfl _ _ (w.heap.size + 1) _ _ fs rfl ?_ ?_ hfs Try.cardsI _ rfl) rfl ⟨_, rfl, ((O5.out.mono (show w.heap.size + 1 + 1 ≤ _ by have := HZ.out; omega) (Nat.le_refl _)).abv (((Abv.refl _ _).setCell (g := w.heap.size + 1) (by omega) 0 _).setCell (g := w.heap.size + 1) (by omega) 1 _)).mono (by omega) (by simp), (B5.setCell (p := ⟨w.heap.size + 1, 0, none⟩) (by show w.heap.size ≤ w.heap.size + 1; omega) _).setCell (p := ⟨w.heap.size + 1, 1, none⟩) (by show w.heap.size ≤ w.heap.size + 1; omega) _⟩
      · simp [World.cell?_setCell_other, World.cell?_setCell_same, go_sem, c10]
      · simp [World.cell?_setCell_other, World.cell?_setCell_same, go_sem, c11]
end Go.Proofs.Ytpolobjlihhjbaa
