/-
  AddCard in the program, by contract. No condition but lengths that fit int.
-/
import Derived.Test.YtcgifmoddojnmabQcb
import Derived.Test.YtcgifmoddojnmabQh
import Derived.Test.YtcgifmoddojnmabKgn
import Derived.Test.YtcgifmoddojnmabKga
import Derived.Test.YtcgifmoddojnmabCat4
import Derived.Deep.RegionWith
import Derived.BigRegion
import Derived.IntWalk
import Derived.Lib.OthersKept
import Derived.WalkSmall
import Derived.Test.YtcgifmoddojnmabWst4
import Derived.Test.YtcgifmoddojnmabKgp
import Derived.Test.YtcgifmoddojnmabKgr
namespace Go.Proofs.Ytcgifmoddojnmab
open Go.RowKit

set_option maxHeartbeats 8000000 in
set_option maxRecDepth 100000 in
theorem implAddCard_any (n : Int) (v : Value) (Ls : List (List Int)) (y : Value) (ys : List Int) (w : World) (h : Svv w v Ls) (hl : Ls.length ≤ 1099511627776) (hx : ∀ j, j < Ls.length → (rowL Ls j).length ≤ 1099511627776) (hy : Sv w y ys) (yl : ys.length ≤ 1099511627776) :
    Calls Try.prog 17 #[.agg #[.int .i64 n, v], y] w fun e w' => ∃ u, e = .returned (.tuple #[.agg #[.int .i64 (acN n Ls ys), u], .bool (acB n Ls ys)]) ∧ Owa w' w.heap.size w'.heap.size u (acR n Ls ys) ∧ Below w.heap.size w w' := by
  obtain ⟨p, cap, rfl⟩ := svv_form h
  obtain ⟨yp, yc, rfl⟩ : ∃ yp yc, y = .slice yp ys.length yc := by obtain ⟨yp, yc, e, _⟩ := hy; exact ⟨yp, yc, e⟩
  obtain ⟨W, eW⟩ : ∃ W, (w.alloc (.cells #[.int .i64 n, .slice p Ls.length cap] 24)).alloc (.cells #[.int .i64 0, .slice none 0 0] 24) = W := ⟨_, rfl⟩
  have hb0 : Below w.heap.size w W := by rw [← eW]; exact pairW
  have HZ : Hid (W.heap.size = w.heap.size + 1 + 1) := Lib.hid (by rw [← eW]; simp)
  have k0 : W.heap[w.heap.size]? = some (.cells #[.int .i64 n, .slice p Ls.length cap] 24 (0, 0)) := by rw [← eW]; exact blk_a _ _ _
  have k1 : W.heap[w.heap.size + 1]? = some (.cells #[.int .i64 0, .slice none 0 0] 24 (0, 0)) := by rw [← eW]; exact blk_b _ _ _
  have CG := implAreCards_any n _ Ls _ (h.below hb0 (Nat.le_refl _)) hl hx
  have LR := fun (hn : n ≤ 1099511627776) => Lib.hid (fun (W' : World) (hb : Below w.heap.size w W') => areSomeOf_any _ ys n W' (hy.below hb (Nat.le_refl _)) yl hn)
  have K0 := Lib.hid k0
  have K1 := Lib.hid k1
  have H := Lib.hid h
  have HY := Lib.hid hy
  obtain ⟨c00, c01, -, -⟩ := cells2_of k0
  have DB : Hid (acB n Ls ys = (caB n Ls && (!((Ls.length : Int) == 12) && risB ys 0 (n - 1)))) := Lib.hid rfl
  have DN : Hid (acN n Ls ys = if acB n Ls ys = true then n else 0) := Lib.hid rfl
  have DR : Hid (acR n Ls ys = if acB n Ls ys = true then Ls ++ [ys] else []) := Lib.hid rfl
  rw [DB.out] at DN DR
  clear h hx k0 k1 hy
  cases hg : caB n Ls with
  | false =>
    rw [hg] at CG DB DN DR
    have CG := Lib.hid CG
    clear hg LR
    go_enter Try.func17, Try.ntmps17
    go_wp2_with (go_at_call 37; refine CG.out.mono ?_; rintro e w1 ⟨rfl, b1⟩; have B1 := nxt hb0 b1; have k0 := (b1.block w.heap.size (by have := HZ.out; omega)).trans K0.out; have k1 := (b1.block (w.heap.size + 1) (by have := HZ.out; omega)).trans K1.out; have z1 := b1.size; obtain ⟨d00, d01, -, -⟩ := cells2_of k0; obtain ⟨c10, c11, f10, f11⟩ := cells2_of k1; clear b1)
    obtain ⟨fs, hfs⟩ := Try.cardsU
    rw [DN.out, DR.out, DB.out]
    refine bodyPost_ret (v := .tuple #[.agg #[.int .i64 0, .slice none 0 0], .bool false]) (results_twob rfl _ _ (w.heap.size + 1) _ _ fs rfl ?_ ?_ hfs Try.cardsI _ rfl) rfl ⟨_, rfl, Owa.nil _ _ _, (B1.setCell (p := ⟨w.heap.size + 1, 0, none⟩) (by show w.heap.size ≤ w.heap.size + 1; omega) _).setCell (p := ⟨w.heap.size + 1, 1, none⟩) (by show w.heap.size ≤ w.heap.size + 1; omega) _⟩
    · simp [World.cell?_setCell_other, World.cell?_setCell_same, go_sem, c10]
    · simp [World.cell?_setCell_other, World.cell?_setCell_same, go_sem, c11]
  | true =>
    rw [hg] at CG DB DN DR
    have CG := Lib.hid CG
    have G := caB_iff.1 hg
    have hlo := G.lo
    have hhi := G.hi
    have hl12 := G.len
    have LR := LR (by omega)
    clear hg
    cases hr : risB ys 0 (n - 1) with
    | false =>
      rw [hr] at DB DN DR LR
      rw [Bool.and_false, Bool.and_false] at DB DN DR
      clear hr G
      go_enter Try.func17, Try.ntmps17
      go_wp2_with (first
        | (go_at_call 37; refine CG.out.mono ?_; rintro e w1 ⟨rfl, b1⟩; have B1 := nxt hb0 b1; have k0 := (b1.block w.heap.size (by have := HZ.out; omega)).trans K0.out; have k1 := (b1.block (w.heap.size + 1) (by have := HZ.out; omega)).trans K1.out; have z1 := b1.size; obtain ⟨d00, d01, -, -⟩ := cells2_of k0; obtain ⟨c10, c11, f10, f11⟩ := cells2_of k1; clear b1)
        | (go_at_call 38; refine (LR.out _ B1).mono ?_; rintro e w2 ⟨rfl, rfl⟩))
      obtain ⟨fs, hfs⟩ := Try.cardsU
      rw [DN.out, DR.out, DB.out]
      refine bodyPost_ret (v := .tuple #[.agg #[.int .i64 0, .slice none 0 0], .bool false]) (results_twob rfl _ _ (w.heap.size + 1) _ _ fs rfl ?_ ?_ hfs Try.cardsI _ rfl) rfl ⟨_, rfl, Owa.nil _ _ _, (B1.setCell (p := ⟨w.heap.size + 1, 0, none⟩) (by show w.heap.size ≤ w.heap.size + 1; omega) _).setCell (p := ⟨w.heap.size + 1, 1, none⟩) (by show w.heap.size ≤ w.heap.size + 1; omega) _⟩
      · simp [World.cell?_setCell_other, World.cell?_setCell_same, go_sem, c10]
      · simp [World.cell?_setCell_other, World.cell?_setCell_same, go_sem, c11]
    | true =>
      rw [hr] at DB DN DR LR
      by_cases h12 : (Ls.length : Int) = 12
      · have e12 : ((Ls.length : Int) == 12) = true := by simpa using h12
        rw [e12] at DB DN DR
        clear h12 G
        go_enter Try.func17, Try.ntmps17
        go_wp2_with (first
          | (go_at_call 37; refine CG.out.mono ?_; rintro e w1 ⟨rfl, b1⟩; have B1 := nxt hb0 b1; have k0 := (b1.block w.heap.size (by have := HZ.out; omega)).trans K0.out; have k1 := (b1.block (w.heap.size + 1) (by have := HZ.out; omega)).trans K1.out; have z1 := b1.size; obtain ⟨d00, d01, -, -⟩ := cells2_of k0; obtain ⟨c10, c11, f10, f11⟩ := cells2_of k1; clear b1)
          | (go_at_call 38; refine (LR.out _ B1).mono ?_; rintro e w2 ⟨rfl, rfl⟩))
        obtain ⟨fs, hfs⟩ := Try.cardsU
        rw [DN.out, DR.out, DB.out]
        refine bodyPost_ret (v := .tuple #[.agg #[.int .i64 0, .slice none 0 0], .bool false]) (results_twob rfl _ _ (w.heap.size + 1) _ _ fs rfl ?_ ?_ hfs Try.cardsI _ rfl) rfl ⟨_, rfl, Owa.nil _ _ _, (B1.setCell (p := ⟨w.heap.size + 1, 0, none⟩) (by show w.heap.size ≤ w.heap.size + 1; omega) _).setCell (p := ⟨w.heap.size + 1, 1, none⟩) (by show w.heap.size ≤ w.heap.size + 1; omega) _⟩
        · simp [World.cell?_setCell_other, World.cell?_setCell_same, go_sem, c10]
        · simp [World.cell?_setCell_other, World.cell?_setCell_same, go_sem, c11]
      · have e12 : ((Ls.length : Int) == 12) = false := by simpa using h12
        rw [e12] at DB DN DR
        have hris := risB_iff.1 hr
        have DO := Lib.hid (fun (W : World) (hb : Below w.heap.size w W) => deckOf_any n _ Ls W (H.out.below hb (Nat.le_refl _)) G)
        have EL : (Ls.map inL ++ [inL ys]).map sL = Ls ++ [ys] := by
          rw [List.map_append, G.lists]
          have e9 : sL (inL ys) = ys := sL_inL hris (by omega)
          simp [e9]
        have hpl := map_len Ls
        have CW := fun (W' : World) (bw : Below w.heap.size w W') => cardWith_any _ ys W' (HY.out.below bw (Nat.le_refl _)) (fun j hj => by have := hris.1 j hj; exact ⟨this.1, by have := this.2; omega⟩) yl
        obtain ⟨P, eP⟩ : ∃ P, inL ys = P := ⟨_, rfl⟩
        obtain ⟨ps, eps⟩ : ∃ ps, Ls.map inL = ps := ⟨_, rfl⟩
        rw [eP] at CW EL
        rw [eps] at DO EL hpl
        have CO := Lib.hid (fun W' => crd_one W' P)
        have HC : (bA P).size = 128 := bA_size P
        obtain ⟨C, eC⟩ : ∃ C, bA P = C := ⟨_, rfl⟩
        rw [eC] at CW CO HC
        have HF := fold_card HC
        have CW := Lib.hid CW
        have hps : ps.length ≤ 12 := by omega
        obtain ⟨Z, eZ⟩ : ∃ Z, ps ++ [P] = Z := ⟨_, rfl⟩
        have hz12 : Z.length ≤ 12 := by rw [← eZ, List.length_append, List.length_singleton]; omega
        obtain ⟨E, eE⟩ : ∃ E, Ls ++ [ys] = E := ⟨_, rfl⟩
        rw [eZ, eE] at EL
        rw [eE] at DR
        have TO := Lib.hid (fun (u : Value) (W' : World) (hd : Dr W' u Z) => told_any n u Z W' hd hz12)
        rw [EL] at TO
        have EZ := Lib.hid eZ
        clear hr h12 G hris eP eps eC eZ hz12 eE EL hpl
        go_enter Try.func17, Try.ntmps17
        go_wp2_with (first
          | (go_at_call 37; refine CG.out.mono ?_; rintro e w1 ⟨rfl, b1⟩; have B1 := nxt hb0 b1; have k0 := (b1.block w.heap.size (by have := HZ.out; omega)).trans K0.out; have k1 := (b1.block (w.heap.size + 1) (by have := HZ.out; omega)).trans K1.out; have z1 := b1.size; obtain ⟨d00, d01, -, -⟩ := cells2_of k0; obtain ⟨c10, c11, f10, f11⟩ := cells2_of k1; clear b1)
          | (go_at_call 38; refine (LR.out _ B1).mono ?_; rintro e w2 ⟨rfl, rfl⟩)
          | (go_at_call 39; refine (DO.out _ B1).mono ?_; rintro e w3 ⟨u, rfl, o3, b3⟩; have B3 := nxt B1 b3; have z3 := b3.size; have k1 := (b3.block (w.heap.size + 1) (by have := HZ.out; omega)).trans k1; obtain ⟨sp, sc, rfl⟩ := o3.form; have O3 := Lib.hid o3; clear b3 o3 c10 c11 f10 f11))
        obtain ⟨X, eX⟩ : ∃ X, w3.alloc (.cells #[.int .i64 n, .slice sp ps.length sc] 44) = X := ⟨_, rfl⟩
        have hX : Below w3.heap.size w3 X := by rw [← eX]; exact (Below.refl _ _).alloc (Nat.le_refl _) _
        have zX : w3.heap.size < X.heap.size := by rw [← eX]; simp
        have kx : X.heap[w3.heap.size]? = some (.cells #[.int .i64 n, .slice sp ps.length sc] 44 (0, 0)) := by rw [← eX]; exact heap_alloc_new w3 _
        have kr := (hX.block (w.heap.size + 1) (by have := HZ.out; omega)).trans k1
        rw [eX]
        have HD := Lib.hid (O3.out.below hX (Nat.le_refl _))
        have OB := Lib.hid (fun k hk => (World.ownsRow.lt O3.out k hk).2)
        have hw1 : w.heap.size + 1 + 1 ≤ w1.heap.size := by have := HZ.out; omega
        have HBX := Lib.hid (nxt B3 hX)
        have KR := Lib.hid kr
        have H2 := Lib.hid kx
        obtain ⟨c20, c21, f20, f21⟩ := cells2_of kx
        clear eX hX kx kr k0 k1 B1 B3 d00 d01 c00 c01 hb0
        go_region_law (first
          | (go_simp; go_at_call 40; refine (CW.out _ (HBX.out.drew)).mono ?_; rintro e w5 ⟨rfl, b1⟩; have B5 : Below X.heap.size X w5 := (Below.refl _ _).drew.trans b1; have z5 := B5.size; have D1 := HD.out.below B5 (Nat.le_refl _); have K2 := (B5.block w3.heap.size zX).trans H2.out; obtain ⟨e20, e21, g20, g21⟩ := cells2_of K2; have K2A : (w5.alloc (.cells C 58)).heap[w3.heap.size]? = _ := (heap_alloc_old _ _ (by omega)).trans K2; obtain ⟨r20, r21, -, -⟩ := cells2_of K2A; clear b1)
          | (refine step_append_card rfl (.tmp 27) (.tmp 30) rfl w1.heap.size (.slice sp ps.length sc) ps rfl (by exact D1.alloc _) _ [P] rfl (by exact CO.out w5) (by simp; omega) (by simp; omega) ?_; intro v3 w6 h3 g3; rw [EZ.out] at h3; have K3 := (g3.block w3.heap.size (by simp; omega) (fun e => by have := OB.out _ e.symm; omega)).trans ((heap_alloc_old _ _ (by omega)).trans K2); obtain ⟨i20, i21, j20, j21⟩ := cells2_of K3; obtain ⟨vp, vc, rfl⟩ := h3.form))
        all_goals
          have b3 : Below w1.heap.size w5 w6 := ((Below.refl _ w5).alloc (by omega) _).trans ((D1.alloc _).grown (by simp; omega) g3)
          obtain ⟨W7, e7⟩ : ∃ W7, w6.setCell ⟨w3.heap.size, 1, none⟩ (.slice vp Z.length vc) = W7 := ⟨_, rfl⟩
          have q2 : W7.heap[w3.heap.size]? = some (.cells #[.int .i64 n, .slice vp Z.length vc] 44 (0, 0)) := by rw [← e7]; exact pair2_set K3 _
          have b6 : Below w.heap.size w w6 := (nxt HBX.out B5).trans (b3.mono (by omega))
          have HB7 : Hid (Below w.heap.size w W7) := Lib.hid (by rw [← e7]; exact b6.setCell (p := ⟨w3.heap.size, 1, none⟩) (by show w.heap.size ≤ w3.heap.size; omega) _)
          have kr6 := (b3.block (w.heap.size + 1) (by omega)).trans ((B5.block (w.heap.size + 1) (by omega)).trans KR.out)
          have kr7 : W7.heap[w.heap.size + 1]? = some (.cells #[.int .i64 0, .slice none 0 0] 24 (0, 0)) := by rw [← e7, heap_setCell_other _ _ _ _ (by show w.heap.size + 1 ≠ w3.heap.size; omega)]; exact kr6
          have h7 : Dk W7 w1.heap.size (.slice vp Z.length vc) Z := by rw [← e7]; exact owns_far h3 K3 (by decide) 1 _
          have z7 : w.heap.size + 1 < W7.heap.size := (Array.getElem?_eq_some_iff.1 kr7).1
          rw [e7]
          obtain ⟨x20, x21, -, -⟩ := cells2_of q2
          have TT := TO.out _ _ h7.dr
          have KR7 := Lib.hid kr7
          obtain ⟨fs, hfs⟩ := Try.cardsU
          clear e7 q2 b6 kr6 kr7 h7 h3 b3 g3 K3 K2 K2A D1 B5 e20 e21 g20 g21 r20 r21 c20 c21 f20 f21 i20 i21 j20 j21 HD H2 OB CW CO HC HF
          go_wp2_with (go_at_call 25; refine TT.mono ?_; rintro e w8 ⟨u5, rfl, o5, b5⟩; have B8 := nxt HB7.out b5; have k8 := (b5.block (w.heap.size + 1) z7).trans KR7.out; obtain ⟨c10, c11, f10, f11⟩ := cells2_of k8; obtain ⟨up, uc, rfl⟩ := o5.form; have O5 := Lib.hid o5; clear o5 b5)
          rw [DN.out, DR.out, DB.out]
          refine bodyPost_ret (v := .tuple #[.agg #[.int .i64 n, .slice up E.length uc], .bool true]) (results_twob rfl _ _ (w.heap.size + 1) _ _ fs rfl ?_ ?_ hfs Try.cardsI _ rfl) rfl ⟨_, rfl, ((O5.out.mono (show w.heap.size + 1 + 1 ≤ _ by omega) (Nat.le_refl _)).abv (((Abv.refl _ _).setCell (g := w.heap.size + 1) (by omega) 0 _).setCell (g := w.heap.size + 1) (by omega) 1 _)).mono (by omega) (by simp), (B8.setCell (p := ⟨w.heap.size + 1, 0, none⟩) (by show w.heap.size ≤ w.heap.size + 1; omega) _).setCell (p := ⟨w.heap.size + 1, 1, none⟩) (by show w.heap.size ≤ w.heap.size + 1; omega) _⟩
          · simp [World.cell?_setCell_other, World.cell?_setCell_same, go_sem, c10]
          · simp [World.cell?_setCell_other, World.cell?_setCell_same, go_sem, c11]
end Go.Proofs.Ytcgifmoddojnmab
