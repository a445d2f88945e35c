/-
  AddCard in the model, by contract. No condition but lengths that fit int.
-/
import Derived.Test.YtcgifmoddojnmabKgq
namespace Go.Proofs.Ytcgifmoddojnmab
open Go.RowKit

noncomputable def acB (n : Int) (Ls : List (List Int)) (ys : List Int) : Bool := caB n Ls && (!((Ls.length : Int) == 12) && risB ys 0 (n - 1))
noncomputable def acN (n : Int) (Ls : List (List Int)) (ys : List Int) : Int := if acB n Ls ys = true then n else 0
noncomputable def acR (n : Int) (Ls : List (List Int)) (ys : List Int) : List (List Int) := if acB n Ls ys = true then Ls ++ [ys] else []

theorem owns_far {w : World} {B e sz n : Nat} {v : Value} {xs : List Value} (h : w.ownsRow B e sz v n xs) {g : Nat} {cur : Array Value} {t : TypeId} (hg : w.heap[g]? = some (.cells cur t (0, 0))) (ht : t ≠ e) (i : Nat) (x : Value) : (w.setCell ⟨g, i, none⟩ x).ownsRow B e sz v n xs := by
  obtain ⟨h1, h2⟩ := h
  refine ⟨h1, ?_⟩
  rcases h2 with h2 | ⟨q, cap, c, hv, hq, hh, r⟩
  · exact .inl h2
  · refine .inr ⟨q, cap, c, hv, hq, ?_, r⟩
    rw [heap_setCell_other _ _ _ _ (by intro e2; subst e2; rw [hg] at hh; simp at hh; exact ht hh.2)]
    exact hh
theorem Owa.far {w : World} {B D : Nat} {v : Value} {pl : List (List Int)} (h : Owa w B D v pl) {g : Nat} {cur : Array Value} (hg : w.heap[g]? = some (.cells cur 24 (0, 0))) (i : Nat) (x : Value) : Owa (w.setCell ⟨g, i, none⟩ x) B D v pl := by
  obtain ⟨vals, h⟩ := h
  exact ⟨vals, owns_far h.out hg (by decide) i x, fun j hj => owns_far (h.row j hj) hg (by decide) i x, h.sep, h.low⟩

set_option maxHeartbeats 8000000 in
set_option maxRecDepth 100000 in
theorem specAddCard_any (n : Int) (v y : Value) (Ls : List (List Int)) (ys : List Int) (w : World) (h : SrcL w v Ls) (hl : Ls.length ≤ 1099511627776) (hx : ∀ j, j < Ls.length → (rowL Ls j).length ≤ 1099511627776) (hy : Src w y ys) (yl : ys.length ≤ 1099511627776) :
    Calls Try.prog 14 #[.agg #[.int .i64 n, v], y] w fun e w' => ∃ u, e = .returned (.tuple #[.agg #[.int .i64 (acN n Ls ys), u], .bool (acB n Ls ys)]) ∧ Svv w' u (acR n Ls ys) ∧ Below w.heap.size w w' := by
  obtain ⟨p, cap, rfl⟩ := svv_form h.svv
  obtain ⟨yp, yc, rfl⟩ : ∃ yp yc, y = .slice yp ys.length yc := by obtain ⟨yp, yc, e, _⟩ := hy.sv; exact ⟨yp, yc, e⟩
  obtain ⟨W, eW⟩ : ∃ W, (w.alloc (.cells #[.int .i64 n, .slice p Ls.length cap] 24)).alloc (.cells #[.int .i64 0, .slice none 0 0] 24) = W := ⟨_, rfl⟩
  have hb0 : Below w.heap.size w W := by rw [← eW]; exact pairW
  have HZ : Hid (W.heap.size = w.heap.size + 1 + 1) := Lib.hid (by rw [← eW]; simp)
  have k0 : W.heap[w.heap.size]? = some (.cells #[.int .i64 n, .slice p Ls.length cap] 24 (0, 0)) := by rw [← eW]; exact blk_a _ _ _
  have k1 : W.heap[w.heap.size + 1]? = some (.cells #[.int .i64 0, .slice none 0 0] 24 (0, 0)) := by rw [← eW]; exact blk_b _ _ _
  have CG := caGood_any n _ Ls _ (h.svv.below hb0 (Nat.le_refl _)) hl hx
  have LR := Lib.hid (fun (W' : World) (hb : Below w.heap.size w W') => l1Rising_any _ ys 0 (n - 1) W' (hy.sv.below hb (Nat.le_refl _)) yl)
  have K0 := Lib.hid k0
  have K1 := Lib.hid k1
  have H := Lib.hid h
  have HY := Lib.hid hy
  obtain ⟨c00, c01, -, -⟩ := cells2_of k0
  have DB : Hid (acB n Ls ys = (caB n Ls && (!((Ls.length : Int) == 12) && risB ys 0 (n - 1)))) := Lib.hid rfl
  have DN : Hid (acN n Ls ys = if acB n Ls ys = true then n else 0) := Lib.hid rfl
  have DR : Hid (acR n Ls ys = if acB n Ls ys = true then Ls ++ [ys] else []) := Lib.hid rfl
  rw [DB.out] at DN DR
  clear h hx k0 k1 hy
  cases hg : caB n Ls with
  | false =>
    rw [hg] at CG DB DN DR
    have CG := Lib.hid CG
    clear hg LR
    go_enter Try.func14, Try.ntmps14
    go_wp2_with (go_at_call 32; refine CG.out.mono ?_; rintro e w1 ⟨rfl, b1⟩; have B1 := nxt hb0 b1; have k0 := (b1.block w.heap.size (by have := HZ.out; omega)).trans K0.out; have k1 := (b1.block (w.heap.size + 1) (by have := HZ.out; omega)).trans K1.out; have z1 := b1.size; obtain ⟨d00, d01, -, -⟩ := cells2_of k0; obtain ⟨c10, c11, f10, f11⟩ := cells2_of k1; clear b1)
    obtain ⟨fs, hfs⟩ := Try.cardsU
    rw [DN.out, DR.out, DB.out]
    refine bodyPost_ret (v := .tuple #[.agg #[.int .i64 0, .slice none 0 0], .bool false]) (results_twob rfl _ _ (w.heap.size + 1) _ _ fs rfl ?_ ?_ hfs Try.cardsI _ rfl) rfl ⟨_, rfl, (Owa.nil _ 0 0).svv, (B1.setCell (p := ⟨w.heap.size + 1, 0, none⟩) (by show w.heap.size ≤ w.heap.size + 1; omega) _).setCell (p := ⟨w.heap.size + 1, 1, none⟩) (by show w.heap.size ≤ w.heap.size + 1; omega) _⟩
    · simp [World.cell?_setCell_other, World.cell?_setCell_same, go_sem, c10]
    · simp [World.cell?_setCell_other, World.cell?_setCell_same, go_sem, c11]
  | true =>
    rw [hg] at CG DB DN DR
    have CG := Lib.hid CG
    have G := caB_iff.1 hg
    have hlo := G.lo
    have hhi := G.hi
    have hl12 := G.len
    clear hg
    by_cases h12 : (Ls.length : Int) = 12
    · have e12 : ((Ls.length : Int) == 12) = true := by simpa using h12
      rw [e12] at DB DN DR
      clear h12 LR G
      go_enter Try.func14, Try.ntmps14
      go_wp2_with (go_at_call 32; refine CG.out.mono ?_; rintro e w1 ⟨rfl, b1⟩; have B1 := nxt hb0 b1; have k0 := (b1.block w.heap.size (by have := HZ.out; omega)).trans K0.out; have k1 := (b1.block (w.heap.size + 1) (by have := HZ.out; omega)).trans K1.out; have z1 := b1.size; obtain ⟨d00, d01, -, -⟩ := cells2_of k0; obtain ⟨c10, c11, f10, f11⟩ := cells2_of k1; clear b1)
      obtain ⟨fs, hfs⟩ := Try.cardsU
      rw [DN.out, DR.out, DB.out]
      refine bodyPost_ret (v := .tuple #[.agg #[.int .i64 0, .slice none 0 0], .bool false]) (results_twob rfl _ _ (w.heap.size + 1) _ _ fs rfl ?_ ?_ hfs Try.cardsI _ rfl) rfl ⟨_, rfl, (Owa.nil _ 0 0).svv, (B1.setCell (p := ⟨w.heap.size + 1, 0, none⟩) (by show w.heap.size ≤ w.heap.size + 1; omega) _).setCell (p := ⟨w.heap.size + 1, 1, none⟩) (by show w.heap.size ≤ w.heap.size + 1; omega) _⟩
      · simp [World.cell?_setCell_other, World.cell?_setCell_same, go_sem, c10]
      · simp [World.cell?_setCell_other, World.cell?_setCell_same, go_sem, c11]
    · have e12 : ((Ls.length : Int) == 12) = false := by simpa using h12
      rw [e12] at DB DN DR
      cases hr : risB ys 0 (n - 1) with
      | false =>
        rw [hr] at DB DN DR LR
        clear hr h12 G
        go_enter Try.func14, Try.ntmps14
        go_wp2_with (first
          | (go_at_call 32; refine CG.out.mono ?_; rintro e w1 ⟨rfl, b1⟩; have B1 := nxt hb0 b1; have k0 := (b1.block w.heap.size (by have := HZ.out; omega)).trans K0.out; have k1 := (b1.block (w.heap.size + 1) (by have := HZ.out; omega)).trans K1.out; have z1 := b1.size; obtain ⟨d00, d01, -, -⟩ := cells2_of k0; obtain ⟨c10, c11, f10, f11⟩ := cells2_of k1; clear b1)
          | (go_at_call 33; refine (LR.out _ B1).mono ?_; rintro e w2 ⟨rfl, b2⟩; have B2 := nxt B1 b2; have z2 := b2.size; have k0 := (b2.block w.heap.size (by have := HZ.out; omega)).trans k0; have k1 := (b2.block (w.heap.size + 1) (by have := HZ.out; omega)).trans k1; obtain ⟨e00, e01, -, -⟩ := cells2_of k0; obtain ⟨g10, g11, h10, h11⟩ := cells2_of k1; clear b2 c10 c11 f10 f11 d00 d01))
        obtain ⟨fs, hfs⟩ := Try.cardsU
        rw [DN.out, DR.out, DB.out]
        refine bodyPost_ret (v := .tuple #[.agg #[.int .i64 0, .slice none 0 0], .bool false]) (results_twob rfl _ _ (w.heap.size + 1) _ _ fs rfl ?_ ?_ hfs Try.cardsI _ rfl) rfl ⟨_, rfl, (Owa.nil _ 0 0).svv, (B2.setCell (p := ⟨w.heap.size + 1, 0, none⟩) (by show w.heap.size ≤ w.heap.size + 1; omega) _).setCell (p := ⟨w.heap.size + 1, 1, none⟩) (by show w.heap.size ≤ w.heap.size + 1; omega) _⟩
        · simp [World.cell?_setCell_other, World.cell?_setCell_same, go_sem, g10]
        · simp [World.cell?_setCell_other, World.cell?_setCell_same, go_sem, g11]
      | true =>
        rw [hr] at DB DN DR LR
        have hyl : ys.length ≤ 1073741824 := by have h9 := ris_len (by omega) _ (risB_iff.1 hr); omega
        have FA := fun (W' : World) (b : Below w.heap.size w W') => caOwn_any n (-1) _ Ls W' (H.out.below b (Nat.le_refl _)) G
        rw [owK_all] at FA
        have FA := Lib.hid FA
        clear hr h12 G
        go_enter Try.func14, Try.ntmps14
        go_wp2_with (first
          | (go_at_call 32; refine CG.out.mono ?_; rintro e w1 ⟨rfl, b1⟩; have B1 := nxt hb0 b1; have k0 := (b1.block w.heap.size (by have := HZ.out; omega)).trans K0.out; have k1 := (b1.block (w.heap.size + 1) (by have := HZ.out; omega)).trans K1.out; have z1 := b1.size; obtain ⟨d00, d01, -, -⟩ := cells2_of k0; obtain ⟨c10, c11, f10, f11⟩ := cells2_of k1; clear b1)
          | (go_at_call 33; refine (LR.out _ B1).mono ?_; rintro e w2 ⟨rfl, b2⟩; have B2 := nxt B1 b2; have z2 := b2.size; have k0 := (b2.block w.heap.size (by have := HZ.out; omega)).trans k0; have k1 := (b2.block (w.heap.size + 1) (by have := HZ.out; omega)).trans k1; obtain ⟨e00, e01, -, -⟩ := cells2_of k0; obtain ⟨g10, g11, h10, h11⟩ := cells2_of k1; clear b2 c10 c11 f10 f11 d00 d01)
          | (go_at_call 34; refine (FA.out _ B2).mono ?_; rintro e w3 ⟨u, rfl, o3, b3⟩; have B3 := nxt B2 b3; have z3 := b3.size; have k1 := (b3.block (w.heap.size + 1) (by have := HZ.out; omega)).trans k1; obtain ⟨sp, sc, rfl⟩ := o3.form; have O3 := Lib.hid o3; clear b3 o3 g10 g11 h10 h11))
        obtain ⟨X, eX⟩ : ∃ X, w3.alloc (.cells #[.int .i64 n, .slice sp Ls.length sc] 24) = X := ⟨_, rfl⟩
        have hX : Below w3.heap.size w3 X := by rw [← eX]; exact (Below.refl _ _).alloc (Nat.le_refl _) _
        have zX : w3.heap.size < X.heap.size := by rw [← eX]; simp
        have kx : X.heap[w3.heap.size]? = some (.cells #[.int .i64 n, .slice sp Ls.length sc] 24 (0, 0)) := by rw [← eX]; exact heap_alloc_new w3 _
        have kr := (hX.block (w.heap.size + 1) (by have := HZ.out; omega)).trans k1
        rw [eX]
        have HD := Lib.hid ((O3.out.below hX (Nat.le_refl _)).mono (Nat.le_refl _) (Nat.le_of_lt zX))
        have OB := Lib.hid O3.out.out_lt
        have hw2 : w.heap.size + 1 + 1 ≤ w2.heap.size := by have := HZ.out; omega
        have HBX := Lib.hid (nxt B3 hX)
        have KR := Lib.hid kr
        have H2 := Lib.hid kx
        have LO := Lib.hid (fun (W' : World) (bw : Below X.heap.size X W') => l1Own_any _ ys W' ((HY.out.below HBX.out (Nat.le_refl _)).below bw (Nat.le_refl _)) hyl)
        obtain ⟨c20, c21, f20, f21⟩ := cells2_of kx
        obtain ⟨Z, eZ⟩ : ∃ Z, Ls ++ [ys] = Z := ⟨_, rfl⟩
        rw [eZ] at DR
        have EZ := Lib.hid eZ
        clear eX hX kx kr k0 k1 B1 B2 B3 e00 e01 c00 c01 hb0 eZ
        go_region_law (first
          | (go_simp; go_at_call 35; refine (LO.out _ ((Below.refl _ _).drew)).mono ?_; rintro e w5 ⟨u1, rfl, o1, b1⟩; have B5 : Below X.heap.size X w5 := (Below.refl _ _).drew.trans b1; have z5 := B5.size; have D1 := HD.out.below B5 (Nat.le_refl _); have O1 : Ow w5 X.heap.size u1 ys := o1; have K2 := (B5.block w3.heap.size zX).trans H2.out; obtain ⟨e20, e21, g20, g21⟩ := cells2_of K2; obtain ⟨up, uc, rfl, -⟩ := O1.sv; have K2A : (w5.alloc (.cells #[.slice up ys.length uc] 31)).heap[w3.heap.size]? = _ := (heap_alloc_old _ _ (by omega)).trans K2; obtain ⟨r20, r21, -, -⟩ := cells2_of K2A; clear b1 o1)
          | (refine step_append_row1 rfl (.tmp 28) (.tmp 31) rfl w2.heap.size X.heap.size (.slice sp Ls.length sc) Ls rfl (by exact D1.below ((Below.refl _ _).alloc (Nat.le_refl _) _) (Nat.le_refl _)) w5.heap.size (.slice up ys.length uc) ys rfl (by simp) ((O1.below ((Below.refl _ _).alloc (Nat.le_refl _) _) (Nat.le_refl _)).mono (by omega)) (fun k hk => by have := O1.own_lo k hk; omega) (by omega) (by simp; omega) ?_; intro v3 w6 h3 b3 g3; rw [EZ.out] at h3; have K3 := (g3.block w3.heap.size (by simp; omega) (fun e => by have := OB.out _ e.symm; omega)).trans ((heap_alloc_old _ _ (by omega)).trans K2); obtain ⟨i20, i21, j20, j21⟩ := cells2_of K3; obtain ⟨vp, vc, rfl⟩ := h3.form))
        all_goals
          obtain ⟨W7, e7⟩ : ∃ W7, w6.setCell ⟨w3.heap.size, 1, none⟩ (.slice vp Z.length vc) = W7 := ⟨_, rfl⟩
          have q2 : W7.heap[w3.heap.size]? = some (.cells #[.int .i64 n, .slice vp Z.length vc] 24 (0, 0)) := by rw [← e7]; exact pair2_set K3 _
          have b6 : Below w.heap.size w w6 := ((nxt HBX.out B5).trans (((Below.refl _ w5).alloc (Nat.le_refl _) (.cells #[.slice up ys.length uc] 31)).mono (show w.heap.size ≤ w5.heap.size by omega))).trans (b3.mono (by omega))
          have HB7 : Hid (Below w.heap.size w W7) := Lib.hid (by rw [← e7]; exact b6.setCell (p := ⟨w3.heap.size, 1, none⟩) (by show w.heap.size ≤ w3.heap.size; omega) _)
          have kr6 := (b3.block (w.heap.size + 1) (by omega)).trans ((heap_alloc_old _ _ (by omega)).trans ((B5.block (w.heap.size + 1) (by omega)).trans KR.out))
          have kr7 : W7.heap[w.heap.size + 1]? = some (.cells #[.int .i64 0, .slice none 0 0] 24 (0, 0)) := by rw [← e7, heap_setCell_other _ _ _ _ (by show w.heap.size + 1 ≠ w3.heap.size; omega)]; exact kr6
          have H7 : Hid (Owa W7 w2.heap.size w6.heap.size (.slice vp Z.length vc) Z) := Lib.hid (by rw [← e7]; exact h3.far K3 1 _)
          rw [e7]
          obtain ⟨x20, x21, -, -⟩ := cells2_of q2
          obtain ⟨y10, y11, v10, v11⟩ := cells2_of kr7
          clear e7 q2 b6 kr6 kr7 h3 b3 g3 K3 K2 K2A D1 B5 O1 e20 e21 g20 g21 r20 r21 c20 c21 f20 f21 i20 i21 j20 j21 HD H2 OB LO
          go_wp2
          obtain ⟨fs, hfs⟩ := Try.cardsU
          rw [DN.out, DR.out, DB.out]
          refine bodyPost_ret (v := .tuple #[.agg #[.int .i64 n, .slice vp Z.length vc], .bool true]) (results_twob rfl _ _ (w.heap.size + 1) _ _ fs rfl ?_ ?_ hfs Try.cardsI _ rfl) rfl ⟨_, rfl, ((H7.out.mono hw2 (Nat.le_refl _)).abv (((Abv.refl _ _).setCell (g := w.heap.size + 1) (by omega) 0 _).setCell (g := w.heap.size + 1) (by omega) 1 _)).svv, (HB7.out.setCell (p := ⟨w.heap.size + 1, 0, none⟩) (by show w.heap.size ≤ w.heap.size + 1; omega) _).setCell (p := ⟨w.heap.size + 1, 1, none⟩) (by show w.heap.size ≤ w.heap.size + 1; omega) _⟩
          · simp [World.cell?_setCell_other, World.cell?_setCell_same, go_sem, y10]
          · simp [World.cell?_setCell_other, World.cell?_setCell_same, go_sem, y11]
end Go.Proofs.Ytcgifmoddojnmab
