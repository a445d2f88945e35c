/-
  A deck of cards in the program: made of lists, by contract. Condition: there are cards.
-/
import Derived.Test.YtmcbhpmkhbmlgaaQc
import Derived.Test.YtmcbhpmkhbmlgaaKga
import Derived.Deep.AppendLies
namespace Go.Proofs.Ytmcbhpmkhbmlgaa
open Go.RowKit

theorem Try.deckU : ∃ fs, Try.prog.underlying 64 = some (.struct fs) := ⟨_, Try.underlying64⟩
theorem Try.deckI : (Try.prog.info? 64).map (·.size) = some 2 := by kernel_rfl
theorem pair_set {w : World} {g : Nat} {x y : Value} {t : TypeId} (h : w.heap[g]? = some (.cells #[x, y] t (0, 0))) (u : Value) : (w.setCell ⟨g, 1, none⟩ u).heap[g]? = some (.cells #[x, u] t (0, 0)) :=
  heap_setCell_same w g 1 _ _ u h
theorem take_in {Ls : List (List Int)} {k : Nat} (h : k < Ls.length) : (Ls.take k).map inL ++ [inL (rowL Ls k)] = (Ls.take (k + 1)).map inL := by
  rw [List.take_add_one, List.getElem?_eq_getElem h, List.map_append]
  unfold rowL
  rw [List.getD_eq_getElem?_getD, List.getElem?_eq_getElem h]; rfl

set_option maxHeartbeats 8000000 in
set_option maxRecDepth 100000 in
theorem deckOf_any (n : Int) (v : Value) (Ls : List (List Int)) (w : World) (h : Svv w v Ls) (g : CaG n Ls) :
    Calls Try.prog 48 #[.agg #[.int .i64 n, v]] w fun e w' => ∃ s, e = .returned (.agg #[.int .i64 n, s]) ∧ Dk w' w.heap.size s (Ls.map inL) ∧ Below w.heap.size w w' := by
  obtain ⟨p, cap, rfl⟩ := svv_form h
  obtain ⟨W, eW⟩ : ∃ W, ((w.alloc (.cells #[.int .i64 n, .slice p Ls.length cap] 36)).alloc (.cells #[.int .i64 0, .slice none 0 0] 64)).alloc (.cells #[.int .i64 n, .slice none 0 0] 64) = W := ⟨_, rfl⟩
  have hb0 : Below w.heap.size w W := by rw [← eW]; exact (((Below.refl _ w).alloc (Nat.le_refl _) _).alloc (by simp) _).alloc (by simp; omega) _
  have HZ : Hid (W.heap.size = w.heap.size + 1 + 1 + 1) := Lib.hid (by rw [← eW]; simp)
  have k0 : W.heap[w.heap.size]? = some (.cells #[.int .i64 n, .slice p Ls.length cap] 36 (0, 0)) := by rw [← eW]; exact blk_0 _ _ _ _
  have k1 : W.heap[w.heap.size + 1]? = some (.cells #[.int .i64 0, .slice none 0 0] 64 (0, 0)) := by rw [← eW]; exact blk_1 _ _ _ _
  have k2 : W.heap[w.heap.size + 1 + 1]? = some (.cells #[.int .i64 n, .slice none 0 0] 64 (0, 0)) := by rw [← eW]; exact blk_2 _ _ _ _
  have hl12 := g.len
  have H := Lib.hid h
  have G := Lib.hid g
  clear h g
  go_enter Try.func48, Try.ntmps48
  have c00 := (cells2_of k0).1
  have c01 := (cells2_of k0).2.1
  obtain ⟨c20, c21, f20, f21⟩ := cells2_of k2
  go_wp2
  clear eW c00 c01 c20 c21 f20 f21
  obtain ⟨W1, eW1⟩ : ∃ W1, W.setCell ⟨w.heap.size + 1 + 1, 1, none⟩ (.slice none 0 0) = W1 := ⟨_, rfl⟩
  have hb1 : Below w.heap.size w W1 := by rw [← eW1]; exact hb0.setCell (p := ⟨w.heap.size + 1 + 1, 1, none⟩) (by show w.heap.size ≤ w.heap.size + 1 + 1; omega) _
  have m2 : W1.heap[w.heap.size + 1 + 1]? = some (.cells #[.int .i64 n, .slice none 0 0] 64 (0, 0)) := by rw [← eW1]; exact pair_set k2 _
  have m1 : W1.heap[w.heap.size + 1]? = some (.cells #[.int .i64 0, .slice none 0 0] 64 (0, 0)) := by rw [← eW1, heap_setCell_other _ _ _ _ (by show w.heap.size + 1 ≠ w.heap.size + 1 + 1; omega)]; exact k1
  have mz : w.heap.size + 1 + 1 + 1 ≤ W1.heap.size := by rw [← eW1]; simp; have := HZ.out; omega
  rw [eW1]
  clear eW1 k0 k1 k2 hb0
  go_loopw [12] (fun i wr => ∃ (k : Nat) (s : Value), k ≤ Ls.length ∧ i = .int .i64 k ∧ Dk wr (w.heap.size + 1 + 1 + 1) s ((Ls.take k).map inL) ∧ wr.heap[w.heap.size + 1 + 1]? = some (.cells #[.int .i64 n, s] 64 (0, 0)) ∧ wr.heap[w.heap.size + 1]? = some (.cells #[.int .i64 0, .slice none 0 0] 64 (0, 0)) ∧ Below w.heap.size w wr ∧ w.heap.size + 1 + 1 + 1 ≤ wr.heap.size) (fun i _ => Ls.length - (intOf i).toNat)
  case atStart => exact ⟨0, _, Nat.zero_le _, rfl, Dk.nil _ _, m2, m1, hb1, mz⟩
  case round =>
    clear m1 m2 hb1 mz
    obtain ⟨k, s, hk, rfl, hD, h2, h1, hb, zW⟩ := hrel
    have hkl : ((Ls.take k).map inL).length = k := by simp; omega
    by_cases hlt : k < Ls.length
    · obtain ⟨b, off, rfl, hbl, hr⟩ := svv_row H.out (by omega)
      obtain ⟨u, hcell, hs⟩ := hr k hlt
      have hcell2 := (hb.cell (p := ⟨b, off + k, none⟩) hbl).trans hcell
      have hs2 := hs.below hb (Nat.le_refl _)
      obtain ⟨pu, cu, rfl⟩ : ∃ pu cu, u = .slice pu (rowL Ls k).length cu := by obtain ⟨pu, cu, e, _⟩ := hs; exact ⟨pu, cu, e⟩
      clear hs hcell
      have hrow := G.out.row hlt
      have hris := G.out.ris k hlt
      have hhi := G.out.hi
      have HT := Lib.hid (take_in hlt)
      have CW := Lib.hid (fun (W' : World) (bw : Below wr.heap.size wr W') => cardWith_any _ (rowL Ls k) W' (hs2.below bw (Nat.le_refl _)) (fun j hj => by have := hris.1 j hj; exact ⟨this.1, by have := this.2; unfold rowL; omega⟩) (by unfold rowL; omega))
      obtain ⟨P, eP⟩ : ∃ P, inL (rowL Ls k) = P := ⟨_, rfl⟩
      obtain ⟨ps, eps⟩ : ∃ ps, (Ls.take k).map inL = ps := ⟨_, rfl⟩
      rw [eP] at CW HT
      rw [eps] at hD HT hkl
      have CO := Lib.hid (fun W' => crd_one W' P)
      have HC : (bA P).size = 128 := bA_size P
      obtain ⟨C, eC⟩ : ∃ C, bA P = C := ⟨_, rfl⟩
      rw [eC] at CW CO HC
      have HF := fold_card HC
      clear eC eP eps hr hs2 hris
      subst hkl
      obtain ⟨Z, eZ⟩ : ∃ Z, ps ++ [P] = Z := ⟨_, rfl⟩
      rw [eZ] at HT
      have EZ := Lib.hid eZ
      clear eZ
      obtain ⟨sp, sc, rfl⟩ := hD.form
      obtain ⟨c20, c21, f20, f21⟩ := cells2_of h2
      have HB := Lib.hid hb
      have H1 := Lib.hid h1
      have H2 := Lib.hid h2
      have HD := Lib.hid hD
      clear hb h1 h2 hD
      go_wp2
      go_region_law (first
        | (go_simp; go_at_call 67; refine (CW.out _ ((Below.refl _ _).drew)).mono ?_; rintro e w1 ⟨rfl, b1⟩; have B1 : Below wr.heap.size wr w1 := (Below.refl _ _).drew.trans b1; have z1 := B1.size; have D1 := HD.out.below B1 (Nat.le_refl _); have K2 := (B1.block (w.heap.size + 1 + 1) (by omega)).trans H2.out; obtain ⟨e20, e21, g20, g21⟩ := cells2_of K2; have K2A : (w1.alloc (.cells C 61)).heap[w.heap.size + 1 + 1]? = _ := (heap_alloc_old _ _ (by omega)).trans K2; obtain ⟨r20, r21, -, -⟩ := cells2_of K2A; clear b1)
        | (refine step_append_card rfl (.tmp 17) (.tmp 20) rfl (w.heap.size + 1 + 1 + 1) (.slice sp ps.length sc) ps rfl (by exact D1.alloc _) _ [P] rfl (by exact CO.out w1) (by simp; omega) (by simp; omega) ?_; intro v3 w3 h3 g3; rw [EZ.out] at h3; have K3 := (g3.block (w.heap.size + 1 + 1) (by simp; omega) (fun e => by have := (World.ownsRow.lt D1 _ e.symm).1; omega)).trans ((heap_alloc_old _ _ (by omega)).trans K2); obtain ⟨i20, i21, j20, j21⟩ := cells2_of K3; obtain ⟨vp, vc, rfl⟩ := h3.form))
      all_goals
        have z3 := g3.size
        have b3 : Below (w.heap.size + 1 + 1 + 1) w1 w3 := ((Below.refl _ w1).alloc (by omega) _).trans ((D1.alloc _).grown (by simp; omega) g3)
        have HB3 := Lib.hid ((nxt HB.out B1).trans (b3.mono (by omega)))
        have H13 := Lib.hid ((b3.block (w.heap.size + 1) (by omega)).trans ((B1.block (w.heap.size + 1) (by omega)).trans H1.out))
        have H23 := Lib.hid K3
        have H33 := Lib.hid h3
        have z4 : w.heap.size + 1 + 1 + 1 ≤ w3.heap.size := Nat.le_trans (by omega) b3.size
        clear b3 g3 h3 K3 K2 D1 B1 e20 e21 g20 g21 r20 r21 K2A c20 c21 f20 f21 HD HB H1 H2 HF CW CO HC
        go_wp2
        go_roundw
        case rel => exact ⟨ps.length + 1, _, by omega, by go_num, by rw [← HT.out]; exact H33.out.abv ((Abv.refl _ _).setCell (g := w.heap.size + 1 + 1) (by omega) 1 _), pair_set H23.out _, by rw [heap_setCell_other _ _ _ _ (by show w.heap.size + 1 ≠ w.heap.size + 1 + 1; omega)]; exact H13.out, HB3.out.setCell (p := ⟨w.heap.size + 1 + 1, 1, none⟩) (by show w.heap.size ≤ w.heap.size + 1 + 1; omega) _, by simp; omega⟩
        case measure => simp only [intOf]; omega
    · have hke : k = Ls.length := by omega
      subst hke
      rw [List.take_length] at hD
      obtain ⟨c20, c21, f20, f21⟩ := cells2_of h2
      obtain ⟨c10, c11, f10, f11⟩ := cells2_of h1
      obtain ⟨sp, sc, rfl⟩ := hD.form
      have HB := Lib.hid hb
      have HD := Lib.hid hD
      clear hb h1 h2 hD
      go_wp2
      obtain ⟨fs, hfs⟩ := Try.deckU
      refine bodyPost_ret (v := .agg #[.int .i64 n, .slice sp (Ls.map inL).length sc]) (results_two rfl _ _ (w.heap.size + 1) _ _ fs rfl ?_ ?_ hfs Try.deckI) rfl ⟨_, rfl, (HD.out.abv (((Abv.refl _ _).setCell (g := w.heap.size + 1) (by omega) _ _).setCell (g := w.heap.size + 1) (by omega) _ _)).mono (by omega), (HB.out.setCell (p := ⟨w.heap.size + 1, 0, none⟩) (by show w.heap.size ≤ w.heap.size + 1; omega) _).setCell (p := ⟨w.heap.size + 1, 1, none⟩) (by show w.heap.size ≤ w.heap.size + 1; omega) _⟩
      · simp [World.cell?_setCell_other, World.cell?_setCell_same, go_sem, c10]
      · simp [World.cell?_setCell_other, World.cell?_setCell_same, go_sem, c11]
end Go.Proofs.Ytmcbhpmkhbmlgaa
