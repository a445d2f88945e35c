/-
  Cards in the model without a card, by contract: rows of the call's own. Condition: there are cards.
-/
import Derived.Test.YtcgifmoddojnmabKga
import Derived.Test.YtcgifmoddojnmabCat4
import Derived.Deep.RegionWith
import Derived.BigRegion
import Derived.IntWalk
import Derived.Lib.OthersKept
import Derived.WalkSmall
import Derived.Test.YtcgifmoddojnmabWst4
import Derived.Test.YtcgifmoddojnmabQj
import Derived.Deep.RegionLaw
import Derived.Deep.AppendLies
namespace Go.Proofs.Ytcgifmoddojnmab
open Go.RowKit

/-- A slice of slices whose rows may be appended, for reading: none nil-like beyond its end. -/
def SrcL (w : World) (v : Value) (Ls : List (List Int)) : Prop := ∃ p cap, v = .slice p Ls.length cap ∧ (0 < Ls.length → ∃ b off, p = some ⟨b, off, none⟩ ∧ b < w.heap.size ∧ ∀ j, j < Ls.length → ∃ u, w.cell? ⟨b, off + j, none⟩ = some u ∧ Src w u (rowL Ls j))
theorem SrcL.below {w w' : World} {v : Value} {Ls : List (List Int)} {B : Nat} (h : SrcL w v Ls) (hb : Below B w w') (hB : w.heap.size ≤ B) : SrcL w' v Ls := by
  obtain ⟨p, cap, hv, hx⟩ := h
  refine ⟨p, cap, hv, fun h0 => ?_⟩
  obtain ⟨b, off, hp, hlt, hc⟩ := hx h0
  refine ⟨b, off, hp, Nat.lt_of_lt_of_le hlt hb.size, fun j hj => ?_⟩
  obtain ⟨u, hu, hs⟩ := hc j hj
  exact ⟨u, (hb.cell (p := ⟨b, off + j, none⟩) (by show b < B; omega)).trans hu, hs.below hb hB⟩
theorem Src.sv {w : World} {v : Value} {xs : List Int} (h : Src w v xs) : Sv w v xs := by
  rcases h with ⟨rfl, rfl⟩ | ⟨b, off, c, hv, hb, hc⟩
  · exact sv_nil w
  · exact ⟨_, _, hv, fun _ => ⟨b, off, rfl, hb, hc⟩⟩
theorem SrcL.svv {w : World} {v : Value} {Ls : List (List Int)} (h : SrcL w v Ls) : Svv w v Ls := by
  obtain ⟨p, cap, hv, hx⟩ := h
  refine ⟨p, cap, hv, fun h0 => ?_⟩
  obtain ⟨b, off, hp, hlt, hc⟩ := hx h0
  exact ⟨b, off, hp, hlt, fun j hj => by obtain ⟨u, hu, hr⟩ := hc j hj; exact ⟨u, hu, hr.sv⟩⟩
theorem srcL_row {w : World} {p : Option Addr} {cap : Nat} {Ls : List (List Int)} (h : SrcL w (.slice p Ls.length cap) Ls) (hl : 0 < Ls.length) : ∃ b off, p = some ⟨b, off, none⟩ ∧ b < w.heap.size ∧ ∀ j, j < Ls.length → ∃ u, w.cell? ⟨b, off + j, none⟩ = some u ∧ Src w u (rowL Ls j) := by
  obtain ⟨p', cap', e, hx⟩ := h
  simp only [Value.slice.injEq, true_and] at e
  obtain ⟨rfl, rfl⟩ := e
  exact hx hl
/-- The first j rows without one. -/
def owK (Ls : List (List Int)) (c : Int) : Nat → List (List Int)
  | 0 => []
  | j + 1 => if (j : Int) = c then owK Ls c j else owK Ls c j ++ [rowL Ls j]
theorem owK_len (Ls : List (List Int)) (c : Int) : ∀ j, (owK Ls c j).length ≤ j := by
  intro j
  induction j with
  | zero => simp [owK]
  | succ j ih =>
    simp only [owK]
    split
    · omega
    · rw [List.length_append, List.length_singleton]; omega
theorem owK_take (Ls : List (List Int)) : ∀ j, j ≤ Ls.length → owK Ls (-1) j = Ls.take j := by
  intro j
  induction j with
  | zero => intro _; simp [owK]
  | succ j ih =>
    intro h
    simp only [owK]
    rw [if_neg (by omega), ih (by omega), List.take_add_one, List.getElem?_eq_getElem (by omega)]
    simp [rowL, List.getD_eq_getElem?_getD, List.getElem?_eq_getElem (show j < Ls.length by omega)]
theorem owK_all (Ls : List (List Int)) : owK Ls (-1) Ls.length = Ls := by rw [owK_take Ls _ (Nat.le_refl _), List.take_length]
theorem owK_skip {Ls : List (List Int)} {c : Int} {j : Nat} (h : (j : Int) = c) : owK Ls c (j + 1) = owK Ls c j := by simp only [owK]; rw [if_pos h]
theorem owK_add {Ls : List (List Int)} {c : Int} {j : Nat} (h : ¬ (j : Int) = c) : owK Ls c (j + 1) = owK Ls c j ++ [rowL Ls j] := by simp only [owK]; rw [if_neg h]

set_option maxHeartbeats 8000000 in
set_option maxRecDepth 100000 in
theorem caOwn_any (n c : Int) (v : Value) (Ls : List (List Int)) (w : World) (h : SrcL w v Ls) (g : CaG n Ls) :
    Calls Try.prog 34 #[.agg #[.int .i64 n, v], .int .i64 c] w fun e w' => ∃ u, e = .returned (.agg #[.int .i64 n, u]) ∧ Owa w' w.heap.size w'.heap.size u (owK Ls c Ls.length) ∧ Below w.heap.size w w' := by
  obtain ⟨p, cap, rfl⟩ := svv_form h.svv
  obtain ⟨W, eW⟩ : ∃ W, ((w.alloc (.cells #[.int .i64 n, .slice p Ls.length cap] 24)).alloc (.cells #[.int .i64 0, .slice none 0 0] 24)).alloc (.cells #[.int .i64 n, .slice none 0 0] 24) = W := ⟨_, rfl⟩
  have hb0 : Below w.heap.size w W := by rw [← eW]; exact (((Below.refl _ w).alloc (Nat.le_refl _) _).alloc (by simp) _).alloc (by simp; omega) _
  have HZ : Hid (W.heap.size = w.heap.size + 1 + 1 + 1) := Lib.hid (by rw [← eW]; simp)
  have k0 : W.heap[w.heap.size]? = some (.cells #[.int .i64 n, .slice p Ls.length cap] 24 (0, 0)) := by rw [← eW]; exact blk_0 _ _ _ _
  have k1 : W.heap[w.heap.size + 1]? = some (.cells #[.int .i64 0, .slice none 0 0] 24 (0, 0)) := by rw [← eW]; exact blk_1 _ _ _ _
  have k2 : W.heap[w.heap.size + 1 + 1]? = some (.cells #[.int .i64 n, .slice none 0 0] 24 (0, 0)) := by rw [← eW]; exact blk_2 _ _ _ _
  have H := Lib.hid h
  have G := Lib.hid g
  have hl12 := g.len
  clear h g
  go_enter Try.func34, Try.ntmps34
  have c00 := (cells2_of k0).1
  have c01 := (cells2_of k0).2.1
  obtain ⟨c20, c21, f20, f21⟩ := cells2_of k2
  go_wp2
  clear eW c00 c01 c20 c21 f20 f21
  obtain ⟨W1, eW1⟩ : ∃ W1, W.setCell ⟨w.heap.size + 1 + 1, 1, none⟩ (.slice none 0 0) = W1 := ⟨_, rfl⟩
  have hb1 : Below w.heap.size w W1 := by rw [← eW1]; exact hb0.setCell (p := ⟨w.heap.size + 1 + 1, 1, none⟩) (by show w.heap.size ≤ w.heap.size + 1 + 1; omega) _
  have m2 : W1.heap[w.heap.size + 1 + 1]? = some (.cells #[.int .i64 n, .slice none 0 0] 24 (0, 0)) := by rw [← eW1]; exact pair2_set k2 _
  have m1 : W1.heap[w.heap.size + 1]? = some (.cells #[.int .i64 0, .slice none 0 0] 24 (0, 0)) := by rw [← eW1, heap_setCell_other _ _ _ _ (by show w.heap.size + 1 ≠ w.heap.size + 1 + 1; omega)]; exact k1
  have mz : w.heap.size + 1 + 1 + 1 ≤ W1.heap.size := by rw [← eW1]; simp; have := HZ.out; omega
  rw [eW1]
  clear eW1 k0 k1 k2 hb0
  go_loopw [14] (fun i wr => ∃ (k : Nat) (s : Value), k ≤ Ls.length ∧ i = .int .i64 k ∧ Owa wr (w.heap.size + 1 + 1 + 1) wr.heap.size s (owK Ls c k) ∧ wr.heap[w.heap.size + 1 + 1]? = some (.cells #[.int .i64 n, s] 24 (0, 0)) ∧ wr.heap[w.heap.size + 1]? = some (.cells #[.int .i64 0, .slice none 0 0] 24 (0, 0)) ∧ Below w.heap.size w wr ∧ w.heap.size + 1 + 1 + 1 ≤ wr.heap.size) (fun i _ => Ls.length - (intOf i).toNat)
  case atStart => exact ⟨0, _, Nat.zero_le _, rfl, Owa.nil _ _ _, m2, m1, hb1, mz⟩
  case round =>
    clear m1 m2 hb1 mz
    obtain ⟨k, s, hk, rfl, hD, h2, h1, hb, zW⟩ := hrel
    have hkl := owK_len Ls c k
    by_cases hlt : k < Ls.length
    · obtain ⟨b, off, rfl, hbl, hr⟩ := srcL_row H.out (by omega)
      obtain ⟨u, hcell, hs⟩ := hr k hlt
      have hcell := (hb.cell (p := ⟨b, off + k, none⟩) hbl).trans hcell
      have hs := hs.below hb (Nat.le_refl _)
      obtain ⟨pu, cu, rfl⟩ : ∃ pu cu, u = .slice pu (rowL Ls k).length cu := by obtain ⟨pu, cu, e, _⟩ := hs.sv; exact ⟨pu, cu, e⟩
      have hrow := G.out.row hlt
      have SK := fun e => owK_skip (Ls := Ls) (c := c) (j := k) e
      have AD := fun e => owK_add (Ls := Ls) (c := c) (j := k) e
      have hL : (rowL Ls k).length ≤ 1073741824 := by unfold rowL; omega
      obtain ⟨L, eL⟩ : ∃ L, rowL Ls k = L := ⟨_, rfl⟩
      obtain ⟨pl, epl⟩ : ∃ pl, owK Ls c k = pl := ⟨_, rfl⟩
      rw [eL] at hs hL AD hcell
      rw [epl] at hD hkl SK AD
      clear hr eL epl hrow
      obtain ⟨sp, sc, rfl⟩ := hD.form
      by_cases hc : (k : Int) = c
      · have HN := Lib.hid (SK hc)
        have d : ((k : Int) != c) = false := by simp [hc]
        clear SK AD hs hc
        go_wp2
        go_roundw
        case rel => exact ⟨k + 1, _, by omega, by go_num, by rw [HN.out]; exact hD, h2, h1, hb, zW⟩
        case measure => simp only [intOf]; omega
      · have d : ((k : Int) != c) = true := by simp [hc]
        have HT := Lib.hid (AD hc)
        obtain ⟨Z, eZ⟩ : ∃ Z, pl ++ [L] = Z := ⟨_, rfl⟩
        rw [eZ] at HT
        have EZ := Lib.hid eZ
        have OB := Lib.hid hD.out_lt
        obtain ⟨c20, c21, f20, f21⟩ := cells2_of h2
        have LO := Lib.hid (fun (W' : World) (bw : Below wr.heap.size wr W') => l1Own_any _ L W' (hs.below bw (Nat.le_refl _)) hL)
        have HB := Lib.hid hb
        have H1 := Lib.hid h1
        have H2 := Lib.hid h2
        have HD := Lib.hid hD
        clear SK AD hs eZ hb h1 h2 hD
        go_wp2
        go_region_law (first
          | (go_simp; go_at_call 35; refine (LO.out _ ((Below.refl _ _).drew)).mono ?_; rintro e w1 ⟨u1, rfl, o1, b1⟩; have B1 : Below wr.heap.size wr w1 := (Below.refl _ _).drew.trans b1; have z1 := B1.size; have D1 := HD.out.below B1 (Nat.le_refl _); have O1 : Ow w1 wr.heap.size u1 L := o1; have K2 := (B1.block (w.heap.size + 1 + 1) (by omega)).trans H2.out; obtain ⟨e20, e21, g20, g21⟩ := cells2_of K2; obtain ⟨up, uc, rfl, -⟩ := O1.sv; have K2A : (w1.alloc (.cells #[.slice up L.length uc] 31)).heap[w.heap.size + 1 + 1]? = _ := (heap_alloc_old _ _ (by omega)).trans K2; obtain ⟨r20, r21, -, -⟩ := cells2_of K2A; clear b1 o1)
          | (refine step_append_row1 rfl (.tmp 23) (.tmp 26) rfl (w.heap.size + 1 + 1 + 1) wr.heap.size (.slice sp pl.length sc) pl rfl (by exact D1.below ((Below.refl _ _).alloc (Nat.le_refl _) _) (Nat.le_refl _)) w1.heap.size (.slice up L.length uc) L rfl (by simp) ((O1.below ((Below.refl _ _).alloc (Nat.le_refl _) _) (Nat.le_refl _)).mono (by omega)) (fun k hk => by have := O1.own_lo k hk; omega) (by omega) (by simp; omega) ?_; intro v3 w3 h3 b3 g3; rw [EZ.out] at h3; have K3 := (g3.block (w.heap.size + 1 + 1) (by simp; omega) (fun e => by obtain ⟨vals, D1⟩ := D1; have := (World.ownsRow.lt D1.out _ e.symm).1; omega)).trans ((heap_alloc_old _ _ (by omega)).trans K2); obtain ⟨i20, i21, j20, j21⟩ := cells2_of K3; obtain ⟨vp, vc, rfl⟩ := h3.form))
        all_goals
          have z3 := g3.size
          have HB3 := Lib.hid ((nxt HB.out B1).trans ((((Below.refl _ w1).alloc (Nat.le_refl _) (.cells #[.slice up L.length uc] 31)).mono (show w.heap.size ≤ w1.heap.size by omega)).trans (b3.mono (by omega))))
          have H13 := Lib.hid ((b3.block (w.heap.size + 1) (by omega)).trans ((heap_alloc_old _ _ (by omega)).trans ((B1.block (w.heap.size + 1) (by omega)).trans H1.out)))
          have H23 := Lib.hid K3
          have H33 := Lib.hid h3
          have z4 : w.heap.size + 1 + 1 + 1 ≤ w3.heap.size := by simp at z3; omega
          clear b3 g3 h3 K3 K2 K2A D1 B1 O1 e20 e21 g20 g21 r20 r21 c20 c21 f20 f21 HD HB H1 H2 OB LO
          first | go_roundw | (go_wp2; go_roundw)
          case rel => exact ⟨k + 1, _, by omega, by go_num, by rw [HT.out]; exact (H33.out.abv ((Abv.refl _ _).setCell (g := w.heap.size + 1 + 1) (by omega) 1 _)).mono (Nat.le_refl _) (by simp), pair2_set H23.out _, by rw [heap_setCell_other _ _ _ _ (by show w.heap.size + 1 ≠ w.heap.size + 1 + 1; omega)]; exact H13.out, HB3.out.setCell (p := ⟨w.heap.size + 1 + 1, 1, none⟩) (by show w.heap.size ≤ w.heap.size + 1 + 1; omega) _, by simp; omega⟩
          case measure => simp only [intOf]; omega
    · have hke : k = Ls.length := by omega
      subst hke
      obtain ⟨c20, c21, f20, f21⟩ := cells2_of h2
      obtain ⟨c10, c11, f10, f11⟩ := cells2_of h1
      obtain ⟨sp, sc, rfl⟩ := hD.form
      have HB := Lib.hid hb
      have HD := Lib.hid hD
      clear hb h1 h2 hD
      go_wp2
      obtain ⟨fs, hfs⟩ := Try.cardsU
      refine bodyPost_ret (v := .agg #[.int .i64 n, .slice sp (owK Ls c Ls.length).length sc]) (results_two rfl _ _ (w.heap.size + 1) _ _ fs rfl ?_ ?_ hfs Try.cardsI) rfl ⟨_, rfl, (HD.out.abv (((Abv.refl _ _).setCell (g := w.heap.size + 1) (by omega) 0 _).setCell (g := w.heap.size + 1) (by omega) 1 _)).mono (by omega) (by simp), (HB.out.setCell (p := ⟨w.heap.size + 1, 0, none⟩) (by show w.heap.size ≤ w.heap.size + 1; omega) _).setCell (p := ⟨w.heap.size + 1, 1, none⟩) (by show w.heap.size ≤ w.heap.size + 1; omega) _⟩
      · simp [World.cell?_setCell_other, World.cell?_setCell_same, go_sem, c10]
      · simp [World.cell?_setCell_other, World.cell?_setCell_same, go_sem, c11]
end Go.Proofs.Ytcgifmoddojnmab
