/-
  The law on AddClue, walked: whatever comes in, it returns true and writes nothing that was there. No condition.
-/
import Derived.Test.YtgojlabkngnkdaaYad
import Derived.Test.YtgojlabkngnkdaaYae
import Derived.Test.YtgojlabkngnkdaaYlw
import Derived.Deep.RegionHeld3
import Derived.Deep.CutRange
namespace Go.Proofs.Ytgojlabkngnkdaa
open Go.RowKit

theorem s_pq {W0 w0 W' : World} {s : Nat} {x K A0 Z : Value} {tp tq : TypeId} (hA : W0.heap[s]? = some (.cells #[x] tp (0, 0))) (hQ : W0.heap[s + 1]? = some (.cells #[K, A0, Z] tq (0, 0))) (t : Below W0.heap.size W0 w0) (k : Below w0.heap.size w0 W') :
    W'.cell? ⟨s, 0, none⟩ = some x ∧ W'.cell? ⟨s + 1, 0, none⟩ = some K ∧ W'.cell? ⟨s + 1, 1, none⟩ = some A0 ∧ W'.cell? ⟨s + 1, 2, none⟩ = some Z := by
  have l1 := (Array.getElem?_eq_some_iff.1 hA).1
  have l2 := (Array.getElem?_eq_some_iff.1 hQ).1
  have T := nxt t k
  obtain ⟨x1, x2, x3, -, -, -⟩ := cells3_of ((T.block _ l2).trans hQ)
  exact ⟨(cells1_of ((T.block _ l1).trans hA)).1, x1, x2, x3⟩
/-- How a puzzle that a call told lies in a box of its own, wherever the box was made. -/
structure Lfa (w0 wx : World) (g : Nat) (v : Value) (cs : List Cl) (B e : Nat) : Prop where
  bx : Bx wx g v
  ck : Ck wx B v cs
  own : ∀ k, v.ownBlock = some k → B ≤ k ∧ k < e
  sep : g < B ∨ e ≤ g
  lo : w0.heap.size ≤ g
  loB : w0.heap.size ≤ B
  le : e ≤ wx.heap.size
  lB : B ≤ wx.heap.size
  bel : Below w0.heap.size w0 wx
theorem lf_set {w0 w8 : World} {g B : Nat} {v old : Value} {cs : List Cl} (ck : w8.cell? ⟨g, 0, none⟩ = some old) (o : Ck w8 B v cs) (hg : g < B) (h0 : w0.heap.size ≤ g) (b : Below w0.heap.size w0 w8) (hw : B ≤ w8.heap.size) : Lfa w0 (w8.setCell ⟨g, 0, none⟩ v) g v cs B w8.heap.size := by
  have hl : g < w8.heap.size := by
    by_cases q : g < w8.heap.size
    · exact q
    · rw [World.cell?, Array.getElem?_eq_none (by simpa using q)] at ck; simp at ck
  exact ⟨⟨by simpa [World.setCell] using hl, by simp [World.cell?_setCell_same, ck]⟩, Ck.abv o ((Abv.refl _ _).setCell hg _ _), o.lo (Nat.le_refl _), .inl hg, h0, by omega, by simp [World.setCell], by simpa [World.setCell] using hw, b.setCell h0 _⟩
theorem lf_new {w0 w8 : World} {B : Nat} {v : Value} {cs : List Cl} (o : Ck w8 B v cs) (hB : w0.heap.size ≤ B) (b : Below w0.heap.size w0 w8) (hw : B ≤ w8.heap.size) (t : TypeId) : Lfa w0 (w8.alloc (.cells #[v] t)) w8.heap.size v cs B w8.heap.size :=
  ⟨bx_new _ _ _, o.below ((Below.refl _ _).alloc (Nat.le_refl _) _) (Nat.le_refl _), o.lo (Nat.le_refl _), .inr (Nat.le_refl _), b.size, hB, by simp, by simp; omega, b.alloc b.size _⟩
theorem x_q {W0 w' : World} {s : Nat} {K A0 Z : Value} {tq : TypeId} {g : Nat} {x : Value} (hQ : W0.heap[s + 1]? = some (.cells #[K, A0, Z] tq (0, 0))) (t : Below W0.heap.size W0 w') (b : Bx w' g x) {W' : World} (k : Below w'.heap.size w' W') :
    W'.cell? ⟨g, 0, none⟩ = some x ∧ W'.cell? ⟨s + 1, 0, none⟩ = some K ∧ W'.cell? ⟨s + 1, 1, none⟩ = some A0 ∧ W'.cell? ⟨s + 1, 2, none⟩ = some Z := by
  have l2 := (Array.getElem?_eq_some_iff.1 hQ).1
  obtain ⟨x1, x2, x3, -, -, -⟩ := cells3_of (((nxt t k).block _ l2).trans hQ)
  exact ⟨(b.below k).cell, x1, x2, x3⟩

set_option maxHeartbeats 16000000 in
set_option maxRecDepth 8000 in
theorem lawAddClue (v : Value) (cs : List Cl) (K A0 Z : Int) (w : World) (hv : Cv w v cs) :
    Calls Try.prog 6 #[.agg #[v], .agg #[.int .i64 K, .int .i64 A0, .int .i64 Z]] w fun e w' => e = .returned (.bool true) ∧ Below w.heap.size w w' := by
  obtain ⟨p, cap, rfl⟩ := hv.shape
  obtain ⟨W, eW⟩ : ∃ W, (w.alloc (.cells #[.slice p cs.length cap] 44)).alloc (.cells #[.int .i64 K, .int .i64 A0, .int .i64 Z] 46) = W := ⟨_, rfl⟩
  have hb0 : Below w.heap.size w W := by rw [← eW]; exact ((Below.refl _ _).alloc (Nat.le_refl _) _).alloc (by simp) _
  have ZW : W.heap.size = w.heap.size + 1 + 1 := by rw [← eW]; simp
  have HA := Lib.hid (show W.heap[w.heap.size]? = some (.cells #[.slice p cs.length cap] 44 (0, 0)) by rw [← eW]; exact blk_a w _ _)
  have HQ := Lib.hid (show W.heap[w.heap.size + 1]? = some (.cells #[.int .i64 K, .int .i64 A0, .int .i64 Z] 46 (0, 0)) by rw [← eW]; exact blk_b w _ _)
  have A : Bx W w.heap.size (.slice p cs.length cap) := ⟨by omega, (cells1_of HA.out).1⟩
  have ZA : w.heap.size < W.heap.size := A.lt
  have HS := Lib.hid (hv.below hb0 (Nat.le_refl _))
  have SZ := Lib.hid (szPuzzle_any _ cs 1048576 W HS.out HS.out.len (by omega) (by omega))
  clear hv
  by_cases hbig : (1048576 : Int) < cs.length
  · rw [if_pos hbig] at SZ
    have cA := A.cell
    clear hbig
    go_enter Try.func6, Try.ntmps6
    go_wp2_with fail
    clear eW cA
    refine SZ.out.mono ?_
    rintro e w0 ⟨rfl, b⟩
    go_wp2_with fail
    go_ret
    exact ⟨rfl, nxt hb0 b⟩
  rw [if_neg hbig] at SZ
  have HL : Hid (cs.length ≤ 1048576) := Lib.hid (by omega)
  have HL2 : Hid (cs.length ≤ 1099511627776) := Lib.hid (by omega)
  have HRm := Lib.hid (show (acR cs ⟨K, A0, Z⟩).length ≤ 1048576 by have := acR_len cs ⟨K, A0, Z⟩; omega)
  have HR := Lib.hid (show (acR cs ⟨K, A0, Z⟩).length ≤ 1099511627776 by have := acR_len cs ⟨K, A0, Z⟩; omega)
  obtain ⟨r, er⟩ : ∃ r : Int, 1048576 - (cs.length : Int) = r := ⟨_, rfl⟩
  rw [er] at SZ
  have dr : decide (r < 0) = false := by simp; omega
  clear er hbig
  have cA := A.cell
  go_enter Try.func6, Try.ntmps6
  go_wp2_with fail
  clear eW cA A
  refine SZ.out.mono ?_
  rintro e w0 ⟨rfl, t⟩
  clear SZ
  have SA := fun (W' : World) (h : Below w0.heap.size w0 W') => Lib.hid (s_pq HA.out HQ.out t h)
  have HT := Lib.hid t
  go_upto_region 5 with (fail)
  go_cut [6, 7] from 21 to 28 (fun s6 s7 wx => ∃ g p8 c8 B e, s6 = .pointer (some ⟨g, 0, none⟩) ∧ s7 = .bool (acB cs ⟨K, A0, Z⟩) ∧ Lfa w0 wx g (.slice p8 (acR cs ⟨K, A0, Z⟩).length c8) (acR cs ⟨K, A0, Z⟩) B e)
  case first =>
    have TP := Lib.hid (fun (W' : World) (hW : Below w0.heap.size w0 W') => toPuzzle_any _ cs W' (HS.out.below (nxt HT.out hW) (Nat.le_refl _)) HL2.out)
    have HSA := Lib.hid SA
    obtain ⟨ga1, ga2, ga3, ga4⟩ := (SA w0 (Below.refl _ _)).out
    obtain ⟨gb1, gb2, gb3, gb4⟩ := (SA w0.drew (Below.refl _ _).drew).out
    obtain ⟨gc1, gc2, gc3, gc4⟩ := (SA (w0.alloc (.cells #[.slice none 0 0] 50)) ((Below.refl _ _).alloc (Nat.le_refl _) _)).out
    obtain ⟨gd1, gd2, gd3, gd4⟩ := (SA (w0.drew.alloc (.cells #[.slice none 0 0] 50)) ((Below.refl _ _).drew.alloc (Nat.le_refl _) _)).out
    obtain ⟨ge1, ge2, ge3, ge4⟩ := (SA (w0.alloc (.cells #[.slice none 0 0] 50)).drew ((Below.refl _ _).alloc (Nat.le_refl _) _).drew).out
    clear SA
    go_region_law (first
      | (go_simp; go_at_call 23; refine (TP.out _ (by first | exact Below.refl _ _ | exact (Below.refl _ _).drew | exact (Below.refl _ _).alloc (Nat.le_refl _) _ | exact (Below.refl _ _).drew.alloc (Nat.le_refl _) _ | exact ((Below.refl _ _).alloc (Nat.le_refl _) _).drew)).mono ?_; rintro e w6 ⟨y6, g6, rfl, o6, -, b6⟩; obtain ⟨p6, c6, rfl⟩ := o6.shape; have B6 : Below w0.heap.size w0 w6 := (by first | exact b6 | exact (Below.refl _ _).drew.trans b6 | exact ((Below.refl _ _).alloc (Nat.le_refl _) _).trans (b6.mono (by simp)) | exact ((Below.refl _ _).drew.alloc (Nat.le_refl _) _).trans (b6.mono (by simp)) | exact ((Below.refl _ _).alloc (Nat.le_refl _) _).drew.trans (b6.mono (by simp))); obtain ⟨h1, h2, h3, h4⟩ := (HSA.out w6 B6).out; obtain ⟨i1, i2, i3, i4⟩ := (HSA.out _ (B6.alloc B6.size (.cells #[.slice none 0 0] 50))).out; first | refine (fun k6 => ?_) ((b6.block w0.heap.size (by simp)).trans (heap_alloc_new w0.drew _)) | refine (fun k6 => ?_) ((b6.block w0.heap.size (by simp)).trans (heap_alloc_new w0 _)) | skip)
      | (go_simp; go_at_call 24; refine (toClue_any _ _ _ _).mono ?_; rintro e w7 ⟨rfl, b7⟩; have B7 : Below w0.heap.size w0 w7 := (by first | exact nxt B6 b7 | exact nxt (B6.alloc B6.size _) b7); (first | replace o6 := o6.below b7 (Nat.le_refl _) | replace o6 := (o6.below ((Below.refl _ _).alloc (Nat.le_refl _) _) (Nat.le_refl _)).below b7 (Nat.le_refl _)); first | refine (fun k7 => ?_) ((b7.block w0.heap.size (Array.getElem?_eq_some_iff.1 k6).1).trans k6) | refine (fun k7 => ?_) ((b7.block w6.heap.size (by simp)).trans (heap_alloc_new w6 _)) | skip)
      | (go_simp; go_at_call 22; refine (specAddClue_any _ _ cs K A0 Z _ (by first | exact o6 | exact o6.below ((Below.refl _ _).alloc (Nat.le_refl _) _) (Nat.le_refl _)) HL2.out).mono ?_; rintro e w8 ⟨y8, rfl, o8, b8⟩; obtain ⟨p8, c8, rfl⟩ := o8.shape; have B8 : Below w0.heap.size w0 w8 := (by first | exact nxt B7 b8 | exact nxt (B7.alloc B7.size _) b8); first | (refine (fun k8 => ?_) ((b8.block _ (Array.getElem?_eq_some_iff.1 k7).1).trans k7); obtain ⟨ck, fk⟩ := cells1_of k8) | (refine (fun k8 => ?_) ((b8.block w7.heap.size (by simp)).trans (heap_alloc_new w7 _)); obtain ⟨ck, fk⟩ := cells1_of k8) | skip))
    all_goals
      first | go_meet | (go_step; go_meet) | (go_wp2_with fail; go_meet)
      first
        | exact ⟨_, _, _, _, _, rfl, rfl, lf_new o8 (by first | exact B7.size | (have := B7.size; simp; omega)) B8 b8.size _⟩
        | exact ⟨_, _, _, _, _, rfl, rfl, lf_set ck o8 (by first | exact (Array.getElem?_eq_some_iff.1 k7).1 | simp) (by first | exact B7.size | exact B6.size | exact Nat.le_refl _) B8 b8.size⟩
  case rest =>
    obtain ⟨gV, p2, c2, B2, e2, rfl, rfl, L2⟩ := hcut
    replace t := nxt t L2.bel
    have V := L2.bx
    have S2 := Lib.hid L2.ck.cv
    clear L2
    try clear SA
    try clear HT
    obtain ⟨W2, hW⟩ : ∃ x, x = wc := ⟨_, rfl⟩
    subst hW
    have ZT : W.heap.size ≤ W2.heap.size := t.size
    have T : Below W2.heap.size W2 W2 := Below.refl _ _
    have ZV := V.lt
    have cA := (cells1_of ((t.block _ ZA).trans HA.out)).1
    go_wp2_with fail
    clear cA
    refine (toPuzzle_any _ cs _ (HS.out.below t (Nat.le_refl _)) HL2.out).mono ?_
    rintro e w3 ⟨y3, g3, rfl, X, -, b⟩
    replace V := V.below b
    replace t := nxt t b
    replace T := nxt T b
    clear b
    obtain ⟨p3, c3, rfl⟩ := X.shape
    obtain ⟨W3, eW3⟩ : ∃ W3, w3.alloc (.cells #[.slice p3 cs.length c3] 50) = W3 := ⟨_, rfl⟩
    have b : Below w3.heap.size w3 W3 := by rw [← eW3]; exact (Below.refl _ _).alloc (Nat.le_refl _) _
    have BX : Bx W3 w3.heap.size (.slice p3 cs.length c3) := by rw [← eW3]; exact bx_new _ _ _
    have XB := X.lo b.size
    replace V := V.below b
    replace X := X.below b (Nat.le_refl _)
    replace t := nxt t b
    replace T := nxt T b
    clear b
    have ZT3 : W2.heap.size ≤ W3.heap.size := T.size
    have SB := fun (W' : World) (h : Below W3.heap.size W3 W') => Lib.hid (x_q HQ.out t BX h)
    have HX := Lib.hid X
    go_upto_region 7 with (fail)
    clear eW3
    go_cut [9, 10] from 31 to 37 (fun s9 s10 wx => ∃ g p8 c8 B e, s9 = .pointer (some ⟨g, 0, none⟩) ∧ s10 = .bool (acB cs ⟨K, A0, Z⟩) ∧ Lfa W3 wx g (.slice p8 (acR cs ⟨K, A0, Z⟩).length c8) (acR cs ⟨K, A0, Z⟩) B e)
    case first =>
      have HSA := Lib.hid SB
      obtain ⟨ga1, ga2, ga3, ga4⟩ := (SB W3 (Below.refl _ _)).out
      obtain ⟨gb1, gb2, gb3, gb4⟩ := (SB W3.drew (Below.refl _ _).drew).out
      obtain ⟨gc1, gc2, gc3, gc4⟩ := (SB (W3.alloc (.cells #[.slice none 0 0] 50)) ((Below.refl _ _).alloc (Nat.le_refl _) _)).out
      obtain ⟨gd1, gd2, gd3, gd4⟩ := (SB (W3.drew.alloc (.cells #[.slice none 0 0] 50)) ((Below.refl _ _).drew.alloc (Nat.le_refl _) _)).out
      obtain ⟨ge1, ge2, ge3, ge4⟩ := (SB (W3.alloc (.cells #[.slice none 0 0] 50)).drew ((Below.refl _ _).alloc (Nat.le_refl _) _).drew).out
      clear SB
      go_region_law (first
        | (go_simp; go_at_call 24; refine (toClue_any _ _ _ _).mono ?_; rintro e w7 ⟨rfl, b7⟩; have B7 : Below W3.heap.size W3 w7 := (by first | exact b7 | exact (Below.refl _ _).drew.trans b7 | exact ((Below.refl _ _).alloc (Nat.le_refl _) _).trans (b7.mono (by simp)) | exact ((Below.refl _ _).drew.alloc (Nat.le_refl _) _).trans (b7.mono (by simp)) | exact ((Below.refl _ _).alloc (Nat.le_refl _) _).drew.trans (b7.mono (by simp))); obtain ⟨h1, h2, h3, h4⟩ := (HSA.out w7 B7).out; obtain ⟨i1, i2, i3, i4⟩ := (HSA.out _ (B7.alloc B7.size (.cells #[.slice none 0 0] 50))).out; first | refine (fun k7 => ?_) ((b7.block W3.heap.size (by simp)).trans (heap_alloc_new W3.drew _)) | refine (fun k7 => ?_) ((b7.block W3.heap.size (by simp)).trans (heap_alloc_new W3 _)) | skip)
        | (go_simp; go_at_call 25; refine (implAddClue_any _ _ cs K A0 Z _ (HX.out.below (by first | exact B7 | exact B7.alloc B7.size _) (Nat.le_refl _)) HL2.out).mono ?_; rintro e w8 ⟨y8, rfl, o8, b8⟩; obtain ⟨p8, c8, rfl⟩ := o8.shape; have B8 : Below W3.heap.size W3 w8 := (by first | exact nxt B7 b8 | exact nxt (B7.alloc B7.size _) b8); first | (refine (fun k8 => ?_) ((b8.block _ (Array.getElem?_eq_some_iff.1 k7).1).trans k7); obtain ⟨ck, fk⟩ := cells1_of k8) | (refine (fun k8 => ?_) ((b8.block w7.heap.size (by simp)).trans (heap_alloc_new w7 _)); obtain ⟨ck, fk⟩ := cells1_of k8) | skip))
      all_goals
        first | go_meet | (go_step; go_meet) | (go_wp2_with fail; go_meet)
        first
          | exact ⟨_, _, _, _, _, rfl, rfl, lf_new o8 (by first | exact B7.size | (have := B7.size; simp; omega)) B8 b8.size _⟩
          | exact ⟨_, _, _, _, _, rfl, rfl, lf_set ck o8 (by first | exact (Array.getElem?_eq_some_iff.1 k7).1 | simp) (by first | exact B7.size | exact Nat.le_refl _) B8 b8.size⟩
    case rest =>
      obtain ⟨gG, p4, c4, B4, e4, rfl, rfl, L4⟩ := hcut
      obtain ⟨W4, hW⟩ : ∃ x, x = wc := ⟨_, rfl⟩
      subst hW
      have b := L4.bel
      have G := L4.bx
      have o4 := L4.ck
      have OB := L4.own
      have SEP := L4.sep
      have LOG := L4.lo
      have LOB := L4.loB
      have LE := L4.le
      have ZB := L4.lB
      clear L4
      try clear SB
      try clear HX
      replace V := V.below b
      replace X := X.below b (Nat.le_refl _)
      replace BX := BX.below b
      replace t := nxt t b
      replace T := nxt T b
      clear b
      have cG := G.cell
      have cV := V.cell
      go_wp2_with fail
      clear cG cV
      refine (eqPuzzle_yes _ _ _ _ _ o4.cv (S2.out.below T (Nat.le_refl _)) rfl HR.out).mono ?_
      rintro e w5 ⟨rfl, b⟩
      replace V := V.below b
      replace X := X.below b (Nat.le_refl _)
      replace BX := BX.below b
      replace o4 := o4.below b (Nat.le_refl _)
      replace G := G.below b
      replace t := nxt t b
      replace T := nxt T b
      replace ZB := Nat.le_trans ZB b.size
      clear b
      have AB : Bx w5 w.heap.size (.slice p cs.length cap) := ⟨Nat.lt_of_lt_of_le ZA t.size, (cells1_of ((t.block _ ZA).trans HA.out)).1⟩
      have SA := fun (W' : World) (h : Below w5.heap.size w5 W') => Lib.hid (s_two BX AB h)
      have KX := Lib.hid X.cv
      have HT := Lib.hid t
      have cBX := BX.cell
      have cA := AB.cell
      go_upto_region 10 with (fail)
      clear cBX cA AB
      go_region_held3 (fun w' => w'.cell? ⟨w3.heap.size, 0, none⟩ = some (.slice p3 cs.length c3) ∧ w'.cell? ⟨w.heap.size, 0, none⟩ = some (.slice p cs.length cap) ∧ Below w5.heap.size w5 w') ((first | assumption | exact (SA _ (below_drewN (Below.refl _ _) 1)).out | exact (SA _ (Below.refl _ _)).out | exact SB.out | exact SC.out)) ((first
        | (go_at_call 23; refine (toPuzzle_any _ cs _ (HS.out.below (nxt HT.out (s_bel w3.heap.size w.heap.size (.slice p3 cs.length c3) (.slice p cs.length cap) (by assumption))) (Nat.le_refl _)) HL2.out).mono ?_; rintro e w6 ⟨y6, g6, rfl, o6, -, b6⟩; obtain ⟨p6, c6, rfl⟩ := o6.shape; have SB := SA w6 (nxt (s_bel w3.heap.size w.heap.size (.slice p3 cs.length c3) (.slice p cs.length cap) (by assumption)) b6); have O6 := Lib.hid o6.cv; clear o6 b6)
        | (go_at_call 26; refine (eqPuzzle_yes _ _ _ _ _ (KX.out.below SB.out.2.2 (Nat.le_refl _)) O6.out rfl HL2.out).mono ?_; rintro e w7 ⟨rfl, b7⟩; have SC := SA w7 (nxt SB.out.2.2 b7); clear b7)))
      have b := SC.out.2.2
      clear SA SB SC KX O6 HT
      replace V := V.below b
      replace X := X.below b (Nat.le_refl _)
      replace BX := BX.below b
      replace o4 := o4.below b (Nat.le_refl _)
      replace G := G.below b
      replace t := nxt t b
      replace T := nxt T b
      replace ZB := Nat.le_trans ZB b.size
      clear b
      have d1 : decide (1 + 3 * (cs.length : Int) < 0) = false := by simp; omega
      have cBX := BX.cell
      go_wp2_with fail
      clear cBX
      refine (markPuzzle_any _ cs _ 1 _ X HL.out (by omega) (by omega)).mono ?_
      rintro e w8 ⟨rfl, -, g8⟩
      have m8 := mid_row g8 XB
      clear X BX g8 XB
      have zT := T.size
      replace V := V.mid m8 (.inl (by omega))
      replace o4 := o4.midO m8 (by omega)
      replace G := G.mid m8 ((.inr (by omega)))
      have b := (m8.below (by have := T.size; omega))
      replace ZB := Nat.le_trans ZB m8.size
      replace T := T.trans (b.mono (by omega))
      replace t := t.trans (b.mono (by omega))
      clear b m8
      have cG := G.cell
      have cV := V.cell
      go_wp2_with fail
      clear cG cV
      refine (eqPuzzle_yes _ _ _ _ _ o4.cv (S2.out.below T (Nat.le_refl _)) rfl HR.out).mono ?_
      rintro e w9 ⟨rfl, b⟩
      replace V := V.below b
      replace o4 := o4.below b (Nat.le_refl _)
      replace G := G.below b
      replace t := nxt t b
      replace T := nxt T b
      replace ZB := Nat.le_trans ZB b.size
      clear b
      have cG := G.cell
      go_wp2_with fail
      clear cG
      have zT2 := T.size
      refine (markPuzzle_any _ (acR cs ⟨K, A0, Z⟩) _ 1 _ o4 HRm.out (by omega) (by omega)).mono ?_
      rintro e w10 ⟨rfl, o10, g10⟩
      have m10 := mid_row g10 OB
      clear g10 o4 OB
      replace V := V.mid m10 (.inl (by omega))
      replace G := G.mid m10 (SEP)
      have b := (m10.below (by have := T.size; omega))
      replace ZB := Nat.le_trans ZB m10.size
      replace T := T.trans (b.mono (by omega))
      replace t := t.trans (b.mono (by omega))
      clear b m10
      have d2 : decide (1 + 3 * ((acR cs ⟨K, A0, Z⟩).length : Int) < 0) = false := by simp; omega
      have cG := G.cell
      go_wp2_with fail
      clear cG
      refine (heldPuzzle_any _ (acR cs ⟨K, A0, Z⟩).length 1 _ o10.cv HRm.out (by omega) (by omega)).mono ?_
      rintro e w11 ⟨rfl, b⟩
      replace V := V.below b
      replace G := G.below b
      replace o10 := o10.below b (Nat.le_refl _)
      replace t := nxt t b
      replace T := nxt T b
      replace ZB := Nat.le_trans ZB b.size
      clear b
      have SA := fun (W' : World) (h : Below w11.heap.size w11 W') => Lib.hid (s_pq HA.out HQ.out t h)
      have HT := Lib.hid t
      go_upto_region 24 with (fail)
      go_cut [14, 15] from 79 to 86 (fun s14 s15 wx => ∃ g p8 c8 B e, s14 = .pointer (some ⟨g, 0, none⟩) ∧ s15 = .bool (acB cs ⟨K, A0, Z⟩) ∧ Lfa w11 wx g (.slice p8 (acR cs ⟨K, A0, Z⟩).length c8) (acR cs ⟨K, A0, Z⟩) B e)
      case first =>
        have TP := Lib.hid (fun (W' : World) (hW : Below w11.heap.size w11 W') => toPuzzle_any _ cs W' (HS.out.below (nxt HT.out hW) (Nat.le_refl _)) HL2.out)
        have HSA := Lib.hid SA
        obtain ⟨ga1, ga2, ga3, ga4⟩ := (SA w11 (Below.refl _ _)).out
        obtain ⟨gb1, gb2, gb3, gb4⟩ := (SA w11.drew (Below.refl _ _).drew).out
        obtain ⟨gc1, gc2, gc3, gc4⟩ := (SA (w11.alloc (.cells #[.slice none 0 0] 50)) ((Below.refl _ _).alloc (Nat.le_refl _) _)).out
        obtain ⟨gd1, gd2, gd3, gd4⟩ := (SA (w11.drew.alloc (.cells #[.slice none 0 0] 50)) ((Below.refl _ _).drew.alloc (Nat.le_refl _) _)).out
        obtain ⟨ge1, ge2, ge3, ge4⟩ := (SA (w11.alloc (.cells #[.slice none 0 0] 50)).drew ((Below.refl _ _).alloc (Nat.le_refl _) _).drew).out
        clear SA
        go_region_law (first
          | (go_simp; go_at_call 23; refine (TP.out _ (by first | exact Below.refl _ _ | exact (Below.refl _ _).drew | exact (Below.refl _ _).alloc (Nat.le_refl _) _ | exact (Below.refl _ _).drew.alloc (Nat.le_refl _) _ | exact ((Below.refl _ _).alloc (Nat.le_refl _) _).drew)).mono ?_; rintro e w6 ⟨y6, g6, rfl, o6, -, b6⟩; obtain ⟨p6, c6, rfl⟩ := o6.shape; have B6 : Below w11.heap.size w11 w6 := (by first | exact b6 | exact (Below.refl _ _).drew.trans b6 | exact ((Below.refl _ _).alloc (Nat.le_refl _) _).trans (b6.mono (by simp)) | exact ((Below.refl _ _).drew.alloc (Nat.le_refl _) _).trans (b6.mono (by simp)) | exact ((Below.refl _ _).alloc (Nat.le_refl _) _).drew.trans (b6.mono (by simp))); obtain ⟨h1, h2, h3, h4⟩ := (HSA.out w6 B6).out; obtain ⟨i1, i2, i3, i4⟩ := (HSA.out _ (B6.alloc B6.size (.cells #[.slice none 0 0] 50))).out; first | refine (fun k6 => ?_) ((b6.block w11.heap.size (by simp)).trans (heap_alloc_new w11.drew _)) | refine (fun k6 => ?_) ((b6.block w11.heap.size (by simp)).trans (heap_alloc_new w11 _)) | skip)
          | (go_simp; go_at_call 24; refine (toClue_any _ _ _ _).mono ?_; rintro e w7 ⟨rfl, b7⟩; have B7 : Below w11.heap.size w11 w7 := (by first | exact nxt B6 b7 | exact nxt (B6.alloc B6.size _) b7); (first | replace o6 := o6.below b7 (Nat.le_refl _) | replace o6 := (o6.below ((Below.refl _ _).alloc (Nat.le_refl _) _) (Nat.le_refl _)).below b7 (Nat.le_refl _)); first | refine (fun k7 => ?_) ((b7.block w11.heap.size (Array.getElem?_eq_some_iff.1 k6).1).trans k6) | refine (fun k7 => ?_) ((b7.block w6.heap.size (by simp)).trans (heap_alloc_new w6 _)) | skip)
          | (go_simp; go_at_call 25; refine (implAddClue_any _ _ cs K A0 Z _ (by first | exact o6 | exact o6.below ((Below.refl _ _).alloc (Nat.le_refl _) _) (Nat.le_refl _)) HL2.out).mono ?_; rintro e w8 ⟨y8, rfl, o8, b8⟩; obtain ⟨p8, c8, rfl⟩ := o8.shape; have B8 : Below w11.heap.size w11 w8 := (by first | exact nxt B7 b8 | exact nxt (B7.alloc B7.size _) b8); first | (refine (fun k8 => ?_) ((b8.block _ (Array.getElem?_eq_some_iff.1 k7).1).trans k7); obtain ⟨ck, fk⟩ := cells1_of k8) | (refine (fun k8 => ?_) ((b8.block w7.heap.size (by simp)).trans (heap_alloc_new w7 _)); obtain ⟨ck, fk⟩ := cells1_of k8) | skip))
        all_goals
          first | go_meet | (go_step; go_meet) | (go_wp2_with fail; go_meet)
          first
            | exact ⟨_, _, _, _, _, rfl, rfl, lf_new o8 (by first | exact B7.size | (have := B7.size; simp; omega)) B8 b8.size _⟩
            | exact ⟨_, _, _, _, _, rfl, rfl, lf_set ck o8 (by first | exact (Array.getElem?_eq_some_iff.1 k7).1 | simp) (by first | exact B7.size | exact B6.size | exact Nat.le_refl _) B8 b8.size⟩
      case rest =>
        obtain ⟨gH, p13, c13, B13, e13, rfl, rfl, L13⟩ := hcut
        obtain ⟨W13, hW⟩ : ∃ x, x = wc := ⟨_, rfl⟩
        subst hW
        have b := L13.bel
        have G13 := L13.bx
        have o13 := L13.ck
        clear L13
        try clear SA
        try clear HT
        replace V := V.below b
        replace G := G.below b
        replace o10 := o10.below b (Nat.le_refl _)
        replace t := nxt t b
        replace T := nxt T b
        replace ZB := Nat.le_trans ZB b.size
        clear b
        have cG13 := G13.cell
        have cV := V.cell
        go_wp2_with fail
        clear cG13 cV
        refine (eqPuzzle_yes _ _ _ _ _ o13.cv (S2.out.below T (Nat.le_refl _)) rfl HR.out).mono ?_
        rintro e w14 ⟨rfl, b⟩
        replace V := V.below b
        replace G := G.below b
        replace o10 := o10.below b (Nat.le_refl _)
        replace o13 := o13.below b (Nat.le_refl _)
        replace G13 := G13.below b
        replace t := nxt t b
        replace T := nxt T b
        replace ZB := Nat.le_trans ZB b.size
        clear b
        clear o13 G13
        have cG := G.cell
        go_wp2_with fail
        clear cG
        refine (heldPuzzle_any _ (acR cs ⟨K, A0, Z⟩).length 1 _ o10.cv HRm.out (by omega) (by omega)).mono ?_
        rintro e w15 ⟨rfl, b⟩
        replace V := V.below b
        replace G := G.below b
        replace o10 := o10.below b (Nat.le_refl _)
        replace t := nxt t b
        replace T := nxt T b
        replace ZB := Nat.le_trans ZB b.size
        clear b
        go_wp2_with fail
        go_ret
        exact ⟨rfl, nxt hb0 t⟩

end Go.Proofs.Ytgojlabkngnkdaa
