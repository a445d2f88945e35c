/-
  The program's table of both sides with one piece more in front, by contract. Condition: pieces.
-/
import Derived.Test.YtcgifmoddojnmaaZvi
import Derived.Deep.RegionHeld3
import Derived.Deep.CutRange
namespace Go.Proofs.Ytcgifmoddojnmaa
open Go.RowKit

/-- What stays of the world in the region: all ahead of N, and the new table but for the entry q. -/
structure SdR (w W : World) (N n q : Nat) (A B C : Nat → Int) (W' : World) : Prop where
  bel : Below N w W'
  size : W.heap.size ≤ W'.heap.size
  dst : ∃ A' B' C' : Nat → Int, Tb W' N n A' B' C' ∧ ∀ j, j ≠ q → A' j = A j ∧ B' j = B j ∧ C' j = C j
theorem six_next {w W Wc w5 : World} {N n q D : Nat} {A B C : Nat → Int} {a b c x y z : Int} (hD : D + 1 < W.heap.size) (hN : N ≤ W.heap.size)
    (h : (Wc.cell? ⟨D, 0, none⟩ = some (.int .i64 a) ∧ Wc.cell? ⟨D, 1, none⟩ = some (.int .i64 b) ∧ Wc.cell? ⟨D, 2, none⟩ = some (.int .i64 c) ∧ Wc.cell? ⟨D + 1, 0, none⟩ = some (.int .i64 x) ∧ Wc.cell? ⟨D + 1, 1, none⟩ = some (.int .i64 y) ∧ Wc.cell? ⟨D + 1, 2, none⟩ = some (.int .i64 z) ∧ SdR w W N n q A B C Wc)) (hb : Below Wc.heap.size Wc w5) : (w5.cell? ⟨D, 0, none⟩ = some (.int .i64 a) ∧ w5.cell? ⟨D, 1, none⟩ = some (.int .i64 b) ∧ w5.cell? ⟨D, 2, none⟩ = some (.int .i64 c) ∧ w5.cell? ⟨D + 1, 0, none⟩ = some (.int .i64 x) ∧ w5.cell? ⟨D + 1, 1, none⟩ = some (.int .i64 y) ∧ w5.cell? ⟨D + 1, 2, none⟩ = some (.int .i64 z) ∧ SdR w W N n q A B C w5) := by
  obtain ⟨h1, h2, h3, h4, h5, h6, hR⟩ := h
  have hz := hR.size
  have e : ∀ (d o : Nat) (u : Value), d ≤ D + 1 → Wc.cell? ⟨d, o, none⟩ = some u → w5.cell? ⟨d, o, none⟩ = some u := fun d o u hd hc => (hb.cell (p := ⟨d, o, none⟩) (by show d < _; omega)).trans hc
  refine ⟨e _ _ _ (by omega) h1, e _ _ _ (by omega) h2, e _ _ _ (by omega) h3, e _ _ _ (by omega) h4, e _ _ _ (by omega) h5, e _ _ _ (by omega) h6, ⟨hR.bel.trans (hb.mono (by omega)), Nat.le_trans hz hb.size, ?_⟩⟩
  obtain ⟨A', B', C', ht, he⟩ := hR.dst
  exact ⟨A', B', C', ht.below hb (Nat.le_refl _), he⟩
theorem six_set {w W Wc : World} {N n q D : Nat} {A B C : Nat → Int} {a b c x y z : Int} (hND : N < D)
    (h : (Wc.cell? ⟨D, 0, none⟩ = some (.int .i64 a) ∧ Wc.cell? ⟨D, 1, none⟩ = some (.int .i64 b) ∧ Wc.cell? ⟨D, 2, none⟩ = some (.int .i64 c) ∧ Wc.cell? ⟨D + 1, 0, none⟩ = some (.int .i64 x) ∧ Wc.cell? ⟨D + 1, 1, none⟩ = some (.int .i64 y) ∧ Wc.cell? ⟨D + 1, 2, none⟩ = some (.int .i64 z) ∧ SdR w W N n q A B C Wc)) (u v t : Int) :
    ((((Wc.setCell ⟨N, q * 3, none⟩ (.int .i64 u)).setCell ⟨N, q * 3 + 1, none⟩ (.int .i64 v)).setCell ⟨N, q * 3 + 2, none⟩ (.int .i64 t)).cell? ⟨D, 0, none⟩ = some (.int .i64 a) ∧ (((Wc.setCell ⟨N, q * 3, none⟩ (.int .i64 u)).setCell ⟨N, q * 3 + 1, none⟩ (.int .i64 v)).setCell ⟨N, q * 3 + 2, none⟩ (.int .i64 t)).cell? ⟨D, 1, none⟩ = some (.int .i64 b) ∧ (((Wc.setCell ⟨N, q * 3, none⟩ (.int .i64 u)).setCell ⟨N, q * 3 + 1, none⟩ (.int .i64 v)).setCell ⟨N, q * 3 + 2, none⟩ (.int .i64 t)).cell? ⟨D, 2, none⟩ = some (.int .i64 c) ∧ (((Wc.setCell ⟨N, q * 3, none⟩ (.int .i64 u)).setCell ⟨N, q * 3 + 1, none⟩ (.int .i64 v)).setCell ⟨N, q * 3 + 2, none⟩ (.int .i64 t)).cell? ⟨D + 1, 0, none⟩ = some (.int .i64 x) ∧ (((Wc.setCell ⟨N, q * 3, none⟩ (.int .i64 u)).setCell ⟨N, q * 3 + 1, none⟩ (.int .i64 v)).setCell ⟨N, q * 3 + 2, none⟩ (.int .i64 t)).cell? ⟨D + 1, 1, none⟩ = some (.int .i64 y) ∧ (((Wc.setCell ⟨N, q * 3, none⟩ (.int .i64 u)).setCell ⟨N, q * 3 + 1, none⟩ (.int .i64 v)).setCell ⟨N, q * 3 + 2, none⟩ (.int .i64 t)).cell? ⟨D + 1, 2, none⟩ = some (.int .i64 z) ∧ SdR w W N n q A B C (((Wc.setCell ⟨N, q * 3, none⟩ (.int .i64 u)).setCell ⟨N, q * 3 + 1, none⟩ (.int .i64 v)).setCell ⟨N, q * 3 + 2, none⟩ (.int .i64 t))) := by
  obtain ⟨h1, h2, h3, h4, h5, h6, hR⟩ := h
  have e : ∀ (d o : Nat) (u' : Value), D ≤ d → Wc.cell? ⟨d, o, none⟩ = some u' → (((Wc.setCell ⟨N, q * 3, none⟩ (.int .i64 u)).setCell ⟨N, q * 3 + 1, none⟩ (.int .i64 v)).setCell ⟨N, q * 3 + 2, none⟩ (.int .i64 t)).cell? ⟨d, o, none⟩ = some u' := fun d o u' hd hc => by
    rw [World.cell?_setCell_other _ _ _ _ (by simp <;> omega), World.cell?_setCell_other _ _ _ _ (by simp <;> omega), World.cell?_setCell_other _ _ _ _ (by simp <;> omega)]
    exact hc
  refine ⟨e _ _ _ (by omega) h1, e _ _ _ (by omega) h2, e _ _ _ (by omega) h3, e _ _ _ (by omega) h4, e _ _ _ (by omega) h5, e _ _ _ (by omega) h6, ⟨?_, ?_, ?_⟩⟩
  · exact ((hR.bel.setCell (p := ⟨N, q * 3, none⟩) (Nat.le_refl _) _).setCell (p := ⟨N, q * 3 + 1, none⟩) (Nat.le_refl _) _).setCell (p := ⟨N, q * 3 + 2, none⟩) (Nat.le_refl _) _
  · have := hR.size; simpa [World.setCell] using this
  · obtain ⟨A', B', C', ht, he⟩ := hR.dst
    refine ⟨_, _, _, ht.set (j := q) u v t, fun j hj => ?_⟩
    simp only [if_neg hj]
    exact he j hj
theorem six_bel {w W Wc : World} {N n q D : Nat} {A B C : Nat → Int} {a b c x y z : Int} (h : (Wc.cell? ⟨D, 0, none⟩ = some (.int .i64 a) ∧ Wc.cell? ⟨D, 1, none⟩ = some (.int .i64 b) ∧ Wc.cell? ⟨D, 2, none⟩ = some (.int .i64 c) ∧ Wc.cell? ⟨D + 1, 0, none⟩ = some (.int .i64 x) ∧ Wc.cell? ⟨D + 1, 1, none⟩ = some (.int .i64 y) ∧ Wc.cell? ⟨D + 1, 2, none⟩ = some (.int .i64 z) ∧ SdR w W N n q A B C Wc)) : Below N w Wc := h.2.2.2.2.2.2.bel
/-- The new table in the middle of the walk: up to q the new entries. -/
def wsA (f : Int → Int) (q : Nat) (j : Nat) : Int := if j < q then f j else 0
theorem tb_zero (w : World) (n : Nat) : Tb (w.alloc (.cells (madeCells #[Value.int .i64 0, .int .i64 0, .int .i64 0] (n * 3)) 52)) w.heap.size n (fun _ => 0) (fun _ => 0) (fun _ => 0) :=
  ⟨_, heap_alloc_new w _, by simp [size_madeCells], fun j hj => ⟨made_zero n (j * 3) (by omega), made_zero n (j * 3 + 1) (by omega), made_zero n (j * 3 + 2) (by omega)⟩⟩

set_option maxHeartbeats 8000000 in
set_option maxRecDepth 100000 in
theorem withSides_any (g n k m : Nat) (l : List Int) (C : Int → Int) (w : World) (hT : Tbs w g C l) (hC : StOk l C) (hn : n = (sumFrom 0 l).toNat + 1) (hl : ∀ x ∈ l, 1 ≤ x ∧ x ≤ 10000) (hlen : l.length ≤ 19) (hm1 : 1 ≤ m) (hm2 : m ≤ 10000) :
    Calls Try.prog 94 #[.slice (some ⟨g, 0, none⟩) n n, .int .i64 (k : Int), .int .i64 (m : Int)] w
      fun e w' => e = .returned (.slice (some ⟨w.heap.size, 0, none⟩) (n + m) (n + m)) ∧ Tb w' w.heap.size (n + m) (fun j => Sy ((m : Int) :: l) j) (fun j => Fs ((m : Int) :: l) j) (fun j => gcons l C k m j) ∧ Below w.heap.size w w' := by
  have hsl := sumFrom_bd l 0 hl
  have hs : sumFrom 0 l ≤ 200000 := by omega
  have hn2 : n ≤ 200001 := by omega
  obtain ⟨i0, hi, hz0, hz1, hz2⟩ := info_parts Try.infoM
  have hmk : ∀ w, (Instr.makeSlice 55 (.int .i64 ((n : Int) + m)) (.int .i64 ((n : Int) + m))).run Try.prog w = .ok (.slice (some ⟨w.heap.size, 0, none⟩) (n + m) (n + m)) (w.alloc (.cells (madeCells #[.int .i64 0, .int .i64 0, .int .i64 0] ((n + m) * 3)) 52)) := fun w => by
    have h := run_make (P := Try.prog) w 55 52 i0 _ Try.underlying55 hi hz0 .i64 .i64 ((n : Int) + m) ((n : Int) + m) (by omega) (by omega) (by rw [hz2]; omega) (by omega)
    rw [show ((n : Int) + m).toNat = n + m by omega, hz1] at h
    exact h
  have HT := Lib.hid hT
  have HCO := Lib.hid hC
  have HN := Lib.hid hn
  have HL := Lib.hid hl
  have HSL := Lib.hid hs
  have hgw := hT.lt
  have T0 := Lib.hid (tb_zero w (n + m))
  obtain ⟨T, eT⟩ : ∃ T, n + m = T := ⟨_, rfl⟩
  rw [eT] at hmk T0 ⊢
  have ecT : (n : Int) + m = (T : Int) := by omega
  rw [ecT] at hmk
  have hT2 : T ≤ 210001 := by omega
  clear hT hC hn hl hs hsl hi hz0 hz1 hz2 eT
  go_enter Try.func94, Try.ntmps94
  go_wp2
  go_loopw [18] (fun i wr => ∃ q : Nat, q ≤ T ∧ i = .int .i64 q ∧ Tb wr w.heap.size T (wsA (Sy ((m : Int) :: l)) q) (wsA (Fs ((m : Int) :: l)) q) (wsA (gcons l C k m) q) ∧ Below w.heap.size w wr) (fun i _ => T - (intOf i).toNat)
  case atStart => exact ⟨0, Nat.zero_le _, rfl, T0.out.congr (fun j hj => by simp [wsA]), (Below.refl _ _).alloc (Nat.le_refl _) _⟩
  case round =>
    obtain ⟨q, hq, rfl, htb, hb⟩ := hrel
    clear T0 hmk
    by_cases hlt : q < T
    · have hz := hb.size
      have b1 := fun s => Sy_bd20 l s (by omega)
      have b2 := fun s => Fs_bd l s
      have zF := Fs_zero l
      have zG := HCO.out.zr
      have V := fun (v : Int) (W : World) (hW : Below w.heap.size w W) (h0 : -1099511627776 ≤ v) (h1 : v ≤ 1099511627776) => valueIn_any g n C l v W (HT.out.below hW (Nat.le_refl _)) HCO.out HN.out HL.out HSL.out h0 h1
      have V1 := fun W hW => Lib.hid (V ((q : Int) - m) W hW (by omega) (by omega))
      have V2 := fun W hW => Lib.hid (V ((q : Int) + m) W hW (by omega) (by omega))
      have V3 := fun W hW => Lib.hid (V (q : Int) W hW (by omega) (by omega))
      have E1 : Hid (Sy ((m : Int) :: l) q = Sy l q + Sy l ((q : Int) - m) + Sy l ((q : Int) + m)) := Lib.hid rfl
      have E2 : Hid (Fs ((m : Int) :: l) q = orB (Sy l q + Sy l ((q : Int) - m)) (orB (Sy l q) (Fs l q) (Sy l ((q : Int) - m)) (Fs l ((q : Int) - m))) (Sy l ((q : Int) + m)) (Fs l ((q : Int) + m))) := Lib.hid rfl
      have E3 : Hid (gcons l C k m q = orC (Sy l q + Sy l ((q : Int) - m)) (orC (Sy l q) (C q) (Sy l ((q : Int) - m)) k) (Sy l ((q : Int) + m)) k) := Lib.hid rfl
      have bx := b1 (q : Int)
      have ba := b1 ((q : Int) - m)
      have bu := b1 ((q : Int) + m)
      have by' := b2 (q : Int)
      have bb := b2 ((q : Int) - m)
      have bv := b2 ((q : Int) + m)
      have zx : Sy l q = 0 → Fs l q = 0 ∧ C q = 0 := fun z => ⟨zF _ z, zG _ z⟩
      have za : Sy l ((q : Int) - m) = 0 → Fs l ((q : Int) - m) = 0 ∧ C ((q : Int) - m) = 0 := fun z => ⟨zF _ z, zG _ z⟩
      have zu : Sy l ((q : Int) + m) = 0 → Fs l ((q : Int) + m) = 0 ∧ C ((q : Int) + m) = 0 := fun z => ⟨zF _ z, zG _ z⟩
      obtain ⟨x, ex⟩ : ∃ x, Sy l q = x := ⟨_, rfl⟩
      obtain ⟨a, ea⟩ : ∃ x, Sy l ((q : Int) - m) = x := ⟨_, rfl⟩
      obtain ⟨u, eu⟩ : ∃ x, Sy l ((q : Int) + m) = x := ⟨_, rfl⟩
      obtain ⟨y, ey⟩ : ∃ x, Fs l q = x := ⟨_, rfl⟩
      obtain ⟨b, eb⟩ : ∃ x, Fs l ((q : Int) - m) = x := ⟨_, rfl⟩
      obtain ⟨v, ev⟩ : ∃ x, Fs l ((q : Int) + m) = x := ⟨_, rfl⟩
      obtain ⟨z, ez⟩ : ∃ x, C q = x := ⟨_, rfl⟩
      obtain ⟨c, ec⟩ : ∃ x, C ((q : Int) - m) = x := ⟨_, rfl⟩
      obtain ⟨t, et⟩ : ∃ x, C ((q : Int) + m) = x := ⟨_, rfl⟩
      rw [ex, ey, ez] at V3 zx
      rw [ea, eb, ec] at V1 za
      rw [eu, ev, et] at V2 zu
      rw [ex, ea, eu] at E1
      rw [ex, ey, ea, eb, eu, ev] at E2
      rw [ex, ez, ea, eu] at E3
      rw [ex] at bx; rw [ea] at ba; rw [eu] at bu; rw [ey] at by'; rw [eb] at bb; rw [ev] at bv
      obtain ⟨bx0, bx1⟩ := bx
      obtain ⟨ba0, ba1⟩ := ba
      obtain ⟨bu0, bu1⟩ := bu
      obtain ⟨by0, by1⟩ := by'
      obtain ⟨bb0, bb1⟩ := bb
      obtain ⟨bv0, bv1⟩ := bv
      have by2 : y ≤ 19 := by omega
      have bb2 : b ≤ 19 := by omega
      have bv2 : v ≤ 19 := by omega
      have bo0 : 0 ≤ orB x y a b := by unfold orB; repeat' split
                                       all_goals omega
      have bo1 : orB x y a b ≤ 20 := by unfold orB; repeat' split
                                        all_goals omega
      have HZX := Lib.hid zx
      have HZA := Lib.hid za
      have HZU := Lib.hid zu
      have HZO : Hid (x + a = 0 → orB x y a b = 0 ∧ orC x z a k = 0) := Lib.hid (fun h => by
        have h1 : x = 0 := by omega
        have h2 : a = 0 := by omega
        have := zx h1
        simp [orB, orC, h2, this])
      have hw1 : IntKind.i64.wrap ((q : Int) - m) = (q : Int) - m := IntWalk.i64_in _ (by omega)
      have hw2 : IntKind.i64.wrap ((q : Int) + m) = (q : Int) + m := IntWalk.i64_in _ (by omega)
      have hqT : (q : Int) < (T : Int) := by omega
      have hq0 : (0 : Int) ≤ q := by omega
      clear b1 b2 zF zG V ex ea eu ey eb ev ez ec et zx za zu by1 bb1 bv1
      go_wp2_with fail
      refine (V1 _ hb).out.mono ?_
      rintro e w1 ⟨rfl, k1⟩
      have K1 := hb.trans (k1.mono hz)
      have htb1 := htb.below k1 (Nat.le_refl _)
      have z1 := K1.size
      go_wp2_with fail
      refine (V2 _ K1).out.mono ?_
      rintro e w2 ⟨rfl, k2⟩
      have K2 := K1.trans (k2.mono z1)
      have htb2 := htb1.below k2 (Nat.le_refl _)
      have z2 := K2.size
      clear k1 k2 htb htb1 K1 z1 hb V1 V2
      go_upto_region 6 with (fail)
      have HD := Lib.hid (rfl : w2.heap.size = w2.heap.size)
      obtain ⟨D, eD⟩ : ∃ D, w2.heap.size = D := ⟨_, rfl⟩
      have htb3 := (htb2.below ((Below.refl w2.heap.size w2).alloc (Nat.le_refl _) (.cells #[.int .i64 a, .int .i64 b, .int .i64 c] 52)) (Nat.le_refl _))
      have htb4 := htb3.below ((Below.refl _ _).alloc (Nat.le_refl _) (.cells #[.int .i64 u, .int .i64 v, .int .i64 t] 52)) (Nat.le_refl _)
      have K4 := (K2.alloc z2 (.cells #[.int .i64 a, .int .i64 b, .int .i64 c] 52)).alloc (by simp; omega) (.cells #[.int .i64 u, .int .i64 v, .int .i64 t] 52)
      have ka := blk_a w2 (.cells #[.int .i64 a, .int .i64 b, .int .i64 c] 52) (.cells #[.int .i64 u, .int .i64 v, .int .i64 t] 52)
      have kb := blk_b w2 (.cells #[.int .i64 a, .int .i64 b, .int .i64 c] 52) (.cells #[.int .i64 u, .int .i64 v, .int .i64 t] 52)
      have hsz : ((w2.alloc (.cells #[.int .i64 a, .int .i64 b, .int .i64 c] 52)).alloc (.cells #[.int .i64 u, .int .i64 v, .int .i64 t] 52)).heap.size = D + 2 := by simp; omega
      obtain ⟨W, eW⟩ : ∃ W, (w2.alloc (.cells #[.int .i64 a, .int .i64 b, .int .i64 c] 52)).alloc (.cells #[.int .i64 u, .int .i64 v, .int .i64 t] 52) = W := ⟨_, rfl⟩
      rw [eW] at htb4 K4 ka kb hsz ⊢
      rw [eD] at ka kb z2 ⊢
      have hND : w.heap.size < D := by have := htb2.lt; omega
      have S0 : Hid (W.drew.cell? ⟨D, 0, none⟩ = some (.int .i64 a) ∧ W.drew.cell? ⟨D, 1, none⟩ = some (.int .i64 b) ∧ W.drew.cell? ⟨D, 2, none⟩ = some (.int .i64 c) ∧ W.drew.cell? ⟨D + 1, 0, none⟩ = some (.int .i64 u) ∧ W.drew.cell? ⟨D + 1, 1, none⟩ = some (.int .i64 v) ∧ W.drew.cell? ⟨D + 1, 2, none⟩ = some (.int .i64 t) ∧ SdR w W w.heap.size T q (wsA (Sy ((m : Int) :: l)) q) (wsA (Fs ((m : Int) :: l)) q) (wsA (gcons l C k m) q) W.drew) :=
        Lib.hid ⟨by show W.cell? _ = _; simp only [World.cell?, ka]; rfl, by show W.cell? _ = _; simp only [World.cell?, ka]; rfl, by show W.cell? _ = _; simp only [World.cell?, ka]; rfl, by show W.cell? _ = _; simp only [World.cell?, kb]; rfl, by show W.cell? _ = _; simp only [World.cell?, kb]; rfl, by show W.cell? _ = _; simp only [World.cell?, kb]; rfl, ⟨K4.drew, Nat.le_refl _, ⟨_, _, _, htb4, fun _ _ => ⟨rfl, rfl, rfl⟩⟩⟩⟩
      have NX := fun (Wc w5 : World) (h : (Wc.cell? ⟨D, 0, none⟩ = some (.int .i64 a) ∧ Wc.cell? ⟨D, 1, none⟩ = some (.int .i64 b) ∧ Wc.cell? ⟨D, 2, none⟩ = some (.int .i64 c) ∧ Wc.cell? ⟨D + 1, 0, none⟩ = some (.int .i64 u) ∧ Wc.cell? ⟨D + 1, 1, none⟩ = some (.int .i64 v) ∧ Wc.cell? ⟨D + 1, 2, none⟩ = some (.int .i64 t) ∧ SdR w W w.heap.size T q (wsA (Sy ((m : Int) :: l)) q) (wsA (Fs ((m : Int) :: l)) q) (wsA (gcons l C k m) q) Wc)) (hb : Below Wc.heap.size Wc w5) => Lib.hid (six_next (by omega) (by omega) h hb)
      clear htb2 htb3 htb4 K2 K4 ka kb hsz eW eD HD
      go_region_held3 (fun w' => w'.cell? ⟨D, 0, none⟩ = some (.int .i64 a) ∧ w'.cell? ⟨D, 1, none⟩ = some (.int .i64 b) ∧ w'.cell? ⟨D, 2, none⟩ = some (.int .i64 c) ∧ w'.cell? ⟨D + 1, 0, none⟩ = some (.int .i64 u) ∧ w'.cell? ⟨D + 1, 1, none⟩ = some (.int .i64 v) ∧ w'.cell? ⟨D + 1, 2, none⟩ = some (.int .i64 t) ∧ SdR w W w.heap.size T q (wsA (Sy ((m : Int) :: l)) q) (wsA (Fs ((m : Int) :: l)) q) (wsA (gcons l C k m) q) w') ((first | assumption | exact S0.out | exact SB.out | exact six_set hND SB.out _ _ _)) ((first
        | (go_at_call 61; refine (V3 _ (six_bel (by assumption))).out.mono ?_; rintro e w5 ⟨rfl, b5⟩; have SB := NX _ _ (by assumption) b5; obtain ⟨A5, B5, C5, T5, E5⟩ := SB.out.2.2.2.2.2.2.dst; obtain ⟨g1, g2, g3, g4, g5, g6⟩ := T5.cells (j := q) hlt; clear b5)
        | (go_at_call 101; refine (or_any _ _ _ _ _ _ _ _ (by omega) (by omega) (by omega) (by omega) (by omega) (by omega) (by omega) (by omega) (by first | exact HZX.out | exact HZO.out) (by first | exact HZA.out | exact HZU.out)).mono ?_; rintro e w5 ⟨rfl, b5⟩; have SB := NX _ _ (by assumption) b5; obtain ⟨A5, B5, C5, T5, E5⟩ := SB.out.2.2.2.2.2.2.dst; obtain ⟨g1, g2, g3, g4, g5, g6⟩ := T5.cells (j := q) hlt; clear b5)))
      all_goals
        go_wp2
        go_roundw
        case rel =>
          refine ⟨q + 1, by omega, by go_num, ?_, ((SB.out.2.2.2.2.2.2.bel.setCell (p := ⟨w.heap.size, q * 3, none⟩) (Nat.le_refl _) _).setCell (p := ⟨w.heap.size, q * 3 + 1, none⟩) (Nat.le_refl _) _).setCell (p := ⟨w.heap.size, q * 3 + 2, none⟩) (Nat.le_refl _) _⟩
          exact (T5.set (j := q) _ _ _).congr fun j hj => by
            by_cases e : j = q
            · subst e
              simp only [if_pos, wsA]
              rw [if_pos (by omega), if_pos (by omega), if_pos (by omega), E1.out, E2.out, E3.out]
              exact ⟨rfl, rfl, rfl⟩
            · have := E5 j e
              simp only [if_neg e, this, wsA]
              by_cases h2 : j < q
              · have h3 : j < q + 1 := by omega
                simp only [if_pos h2, if_pos h3]; exact ⟨trivial, trivial, trivial⟩
              · have h3 : ¬ j < q + 1 := by omega
                simp only [if_neg h2, if_neg h3]; exact ⟨trivial, trivial, trivial⟩
        case measure => simp only [intOf]; omega
    · have hqe : q = T := by omega
      subst hqe
      go_wp2
      go_ret
      exact ⟨rfl, htb.congr (fun j hj => by simp [wsA, hj]), hb⟩

end Go.Proofs.Ytcgifmoddojnmaa
