/-
  NeedlessStamps in the program, by its contract. Condition: slices of at most 2^40 numbers.
-/
import Derived.Test.YtmllokooceghiaaTrc
import Derived.Test.YtmllokooceghiaaTow
import Derived.Deep.RegionWith
import Derived.Deep.CutRange
import Derived.Deep.CutBlock
import Derived.Sort.CutIn
import Derived.Deep.DeepMust
namespace Go.Proofs.Ytmllokooceghiaa
open Go.RowKit

theorem concat2_as (b : Nat) (v1 v2 : Value) (x1 x2 z : List Int) (w : World) (hh : w.heap[b]? = some (.cells #[v1, v2] 22)) (h1 : Src w v1 x1) (h2 : Src w v2 x2)
    (l1 : x1.length ≤ 1048576) (l2 : x2.length ≤ 1048576) (hz : x1 ++ x2 = z) (hne : z ≠ []) :
    Calls Try.prog 69 #[.slice (some ⟨b, 0, none⟩) 2 2] w fun e w' => ∃ g c, e = .returned (.slice (some ⟨g, 0, none⟩) z.length c) ∧ g < w'.heap.size ∧ (∀ j, j < z.length → w'.cell? ⟨g, 0 + j, none⟩ = some (.int .i64 (z.getD j 0))) ∧ Below w.heap.size w w' := by
  subst hz
  refine (concat2_pos b v1 v2 x1 x2 w hh h1 h2 l1 l2 hne).mono ?_
  rintro e w' ⟨u, he, ho, hb⟩
  obtain ⟨g, c, rfl, hg, hc⟩ := ho.lies
  exact ⟨g, c, he, hg, hc, hb⟩

set_option maxHeartbeats 4000000 in
set_option maxRecDepth 20000 in
theorem implNeedlessStamps_any (v : Value) (st : List Int) (a1 : Int) (w : World) (h : Sp w v st) (hl : st.length ≤ 1099511627776) :
    Calls Try.prog 46 #[v, .int .i64 a1] w fun e w' => ∃ u, e = .returned (.tuple #[u, .bool (neB st a1)]) ∧ Ow w' w.heap.size u (neR st a1) ∧ Below w.heap.size w w' := by
  have HS := Lib.hid h.sv
  by_cases hr : rmB st a1 = true
  · obtain ⟨S, r, rfl, r1, r8⟩ := rmB_yes hr
    have HT := Lib.hid S
    have h6 := S.six
    have h1 := S.one
    by_cases h11 : st.length = 1
    · have R := Lib.hid (show neB st r = false by simp [neB, h11])
      have Q := Lib.hid (show neR st r = [] by simp [neR, R.out])
      have AR := Lib.hid (areStampsInRoom_any v st r w h.sv hl)
      rw [hr] at AR
      obtain ⟨b, off, cap, rfl, hcap, hcm, hbl, hc⟩ := h
      rw [h11] at AR ⊢
      clear hc S hcm HS hcap
      go_enter Try.func46, Try.ntmps46
      go_wp2_with fail
      refine AR.out.mono ?_
      rintro e w0 ⟨rfl, rfl⟩
      go_wp2_with fail
      go_ret2
      exact ⟨_, ret_lb rfl R.out.symm, by rw [Q.out]; exact World.ownsRow_nil _ _ _ _, Below.refl _ _⟩
    · have R := Lib.hid (show neB st r = true by simp [neB, hr, h11])
      have Q : Hid (neR st r = neL st r st.length) := Lib.hid (by simp [neR, R.out])
      obtain ⟨b, off, cap, rfl, hcap, hcm, hbl, hc⟩ := h
      have RO := Lib.hid (reachOf_any b off cap r st w (.inr S) hbl hc r8)
      obtain ⟨X, eX⟩ : ∃ X, rch st r = X := ⟨_, rfl⟩
      rw [eX] at RO
      have EX := Lib.hid eX
      have hcm : cap ≤ 9223372036854775807 := by unfold maxLen at hcm; exact hcm
      have d1 : ((st.length : Int) == 1) = false := by rw [beq_eq_false_iff_ne]; omega
      have HC := Lib.hid hc
      clear eX S hc
      go_enter Try.func46, Try.ntmps46
      go_wp2_with fail
      refine (areStampsInRoom_any _ _ _ _ HS.out hl).mono ?_
      rw [hr]
      rintro e w0 ⟨rfl, rfl⟩
      go_wp2_with fail
      refine RO.out.mono ?_
      rintro e w1 ⟨rfl, b1⟩
      clear RO
      go_wp2
      have ho0 := (ow_empty w1).mono b1.size
      have hb0 := b1.alloc b1.size (.cells #[] 3)
      go_loopw [7, 25] (fun t x wr => ∃ i : Nat, i ≤ st.length ∧ x = .int .i64 i ∧ Ow wr w.heap.size t (neL st r i) ∧ Below w.heap.size w wr) (fun _ x _ => st.length - (intOf x).toNat)
      case atStart => exact ⟨0, Nat.zero_le _, rfl, ho0, hb0⟩
      case round =>
        clear ho0 hb0
        obtain ⟨i, hi, rfl, ho, hb⟩ := hrel
        have hz := hb.size
        have hnl := neL_len st r i
        by_cases hlt : i < st.length
        · have hcw : ∀ j, j < st.length → wr.cell? ⟨b, off + j, none⟩ = some (.int .i64 (st.getD j 0)) := fun j hj => (hb.cell (p := ⟨b, off + j, none⟩) hbl).trans (HC.out j hj)
          have hblw : b < wr.heap.size := by omega
          have hcell := hcw i hlt
          have sT := src_take (w := wr) (b := b) (off := off) (c := cap) hblw hcw (Nat.le_of_lt hlt)
          have sD := src_drop (w := wr) (b := b) (off := off) (c := cap - (i + 1)) (k := i + 1) hblw hcw
          have SR := HT.out.rm (by omega) hlt
          have sE := src_end (w := wr) (b := b) (off := off) (c := 0) (k := i + 1) (xs := st) hblw
          obtain ⟨Z, eZ⟩ : ∃ Z, rmS st i = Z := ⟨_, rfl⟩
          have HNE : Hid (Z ≠ []) := Lib.hid (fun e => by have := SR.one; rw [eZ, e] at this; simp at this)
          have RR : ∀ (g2 c2 : Nat) (W : World), g2 < W.heap.size → (∀ j, j < Z.length → W.cell? ⟨g2, 0 + j, none⟩ = some (.int .i64 (Z.getD j 0))) → Hid (Calls Try.prog 58 #[.slice (some ⟨g2, 0, none⟩) Z.length c2, .int .i64 (r : Int)] W fun e w' => e = .returned (.int .i64 (rch Z r : Nat)) ∧ Below W.heap.size W w') := fun g2 c2 W hg hcc => Lib.hid (reachOf_any g2 0 c2 r Z W (.inr (eZ ▸ SR)) hg hcc r8)
          have HZ0 : st.take i ++ st.drop (i + 1) = Z := eZ
          obtain ⟨y, ey⟩ : ∃ y, rch Z r = y := ⟨_, rfl⟩
          rw [ey] at RR
          rw [← eZ] at ey
          have EY := Lib.hid ey
          obtain ⟨n, en⟩ : ∃ n, st.getD i 0 = n := ⟨_, rfl⟩
          rw [en] at hcell
          have EN := Lib.hid en
          have hi0 : (0 : Int) ≤ (i : Int) := by omega
          have hi1 : (i : Int) ≤ (cap : Int) := by omega
          have hi2 : (i : Int) + 1 ≤ (st.length : Int) := by omega
          have hi3 : (0 : Int) ≤ (i : Int) + 1 := by omega
          have hi5 : (i : Int) < (st.length : Int) := by omega
          have hw : IntKind.i64.wrap ((i : Int) + 1) = (i : Int) + 1 := IntWalk.i64_in _ (by omega)
          have ht : ((i : Int) + 1).toNat = i + 1 := by omega
          have hi4 : (i : Int) ≤ (i : Int) + 1 := by omega
          have hl1 : (st.take i).length ≤ 1048576 := by simp only [List.length_take]; omega
          have hl2 : (st.drop (i + 1)).length ≤ 1048576 := by simp only [List.length_drop]; omega
          obtain ⟨A, eA⟩ : ∃ A, st.take i = A := ⟨_, rfl⟩
          obtain ⟨D, eD⟩ : ∃ D, st.drop (i + 1) = D := ⟨_, rfl⟩
          rw [eA] at sT hl1 HZ0
          rw [eD] at sD hl2 HZ0
          rw [eD] at sE
          have HZ := Lib.hid HZ0
          clear hcw ey en SR eZ HZ0 eA eD
          go_upto_region 8 with (fail)
          go_cut [42] from 26 to 47 (fun x w' => x = .bool ((y : Int) == (X : Int)) ∧ Below wr.heap.size wr w')
          case first =>
            by_cases hcc : cap = i + 1
            · have sE := sE (by omega)
              rw [show st.length - (i + 1) = 0 by omega] at sE
              clear sD
              subst hcc
              have sD := sE
              clear sE
              go_region_with (first
                | (go_at_call 69; refine (concat2_as _ _ _ _ _ _ _ (by exact heap_alloc_new wr _) (by exact sT.below ((Below.refl _ wr).alloc (Nat.le_refl _) _).drew (Nat.le_refl _)) (by exact sD.below ((Below.refl _ wr).alloc (Nat.le_refl _) _).drew (Nat.le_refl _)) hl1 hl2 HZ.out HNE.out).mono ?_; rintro e w2 ⟨g2, c2, rfl, hg2, hc2, b2⟩; have B2 : Below wr.heap.size wr w2 := ((Below.refl _ wr).alloc (Nat.le_refl _) _).drew.trans (b2.mono (by simp)); have Z2 := B2.size; clear b2)
                | (go_at_call 58; refine (RR g2 c2 _ (by exact hg2) (by exact hc2)).out.mono ?_; rintro e w3 ⟨rfl, b3⟩; have B3 : Below wr.heap.size wr w3 := (by first | exact B2.trans (b3.mono Z2) | exact B2.drew.trans (b3.mono Z2)); clear B2 b3 Z2 hc2 hg2))
              all_goals
                first | go_meet | (go_step; go_meet) | (go_step; go_step; go_meet)
                case rel => exact ⟨rfl, B3⟩
            · clear sE
              go_region_with (first
                | (go_at_call 69; refine (concat2_as _ _ _ _ _ _ _ (by exact heap_alloc_new wr _) (by exact sT.below ((Below.refl _ wr).alloc (Nat.le_refl _) _).drew (Nat.le_refl _)) (by exact sD.below ((Below.refl _ wr).alloc (Nat.le_refl _) _).drew (Nat.le_refl _)) hl1 hl2 HZ.out HNE.out).mono ?_; rintro e w2 ⟨g2, c2, rfl, hg2, hc2, b2⟩; have B2 : Below wr.heap.size wr w2 := ((Below.refl _ wr).alloc (Nat.le_refl _) _).drew.trans (b2.mono (by simp)); have Z2 := B2.size; clear b2)
                | (go_at_call 58; refine (RR g2 c2 _ (by exact hg2) (by exact hc2)).out.mono ?_; rintro e w3 ⟨rfl, b3⟩; have B3 : Below wr.heap.size wr w3 := (by first | exact B2.trans (b3.mono Z2) | exact B2.drew.trans (b3.mono Z2)); clear B2 b3 Z2 hc2 hg2))
              all_goals
                first | go_meet | (go_step; go_meet) | (go_step; go_step; go_meet)
                case rel => exact ⟨rfl, B3⟩
          case rest =>
            clear sT sD sE RR
            obtain ⟨rfl, B3⟩ := hcut
            obtain ⟨w3, rfl⟩ : ∃ x, x = wc := ⟨wc, rfl⟩
            have Z3 := B3.size
            have ho3 := ho.below B3 (Nat.le_refl _)
            have hb3 := hb.trans (B3.mono hz)
            clear ho hb B3
            by_cases hp : y = X
            · have NT := Lib.hid (neL_yes (st := st) (r := r) (k := i) (by rw [EY.out, EX.out]; exact hp))
              rw [EN.out] at NT
              subst hp
              go_step
              go_wp2_with (at_builtin; refine wpList_append_src rfl _ _ rfl w.heap.size _ (neL st r i) rfl (ho3.alloc _) _ [n] rfl (src_one _ _) (by simp only [List.length_cons, List.length_nil]; omega) (by simp; omega) ?_; intro v4 w4 h4 g4)
              have b4 := (hb3.alloc (by omega) _).trans ((ho3.alloc _).grown (by simp; omega) g4)
              clear ho3 g4 hb3
              go_roundw
              case rel => exact ⟨i + 1, by omega, by go_num, by rw [NT.out]; exact h4, b4⟩
              case measure => simp [intOf]; omega
            · have NT := Lib.hid (neL_no (st := st) (r := r) (k := i) (by rw [EY.out, EX.out]; exact hp))
              have dp : ((y : Int) == (X : Int)) = false := by rw [beq_eq_false_iff_ne]; omega
              rw [dp]
              clear hp
              go_step
              go_wp2
              go_roundw
              case rel => exact ⟨i + 1, by omega, by go_num, by rw [NT.out]; exact ho3, hb3⟩
              case measure => simp [intOf]; omega
        · have hkl : i = st.length := by omega
          subst hkl
          go_wp2
          go_ret2
          exact ⟨_, ret_lb rfl R.out.symm, by rw [Q.out]; exact ho, hb⟩
  · have hr : rmB st a1 = false := by simpa using hr
    have G := Lib.hid (show false = neB st a1 by simp [neB, hr])
    have Q : Hid (neR st a1 = []) := Lib.hid (by unfold neR; rw [← G.out]; rfl)
    go_enter Try.func46, Try.ntmps46
    go_wp2_with fail
    refine (areStampsInRoom_any _ _ _ _ HS.out hl).mono ?_
    rw [hr]
    rintro e w0 ⟨rfl, rfl⟩
    go_wp2_with fail
    go_ret2
    exact ⟨_, ret_lb rfl G.out, by rw [Q.out]; exact World.ownsRow_nil _ _ _ _, Below.refl _ _⟩
end Go.Proofs.Ytmllokooceghiaa
