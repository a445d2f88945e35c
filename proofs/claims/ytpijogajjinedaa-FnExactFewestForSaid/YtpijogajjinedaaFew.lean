/-
  The law on FewestFor, walked: the model and the program answer alike. No condition but a length that fits int.
-/
import Derived.Test.YtpijogajjinedaaCan
namespace Go.Proofs.Ytpijogajjinedaa
open Go.RowKit

/-- The model's fewest pieces: M where there is no way. -/
def Gm (M : Int) : List Int → Int → Int
  | [], s => if s = 0 then 0 else M
  | a :: l, s => min (Gm M l s) (min M (Gm M l (s - a) + 1))
theorem Gm_le {M : Int} (hM : 0 ≤ M) : ∀ (l : List Int) (s : Int), 0 ≤ Gm M l s ∧ Gm M l s ≤ M := by
  intro l
  induction l with
  | nil => intro s; simp only [Gm]; split <;> omega
  | cons a l ih =>
    intro s
    have h1 := ih s
    have h2 := ih (s - a)
    simp only [Gm]
    omega
theorem Gm_snoc {M : Int} (hM : 0 ≤ M) : ∀ (l : List Int) (a s : Int), Gm M (l ++ [a]) s = min (Gm M l s) (min M (Gm M l (s - a) + 1)) := by
  intro l
  induction l with
  | nil => intro a s; rfl
  | cons b l ih =>
    intro a s
    have h1 := Gm_le hM l (s - b)
    have h2 := Gm_le hM l (s - a)
    have h3 := Gm_le hM l (s - b - a)
    simp only [List.cons_append, Gm, ih]
    rw [show s - a - b = s - b - a by omega]
    omega
theorem Gm_no {M : Int} (hM : 0 ≤ M) : ∀ (l : List Int) (s : Int), Wy l s = 0 → Gm M l s = M := by
  intro l
  induction l with
  | nil => intro s h; simp only [Wy] at h; simp only [Gm]; split at h <;> simp_all
  | cons a l ih =>
    intro s h
    have h2 := Wy_cons_zero h
    simp only [Gm]
    rw [ih s h2.1, ih (s - a) h2.2]
    omega
theorem Gm_yes {M : Int} : ∀ (l : List Int) (s : Int), (l.length : Int) < M → Wy l s ≠ 0 → Gm M l s = Fw l s := by
  intro l
  induction l with
  | nil => intro s _ h; simp only [Wy] at h; simp only [Gm, Fw]; split at h <;> simp_all
  | cons a l ih =>
    intro s hM h
    simp only [List.length_cons] at hM
    have b1 := Fw_bd l s
    have b2 := Fw_bd l (s - a)
    simp only [Gm, Fw]
    by_cases c1 : Wy l (s - a) = 0
    · have c2 : Wy l s ≠ 0 := by simp only [Wy] at h; omega
      rw [if_pos c1, Gm_no (by omega) l (s - a) c1, ih s (by omega) c2]
      omega
    · rw [if_neg c1, ih (s - a) (by omega) c1]
      by_cases c2 : Wy l s = 0
      · rw [if_pos c2, Gm_no (by omega) l s c2]
        omega
      · rw [if_neg c2, ih s (by omega) c2]
        omega
theorem Gm_neg {M : Int} (hM : 0 ≤ M) (l : List Int) (s : Int) (h : ∀ x ∈ l, 1 ≤ x ∧ x ≤ 10000) (hs : s < 0) : Gm M l s = M := Gm_no hM l s (Wy_neg l s h hs)
theorem Gm_step {M : Int} (hM : 0 ≤ M) {xs : List Int} {k : Nat} {x : Int} (h : k < xs.length) (hx : xs.getD k 0 = x) (s : Int) : Gm M (xs.take (k + 1)) s = min (Gm M (xs.take k) s) (min M (Gm M (xs.take k) (s - x) + 1)) := by
  rw [take_snoc_int xs k h, hx, Gm_snoc hM]
def fewAt (M : Int) (xs : List Int) (k : Nat) (p : Int) (j : Nat) : Int := if (j : Int) ≤ p then Gm M (xs.take k) j else Gm M (xs.take (k + 1)) j

theorem few_cell {M : Int} {xs : List Int} {k q : Nat} {A D : Int} (h : Gm M (xs.take (k + 1)) q = min A (D + 1)) (j : Nat) :
    (if j = q then Value.int .i64 (min A (D + 1)) else Value.int .i64 (fewAt M xs k q j)) = Value.int .i64 (fewAt M xs k ((q : Int) - 1) j) := by
  by_cases e : j = q
  · subst e
    rw [if_pos rfl]
    unfold fewAt
    rw [if_neg (by omega), h]
  · rw [if_neg e]
    unfold fewAt
    by_cases h2 : (j : Int) ≤ (q : Int)
    · rw [if_pos h2, if_pos (by omega)]
    · rw [if_neg h2, if_neg (by omega)]
noncomputable def fewB (xs : List Int) (s : Int) : Bool := askB xs s && !(Wy xs s == 0)
theorem few_no {xs : List Int} {s : Int} (h : askB xs s = false) : fewB xs s = false ∧ mdB xs s = 0 := ⟨by simp [fewB, h], (md_no h).2.1⟩
theorem few_none {xs : List Int} {s : Int} (ha : askB xs s = true) (h : Wy xs s = 0) : fewB xs s = false ∧ mdB xs s = 0 := ⟨by simp [fewB, h], by rw [(md_yes ha).2.1]; exact Fw_zero xs s h⟩
theorem few_yes {xs : List Int} {s : Int} (ha : askB xs s = true) (h : ¬ Wy xs s = 0) : fewB xs s = true ∧ mdB xs s = Fw xs s := ⟨by simp [fewB, ha, h], (md_yes ha).2.1⟩

set_option maxHeartbeats 4000000 in
set_option maxRecDepth 100000 in
theorem implFewestFor_any (v : Value) (xs : List Int) (s : Int) (w : World) (h : Sv w v xs) (hl : xs.length ≤ 1099511627776) :
    Calls Try.prog 38 #[v, .int .i64 s] w fun e w' => e = .returned (.tuple #[.int .i64 (mdB xs s), .bool (fewB xs s)]) ∧ Below w.heap.size w w' := by
  by_cases ha : askB xs s = true
  · by_cases hz : Wy xs s = 0
    · have R := Lib.hid (few_none ha hz)
      have Z := Lib.hid (show mdA xs s = 0 ∧ mdB xs s = 0 ∧ mdC xs s = 0 from by have A := (md_yes ha).1.trans hz; exact ⟨A, (md_zero A).1, (md_zero A).2⟩)
      clear hz
      go_enter Try.func38, Try.ntmps38
      go_wp2_with fail
      refine (madeOf_any _ _ _ _ h hl).mono ?_
      rintro e w1 ⟨rfl, b1⟩
      rw [Z.out.1, Z.out.2.1, Z.out.2.2]
      go_wp2_with fail
      go_quiet (fail)
      go_wp2_with fail
      go_ret2
      exact ⟨ret_ib Z.out.2.1.symm R.out.1.symm, below_drewN (b1.alloc b1.size _) _⟩
    · have R := Lib.hid (few_yes ha hz)
      have d : (mdA xs s == 0) = false := by rw [(md_yes ha).1]; simpa using hz
      clear hz
      go_enter Try.func38, Try.ntmps38
      go_wp2_with fail
      refine (madeOf_any _ _ _ _ h hl).mono ?_
      rintro e w1 ⟨rfl, b1⟩
      obtain ⟨A, eA⟩ : ∃ A, mdA xs s = A := ⟨_, rfl⟩
      obtain ⟨B, eB⟩ : ∃ B, mdB xs s = B := ⟨_, rfl⟩
      obtain ⟨C, eC⟩ : ∃ C, mdC xs s = C := ⟨_, rfl⟩
      rw [eA] at d
      rw [eA, eB, eC]
      have HB := Lib.hid eB
      clear eA eB eC
      go_wp2_with fail
      go_quiet (fail)
      go_wp2_with fail
      go_ret2
      exact ⟨ret_ib HB.out.symm R.out.1.symm, below_drewN (b1.alloc b1.size _) _⟩
  · have ha : askB xs s = false := by simpa using ha
    have R := Lib.hid (few_no ha)
    have Z := Lib.hid (md_no ha)
    go_enter Try.func38, Try.ntmps38
    go_wp2_with fail
    refine (madeOf_any _ _ _ _ h hl).mono ?_
    rintro e w1 ⟨rfl, b1⟩
    rw [Z.out.1, Z.out.2.1, Z.out.2.2]
    go_wp2_with fail
    go_quiet (fail)
    go_wp2_with fail
    go_ret2
    exact ⟨ret_ib Z.out.2.1.symm R.out.1.symm, below_drewN (b1.alloc b1.size _) _⟩

set_option maxHeartbeats 8000000 in
set_option maxRecDepth 100000 in
theorem specFewestFor_any (v : Value) (xs : List Int) (s : Int) (w : World) (h : Sv w v xs) (hl : xs.length ≤ 1099511627776) :
    Calls Try.prog 37 #[v, .int .i64 s] w fun e w' => e = .returned (.tuple #[.int .i64 (mdB xs s), .bool (fewB xs s)]) ∧ Below w.heap.size w w' := by
  by_cases ha : askB xs s = true
  · have hg2 : goodB xs = true ∧ inB s 0 200000 = true := by simpa [askB] using ha
    have hg := goodB_iff.1 hg2.1
    obtain ⟨hs0, hs1⟩ := inB_iff.1 hg2.2
    by_cases hz : Wy xs s = 0
    · have R := Lib.hid (few_none ha hz)
      have HZ := Lib.hid hz
      clear hz hg2
      go_enter Try.func37, Try.ntmps37
      go_wp2_with fail
      refine (piAsked_any _ _ _ _ h hl).mono ?_
      rintro e w1 ⟨rfl, b1⟩
      go_wp2_with fail
      refine (piMake_any _ _ _ _ (h.below b1 (Nat.le_refl _)) hg hs0).mono ?_
      rintro e w2 ⟨rfl, b2⟩
      rw [HZ.out]
      go_wp2_with fail
      go_ret2
      exact ⟨ret_ib R.out.2.symm R.out.1.symm, nxt b1 b2⟩
    · have R := Lib.hid (few_yes ha hz)
      have hs := h
      obtain ⟨p, cap, rfl, hx⟩ := h
      have HX := Lib.hid hx
      clear hx
      have hst : s ≤ sumP xs := by
        by_cases e : s ≤ sumP xs
        · exact e
        · exact absurd (Wy_big xs s hg.mem (by omega)) hz
      have d : (Wy xs s == 0) = false := by simpa using hz
      have hlen := hg.len
      obtain ⟨M, eM⟩ : ∃ M : Int, M = (xs.length : Int) + 1 := ⟨_, rfl⟩
      have hM0 : 0 ≤ M := by omega
      have hM1 : M ≤ 21 := by omega
      have GY := Lib.hid (Gm_yes (M := M) xs s (by omega) hz)
      have HM := Lib.hid eM
      obtain ⟨htop, htop2⟩ := hg.top
      obtain ⟨T, eT⟩ : ∃ T, T = top xs := ⟨_, rfl⟩
      rw [← eT] at htop htop2
      have hsT : s ≤ (T : Int) := by omega
      have ec : ((T + 1 : Nat) : Int) = (T : Int) + 1 := by omega
      have hmk := run_make_row' (P := Try.prog) 22 3 (.int .i64 0) 8 Try.underlying22 Try.infoI rfl .i64 .i64 (T + 1) (by omega) (by omega)
      rw [ec] at hmk
      have HS := Lib.hid htop
      clear hz hg2 eM eT htop ec
      go_enter Try.func37, Try.ntmps37
      go_wp2_with fail
      refine (piAsked_any _ _ _ _ hs hl).mono ?_
      rintro e w1 ⟨rfl, b1⟩
      go_wp2_with fail
      refine (piMake_any _ _ _ _ (hs.below b1 (Nat.le_refl _)) hg hs0).mono ?_
      rintro e w2 ⟨rfl, b2⟩
      have b2 := nxt b1 b2
      clear b1
      go_wp2_with fail
      refine (piSum_any _ _ _ (hs.below b2 (Nat.le_refl _)) hg).mono ?_
      rintro e w2' ⟨rfl, rfl⟩
      rw [← HS.out]
      have hS2 := hs.below b2 (Nat.le_refl _)
      have z2 := b2.size
      go_wp2
      go_loopw [27] (fun i wr => ∃ k : Nat, k ≤ T + 1 ∧ i = .int .i64 k ∧ wr.rowIs w2.heap.size 3 (T + 1) (fun j => .int .i64 (if j < k then M else 0)) ∧ Below w2.heap.size w2 wr) (fun i _ => T + 1 - (intOf i).toNat)
      case atStart => exact ⟨0, by omega, rfl, (World.rowIs_made w2 _ _ _).congr (fun j _ => by simp), (Below.refl _ _).alloc (Nat.le_refl _) _⟩
      case round =>
        obtain ⟨k, hk, rfl, hrow, hb⟩ := hrel
        clear hmk
        by_cases hlt : k < T + 1
        · have hold : wr.cell? ⟨w2.heap.size, k, none⟩ = some (.int .i64 (if k < k then M else 0)) := hrow.cell hlt
          have hfr := hrow.frozen k
          go_wp2
          rw [← HM.out]
          go_roundw
          case rel =>
            refine ⟨k + 1, by omega, by go_num, (hrow.set k _).congr (fun j hj => ?_), hb.setCell (Nat.le_refl _) _⟩
            by_cases e : j = k
            · subst e; simp
            · rw [if_neg e]
              by_cases h2 : j < k
              · rw [if_pos h2, if_pos (by omega)]
              · rw [if_neg h2, if_neg (by omega)]
          case measure => simp [intOf]; omega
        · have hkT : k = T + 1 := by omega
          subst hkT
          have hold := hrow.cell (i := 0) (by omega)
          have hfr := hrow.frozen 0
          rw [if_pos (by omega)] at hold
          obtain ⟨wa, rfl⟩ : ∃ wa : World, wa = wr := ⟨_, rfl⟩
          go_wp2
          go_loopw [41] (fun i wr => ∃ k : Nat, k ≤ xs.length ∧ i = .int .i64 k ∧ wr.rowIs w2.heap.size 3 (T + 1) (fun j => .int .i64 (Gm M (xs.take k) j)) ∧ Below w2.heap.size w2 wr) (fun i _ => xs.length - (intOf i).toNat)
          case atStart =>
            refine ⟨0, Nat.zero_le _, rfl, (hrow.set 0 _).congr (fun j hj => ?_), hb.setCell (Nat.le_refl _) _⟩
            by_cases e : j = 0
            · subst e; simp [Gm]
            · have e2 : ¬ ((j : Int) = 0) := by omega
              rw [if_neg e, if_pos hj]
              simp [Gm, e]
          case round =>
            clear hrow hb hold hfr
            obtain ⟨k, hk, rfl, hrow, hb⟩ := hrel
            by_cases hlt : k < xs.length
            · obtain ⟨b, off, rfl, hbl, hc⟩ := HX.out (by omega)
              have hcell := ((hb.cell (p := ⟨b, off + k, none⟩) (Nat.lt_of_lt_of_le hbl z2)).trans (b2.cell (p := ⟨b, off + k, none⟩) hbl)).trans (hc k hlt)
              obtain ⟨x, ex⟩ : ∃ x, xs.getD k 0 = x := ⟨_, rfl⟩
              obtain ⟨hx1, hx2⟩ := hg.bd hlt ex
              obtain ⟨m, rfl⟩ : ∃ m : Nat, x = (m : Int) := ⟨x.toNat, by omega⟩
              rw [ex] at hcell
              have EX := Lib.hid ex
              clear ex hc
              go_wp2
              obtain ⟨wo, rfl⟩ : ∃ wo : World, wo = wr := ⟨_, rfl⟩
              clear hcell
              go_loopw [10] (fun a wi => ∃ p : Int, -1 ≤ p ∧ p ≤ T ∧ a = .int .i64 p ∧ wi.rowIs w2.heap.size 3 (T + 1) (fun j => .int .i64 (fewAt M xs k p j)) ∧ Below w2.heap.size w2 wi) (fun a _ => (intOf a + 1).toNat)
              case atStart => exact ⟨T, by omega, by omega, rfl, hrow.congr (fun j hj => by unfold fewAt; rw [if_pos (by omega)]), hb⟩
              case round =>
                clear hrow hb
                obtain ⟨p, hp1, hp2, rfl, hrow, hb⟩ := hrel
                by_cases hpm : (m : Int) ≤ p
                · obtain ⟨q, rfl⟩ : ∃ q : Nat, p = (q : Int) := ⟨p.toNat, by omega⟩
                  have c1 := hrow.cell (i := q) (by omega)
                  have c2 := hrow.cell (i := q - m) (by omega)
                  have f1 := hrow.frozen q
                  have e1 : fewAt M xs k q q = Gm M (xs.take k) q := by unfold fewAt; rw [if_pos (by omega)]
                  have e2 : fewAt M xs k q ((q - m : Nat)) = Gm M (xs.take k) ((q : Int) - m) := by unfold fewAt; rw [if_pos (by omega), show ((q - m : Nat) : Int) = (q : Int) - m by omega]
                  rw [e1] at c1
                  rw [e2] at c2
                  obtain ⟨A, eA⟩ : ∃ A, Gm M (xs.take k) q = A := ⟨_, rfl⟩
                  obtain ⟨D, eD⟩ : ∃ D, Gm M (xs.take k) ((q : Int) - m) = D := ⟨_, rfl⟩
                  have bA := Gm_le hM0 (xs.take k) q
                  have bD := Gm_le hM0 (xs.take k) ((q : Int) - m)
                  have hstp := Gm_step hM0 hlt EX.out (q : Int)
                  rw [eA, eD] at hstp
                  rw [eA] at c1 bA
                  rw [eD] at c2 bD
                  obtain ⟨bA1, bA2⟩ := bA
                  obtain ⟨bD1, bD2⟩ := bD
                  have HST := Lib.hid (show Gm M (xs.take (k + 1)) q = min A (D + 1) by rw [hstp]; omega)
                  have hi0 : (0 : Int) ≤ q := by omega
                  have hi1 : (q : Int) < (T : Int) + 1 := by omega
                  have hi2 : (0 : Int) ≤ (q : Int) - m := by omega
                  have hi3 : (q : Int) - m < (T : Int) + 1 := by omega
                  have hw1 : IntKind.i64.wrap ((q : Int) - m) = (q : Int) - m := IntWalk.i64_in _ (by omega)
                  have hw2 : IntKind.i64.wrap (D + 1) = D + 1 := IntWalk.i64_in _ (by omega)
                  have ht1 : ((q : Int) - m).toNat = q - m := by omega
                  clear e1 e2 eA eD hstp
                  go_wp2
                  go_region_with (go_at_call 70; refine (least_any _ _ _).mono ?_; rintro e w' ⟨rfl, rfl⟩)
                  all_goals
                    go_wp2
                    go_roundw
                    case rel =>
                      have r3 := (hrow.set q (Value.int .i64 (min A (D + 1)))).congr (fun j hj => few_cell HST.out j)
                      have b3 := hb.setCell (p := ⟨w2.heap.size, q, none⟩) (Nat.le_refl _) (Value.int .i64 (min A (D + 1)))
                      first
                        | exact ⟨(q : Int) - 1, by omega, by omega, rfl, r3.drew, b3.drew⟩
                        | exact ⟨(q : Int) - 1, by omega, by omega, rfl, r3, b3⟩
                        | ((repeat apply Exists.intro)
                           refine ⟨⟨(q : Int) - 1, ?_, ?_, rfl, ?_, ?_⟩, rfl⟩
                           · omega
                           · omega
                           · first | exact r3.drew | exact r3
                           · first | exact b3.drew | exact b3)
                    case measure => (simp [intOf]; try omega)
                · go_wp2
                  go_roundw
                  case rel =>
                    refine ⟨k + 1, by omega, by go_num, hrow.congr (fun j hj => ?_), hb⟩
                    unfold fewAt
                    by_cases h2 : (j : Int) ≤ p
                    · have hle := Gm_le hM0 (xs.take k) j
                      rw [if_pos h2, Gm_step hM0 hlt EX.out, Gm_neg hM0 (xs.take k) ((j : Int) - m) (hg.take k) (by omega)]
                      congr 1
                      omega
                    · rw [if_neg h2]
                  case measure => simp only [intOf]; omega
            · have hkl : k = xs.length := by omega
              subst hkl
              obtain ⟨q, rfl⟩ : ∃ q : Nat, s = (q : Int) := ⟨s.toNat, by omega⟩
              have hcell := hrow.cell (i := q) (by omega)
              rw [List.take_of_length_le (Nat.le_refl _), GY.out] at hcell
              go_wp2
              go_ret2
              exact ⟨ret_ib R.out.2.symm R.out.1.symm, nxt b2 hb⟩
  · have ha : askB xs s = false := by simpa using ha
    have R := Lib.hid (few_no ha)
    go_enter Try.func37, Try.ntmps37
    go_wp2_with fail
    refine (piAsked_any _ _ _ _ h hl).mono ?_
    rintro e w1 ⟨rfl, b1⟩
    go_wp2_with fail
    go_ret2
    exact ⟨ret_ib R.out.2.symm R.out.1.symm, b1⟩

set_option maxHeartbeats 2000000 in
theorem lawFewestFor (v : Value) (xs : List Int) (a1 : Int) (w : World) (h : Sv w v xs) (hm : xs.length ≤ 9223372036854775807) :
    Calls Try.prog 10 #[v, .int .i64 a1] w fun e w' => e = .returned (.bool true) ∧ Below w.heap.size w w' := by
  have hs := h
  obtain ⟨p, cap, rfl, hx⟩ := h
  clear hx
  by_cases hbig : 1048576 < xs.length
  · go_enter Try.func10, Try.ntmps10
    go_wp2
    go_ret
    exact ⟨rfl, Below.refl _ _⟩
  · have hl : xs.length ≤ 1099511627776 := by omega
    go_enter Try.func10, Try.ntmps10
    go_wp2_with fail
    refine (toIntS_any _ _ _ hs hl).mono ?_
    rintro e w1 ⟨u1, rfl, o1, oa1, b1⟩
    go_wp2_with fail
    refine (specFewestFor_any _ _ _ _ (o1.sp oa1).sv hl).mono ?_
    rintro e w2 ⟨rfl, b2⟩
    clear o1 oa1
    have b2 := nxt b1 b2
    clear b1
    go_wp2_with fail
    refine (toIntS_any _ _ _ (hs.below b2 (Nat.le_refl _)) hl).mono ?_
    rintro e w3 ⟨u3, rfl, o3, oa3, b3⟩
    have b3 := nxt b2 b3
    clear b2
    go_wp2_with fail
    refine (implFewestFor_any _ _ _ _ (o3.sp oa3).sv hl).mono ?_
    rintro e w4 ⟨rfl, b4⟩
    have o4 := o3.below b4 (Nat.le_refl _)
    have b4 := nxt b3 b4
    clear o3 b3 oa3
    go_wp2_with fail
    refine (toIntS_any _ _ _ (hs.below b4 (Nat.le_refl _)) hl).mono ?_
    rintro e w5 ⟨u5, rfl, o5, -, b5⟩
    have o6 := o4.below b5 (Nat.le_refl _)
    have b5 := nxt b4 b5
    go_wp2_with fail
    refine (eqIntS_yes _ _ _ _ _ o6.sv o5.sv rfl hl).mono ?_
    rintro e w6 ⟨rfl, b6⟩
    have b6 := nxt b5 b6
    clear o4 o5 o6 b4 b5
    go_wp2_with fail
    go_ret
    exact ⟨rfl, b6⟩

end Go.Proofs.Ytpijogajjinedaa
