/-
  FirstStamps in the model, by its contract. Condition: slices of at most 2^40 numbers.
-/
import Derived.Test.YtmllokooceghiaaSto
namespace Go.Proofs.Ytmllokooceghiaa
open Go.RowKit

/-- The least count from k on with which the rest can be made. -/
def fsC (F : Nat → Int → Int) (n : Int) : Nat → Nat → Nat → Int → Option Nat
  | 0, _, _, _ => none
  | f + 1, k, r, v => if 0 < F (r - k) (v - k * n) then some k else fsC F n f (k + 1) r v
def fsL : List Int → Nat → Int → List Int
  | [], _, _ => []
  | n :: t, r, v => match fsC (ww t) n (r + 1) 0 r v with
    | some k => (k : Int) :: fsL t (r - k) (v - k * n)
    | none => fsL t r v
theorem fsC_step {F : Nat → Int → Int} {n : Int} {r k : Nat} {v : Int} (hk : k ≤ r) : fsC F n (r + 1 - k) k r v = if 0 < F (r - k) (v - k * n) then some k else fsC F n (r + 1 - (k + 1)) (k + 1) r v := by
  obtain ⟨m, hm⟩ : ∃ m, r + 1 - k = m + 1 := ⟨r - k, by omega⟩
  rw [hm, show r + 1 - (k + 1) = m by omega]
  rfl
theorem fsL_some {st : List Int} {i r k : Nat} {v n : Int} (hi : i < st.length) (hn : st.getD i 0 = n) (h : some k = fsC (ww (st.drop (i + 1))) n (r + 1) 0 r v) : fsL (st.drop i) r v = (k : Int) :: fsL (st.drop (i + 1)) (r - k) (v - k * n) := by
  rw [drop_cons st i hi, hn, fsL, ← h]
theorem fsL_none {st : List Int} {i r : Nat} {v n : Int} (hi : i < st.length) (hn : st.getD i 0 = n) (h : none = fsC (ww (st.drop (i + 1))) n (r + 1) 0 r v) : fsL (st.drop i) r v = fsL (st.drop (i + 1)) r v := by
  rw [drop_cons st i hi, hn, fsL, ← h]
theorem fsL_len : ∀ (l : List Int) (r : Nat) (v : Int), (fsL l r v).length ≤ l.length := by
  intro l
  induction l with
  | nil => intro r v; simp [fsL]
  | cons n t ih =>
    intro r v
    rw [fsL]
    split
    · rename_i k _; have := ih (r - k) (v - k * n); simp; omega
    · have := ih r v; simp; omega
theorem sp_drop {w : World} {b off cap k : Nat} {xs : List Int} (hb : b < w.heap.size) (hk : k ≤ xs.length) (hcap : xs.length ≤ cap) (hcm : cap ≤ maxLen) (hc : ∀ j, j < xs.length → w.cell? ⟨b, off + j, none⟩ = some (.int .i64 (xs.getD j 0))) :
    Sp w (if cap = k then .slice (some ⟨b, off, none⟩) 0 0 else .slice (some ⟨b, off + k, none⟩) (xs.length - k) (cap - k)) (xs.drop k) := by
  by_cases h : cap = k
  · rw [if_pos h]
    have hl : (xs.drop k).length = 0 := by simp; omega
    exact ⟨b, off, 0, by rw [hl], by rw [hl]; omega, by omega, hb, fun j hj => by omega⟩
  · rw [if_neg h]
    have hl : (xs.drop k).length = xs.length - k := by simp
    refine ⟨b, off + k, cap - k, by rw [hl], by rw [hl]; omega, by omega, hb, fun j hj => ?_⟩
    rw [Nat.add_assoc, hc (k + j) (by omega), List.getD_eq_getElem?_getD, List.getD_eq_getElem?_getD, List.getElem?_drop]

noncomputable def ftB (st : List Int) (r v : Int) : Bool := csB st r v && decide (fw st v.toNat ≤ r)
noncomputable def ftR (st : List Int) (r v : Int) : List Int := if ftB st r v = true then fsL st r.toNat v else []
theorem ftR_len (st : List Int) (r v : Int) (hl : st.length ≤ 1099511627776) : (ftR st r v).length ≤ 1099511627776 := by
  unfold ftR
  split
  · have := fsL_len st r.toNat v; omega
  · simp

set_option maxHeartbeats 8000000 in
set_option maxRecDepth 20000 in
theorem specFirstStamps_any (v : Value) (st : List Int) (a1 a2 : Int) (w : World) (h : Sp w v st) (hl : st.length ≤ 1099511627776) :
    Calls Try.prog 27 #[v, .int .i64 a1, .int .i64 a2] w fun e w' => ∃ u, e = .returned (.tuple #[u, .bool (ftB st a1 a2)]) ∧ Ow w' w.heap.size u (ftR st a1 a2) ∧ Below w.heap.size w w' := by
  have HS := Lib.hid h.sv
  by_cases hr : rmB st a1 = true
  · by_cases hv : vlB a2 = true
    · obtain ⟨S, r, rfl, r1, r8⟩ := rmB_yes hr
      obtain ⟨n0, rfl, n4⟩ := vlB_yes hv
      have HT := Lib.hid S
      have h6 := S.six
      have RM := Lib.hid (stRoom_any v st r w HS.out hl)
      rw [hr] at RM
      have SF := fun W hW => Lib.hid (stFew_any v st n0 W hW S (by omega))
      have hfl := fewT_len st n0
      have hat := fewT_at st n0 n0 (by omega)
      have R : Hid (ftB st r n0 = decide (fw st n0 ≤ (r : Int))) := Lib.hid (by simp [ftB, csB_yes hr hv])
      have j1 : (n0 : Int) < (n0 : Int) + 1 := by omega
      have j0 : (0 : Int) ≤ n0 := by omega
      obtain ⟨b, off, cap, rfl, hcap, hcm, hbl, hc⟩ := h
      have HC := Lib.hid hc
      have HCM := Lib.hid hcm
      have hcm : cap ≤ 9223372036854775807 := by unfold maxLen at hcm; exact hcm
      clear S hc
      go_enter Try.func27, Try.ntmps27
      go_wp2_with fail
      refine RM.out.mono ?_
      rintro e w1 ⟨rfl, b1⟩
      clear RM
      go_wp2_with fail
      refine (stValue_any _ _).mono ?_
      rw [hv]
      rintro e w1' ⟨rfl, rfl⟩
      go_wp2_with fail
      refine (SF _ (HS.out.below b1 (Nat.le_refl _))).out.mono ?_
      rintro e w2 ⟨u, rfl, o, a, b2⟩
      obtain ⟨cc, rfl, hlt2, hct⟩ := rowOfOw o a
      rw [hfl] at hct ⊢
      have hcell := hct n0 (by omega)
      rw [hat] at hcell
      obtain ⟨x, ex⟩ : ∃ x, fw st n0 = x := ⟨_, rfl⟩
      rw [ex] at hcell R
      have b2 := nxt b1 b2
      clear hct o a hat ex SF b1
      by_cases hxr : x ≤ (r : Int)
      · have R2 := Lib.hid (show ftB st r n0 = true by rw [R.out]; simpa using hxr)
        have Q2 : Hid (fsL st r n0 = ftR st r n0) := Lib.hid (by simp [ftR, R2.out])
        have dx : decide ((r : Int) < x) = false := by simpa using hxr
        clear R
        go_wp2
        go_loopw [1, 2, 8, 33] (fun y z t q wr => ∃ (i r2 : Nat) (vv : Int) (L : List Int), i ≤ st.length ∧ q = .int .i64 i ∧ y = .int .i64 r2 ∧ z = .int .i64 vv ∧ r2 ≤ 8 ∧ 0 ≤ vv ∧ vv ≤ 4000 ∧ L.length ≤ i ∧ Hid (L ++ fsL (st.drop i) r2 vv = ftR st r n0) ∧ Ow wr w.heap.size t L ∧ Below w.heap.size w wr) (fun _ _ _ q _ => st.length - (intOf q).toNat)
        case atStart => exact ⟨0, r, n0, [], Nat.zero_le _, rfl, rfl, rfl, r8, by omega, by omega, by simp, Lib.hid (by rw [← Q2.out]; rfl), World.ownsRow_nil _ _ _ _, b2⟩
        case round =>
          obtain ⟨i, r, vv, L, hi, rfl, rfl, rfl, hr8, hv0, hv4, hLi, HL, ho, hb⟩ := hrel
          by_cases hlt : i < st.length
          · have hcell := (hb.cell (p := ⟨b, off + i, none⟩) hbl).trans (HC.out i hlt)
            have hnm := HT.out.mem (st.getD i 0) (by rw [List.getD_eq_getElem?_getD, List.getElem?_eq_getElem hlt]; exact List.getElem_mem hlt)
            obtain ⟨n, en⟩ : ∃ n, st.getD i 0 = n := ⟨_, rfl⟩
            rw [en] at hcell hnm
            have EN := Lib.hid en
            obtain ⟨hn1, hn2⟩ := hnm
            have HST := sp_drop (w := w) (k := i + 1) hbl (by omega) hcap HCM.out HC.out
            have HIH : Hid (WaysOk (st.drop (i + 1))) := Lib.hid (ways_any _ (by simp; omega) fun x hx => HT.out.mem x (List.mem_of_mem_drop hx))
            obtain ⟨K, eK⟩ : ∃ K, fsC (ww (st.drop (i + 1))) n (r + 1) 0 r vv = K := ⟨_, rfl⟩
            have HK0 := Lib.hid eK
            have HK : Hid (fsC (ww (st.drop (i + 1))) n (r + 1 - 0) 0 r vv = K) := Lib.hid eK
            have i3 : (i : Int) + 1 ≤ (cap : Int) := by omega
            have i4 : (i : Int) + 1 ≤ (st.length : Int) := by omega
            have i2 : (0 : Int) ≤ (i : Int) + 1 := by omega
            have i0 : (0 : Int) ≤ (i : Int) := by omega
            clear en eK
            by_cases hcc : cap = i + 1
            · subst hcc
              rw [if_pos rfl] at HST
              have HST := Lib.hid HST
              go_wp2
              go_loopw [1, 2, 8, 11] (fun y z t x wr => ∃ k : Nat, k ≤ r + 1 ∧ y = .int .i64 r ∧ z = .int .i64 vv ∧ x = .int .i64 k ∧ Hid (fsC (ww (st.drop (i + 1))) n (r + 1 - k) k r vv = K) ∧ Ow wr w.heap.size t L ∧ Below w.heap.size w wr) (fun _ _ _ x _ => r + 1 - (intOf x).toNat)
              case atStart => exact ⟨0, by omega, rfl, rfl, rfl, HK, ho, hb⟩
              case round =>
                obtain ⟨k, hk, rfl, rfl, rfl, HKK, ho, hb⟩ := hrel
                have hz := hb.size
                by_cases hkr : k ≤ r
                · have hkn : 0 ≤ (k : Int) * n ∧ (k : Int) * n ≤ 8 * 500 := ⟨Int.mul_nonneg (by omega) (by omega), Int.mul_le_mul (by omega) hn2 (by omega) (by omega)⟩
                  have SK := fsC_step (F := ww (st.drop (i + 1))) (n := n) (r := r) (k := k) (v := vv) hkr
                  obtain ⟨P, hP⟩ : ∃ P, (k : Int) * n = P := ⟨_, rfl⟩
                  rw [hP] at hkn SK
                  obtain ⟨hp0, hp1⟩ := hkn
                  have hwP : IntKind.i64.wrap ((k : Int) * n) = P := by rw [hP]; exact IntWalk.i64_in _ (by omega)
                  have IHc : ∀ W, Below w.heap.size w W → Hid (Calls Try.prog 59 #[(.slice (some ⟨b, off, none⟩) 0 0), .int .i64 ((r : Int) - k), .int .i64 (vv - P)] W fun e w' => e = .returned (.int .i64 (ww (st.drop (i + 1)) (r - k) (vv - P))) ∧ Below W.heap.size W w') := fun W hB => Lib.hid (by
                    have := HIH.out _ (r - k) (vv - P) W (HST.out.below hB (Nat.le_refl _)) (by omega) (by omega) (by omega)
                    rw [show ((r - k : Nat) : Int) = (r : Int) - k by omega] at this
                    exact this)
                  have HNEG := Lib.hid (ww_neg (st.drop (i + 1)) (r - k) (vv - P))
                  obtain ⟨y, hy⟩ : ∃ y, ww (st.drop (i + 1)) (r - k) (vv - P) = y := ⟨_, rfl⟩
                  rw [hy] at IHc SK HNEG
                  have HP := Lib.hid hP
                  clear hP hy
                  go_wp2_with fail
                  refine (IHc _ hb).out.mono ?_
                  rintro e w2 ⟨rfl, b2⟩
                  have hb2 := nxt hb b2
                  have ho2 := ho.below b2 (Nat.le_refl _)
                  have hz2 := hb2.size
                  clear b2 hb ho IHc
                  by_cases hy0 : 0 < y
                  · have E := HKK.out
                    rw [SK, if_pos hy0] at E
                    have hvP : 0 ≤ vv - P := by
                      apply Classical.byContradiction
                      intro hn
                      have := HNEG.out (by omega)
                      omega
                    have HE := Lib.hid E
                    have NX := Lib.hid (fsL_some (st := st) (i := i) (r := r) (v := vv) hlt EN.out (by rw [HK0.out]; exact HE.out))
                    rw [HP.out] at NX
                    clear E SK HNEG HKK
                    go_wp2_with (at_builtin; refine wpList_append_src rfl _ _ rfl w.heap.size _ L rfl (ho2.alloc _) _ [(k : Int)] rfl (src_one _ _) (by simp only [List.length_cons, List.length_nil]; omega) (by simp; omega) ?_; intro v' w7 h7 g7)
                    have b7 := (hb2.alloc hz2 _).trans ((ho2.alloc _).grown (by simp; omega) g7)
                    clear ho2 g7 hb2
                    go_wp2_with fail
                    go_roundw
                    case rel => exact ⟨i + 1, r - k, vv - P, L ++ [(k : Int)], by omega, by go_num, by rw [show ((r - k : Nat) : Int) = (r : Int) - k by omega], rfl, by omega, by omega, by omega, by simp; omega, Lib.hid (by rw [← HL.out, NX.out]; simp), h7, b7⟩
                    case measure => simp only [intOf]; omega
                  · have E := HKK.out
                    rw [SK, if_neg hy0] at E
                    have HE := Lib.hid E
                    clear E SK HNEG HKK
                    go_wp2_with fail
                    go_roundw
                    case rel => exact ⟨k + 1, by omega, rfl, rfl, by go_num, HE, ho2, hb2⟩
                    case measure => simp [intOf]; omega
                · have hke : k = r + 1 := by omega
                  have E := HKK.out
                  rw [hke, Nat.sub_self] at E
                  simp only [fsC] at E
                  have NX := Lib.hid (fsL_none (st := st) (i := i) (r := r) (v := vv) hlt EN.out (by rw [HK0.out]; exact E))
                  have dk : decide ((k : Int) ≤ (r : Int)) = false := by simp; omega
                  clear E HKK
                  go_wp2_with fail
                  go_roundw
                  case rel => exact ⟨i + 1, r, vv, L, by omega, by go_num, rfl, rfl, by omega, by omega, by omega, by omega, Lib.hid (by rw [← HL.out, NX.out]), ho, hb⟩
                  case measure => simp only [intOf]; omega
            · rw [if_neg hcc] at HST
              have HST := Lib.hid HST
              go_wp2
              go_loopw [1, 2, 8, 11] (fun y z t x wr => ∃ k : Nat, k ≤ r + 1 ∧ y = .int .i64 r ∧ z = .int .i64 vv ∧ x = .int .i64 k ∧ Hid (fsC (ww (st.drop (i + 1))) n (r + 1 - k) k r vv = K) ∧ Ow wr w.heap.size t L ∧ Below w.heap.size w wr) (fun _ _ _ x _ => r + 1 - (intOf x).toNat)
              case atStart => exact ⟨0, by omega, rfl, rfl, rfl, HK, ho, hb⟩
              case round =>
                obtain ⟨k, hk, rfl, rfl, rfl, HKK, ho, hb⟩ := hrel
                have hz := hb.size
                by_cases hkr : k ≤ r
                · have hkn : 0 ≤ (k : Int) * n ∧ (k : Int) * n ≤ 8 * 500 := ⟨Int.mul_nonneg (by omega) (by omega), Int.mul_le_mul (by omega) hn2 (by omega) (by omega)⟩
                  have SK := fsC_step (F := ww (st.drop (i + 1))) (n := n) (r := r) (k := k) (v := vv) hkr
                  obtain ⟨P, hP⟩ : ∃ P, (k : Int) * n = P := ⟨_, rfl⟩
                  rw [hP] at hkn SK
                  obtain ⟨hp0, hp1⟩ := hkn
                  have hwP : IntKind.i64.wrap ((k : Int) * n) = P := by rw [hP]; exact IntWalk.i64_in _ (by omega)
                  have IHc : ∀ W, Below w.heap.size w W → Hid (Calls Try.prog 59 #[(.slice (some ⟨b, off + (i + 1), none⟩) (st.length - (i + 1)) (cap - (i + 1))), .int .i64 ((r : Int) - k), .int .i64 (vv - P)] W fun e w' => e = .returned (.int .i64 (ww (st.drop (i + 1)) (r - k) (vv - P))) ∧ Below W.heap.size W w') := fun W hB => Lib.hid (by
                    have := HIH.out _ (r - k) (vv - P) W (HST.out.below hB (Nat.le_refl _)) (by omega) (by omega) (by omega)
                    rw [show ((r - k : Nat) : Int) = (r : Int) - k by omega] at this
                    exact this)
                  have HNEG := Lib.hid (ww_neg (st.drop (i + 1)) (r - k) (vv - P))
                  obtain ⟨y, hy⟩ : ∃ y, ww (st.drop (i + 1)) (r - k) (vv - P) = y := ⟨_, rfl⟩
                  rw [hy] at IHc SK HNEG
                  have HP := Lib.hid hP
                  clear hP hy
                  go_wp2_with fail
                  refine (IHc _ hb).out.mono ?_
                  rintro e w2 ⟨rfl, b2⟩
                  have hb2 := nxt hb b2
                  have ho2 := ho.below b2 (Nat.le_refl _)
                  have hz2 := hb2.size
                  clear b2 hb ho IHc
                  by_cases hy0 : 0 < y
                  · have E := HKK.out
                    rw [SK, if_pos hy0] at E
                    have hvP : 0 ≤ vv - P := by
                      apply Classical.byContradiction
                      intro hn
                      have := HNEG.out (by omega)
                      omega
                    have HE := Lib.hid E
                    have NX := Lib.hid (fsL_some (st := st) (i := i) (r := r) (v := vv) hlt EN.out (by rw [HK0.out]; exact HE.out))
                    rw [HP.out] at NX
                    clear E SK HNEG HKK
                    go_wp2_with (at_builtin; refine wpList_append_src rfl _ _ rfl w.heap.size _ L rfl (ho2.alloc _) _ [(k : Int)] rfl (src_one _ _) (by simp only [List.length_cons, List.length_nil]; omega) (by simp; omega) ?_; intro v' w7 h7 g7)
                    have b7 := (hb2.alloc hz2 _).trans ((ho2.alloc _).grown (by simp; omega) g7)
                    clear ho2 g7 hb2
                    go_wp2_with fail
                    go_roundw
                    case rel => exact ⟨i + 1, r - k, vv - P, L ++ [(k : Int)], by omega, by go_num, by rw [show ((r - k : Nat) : Int) = (r : Int) - k by omega], rfl, by omega, by omega, by omega, by simp; omega, Lib.hid (by rw [← HL.out, NX.out]; simp), h7, b7⟩
                    case measure => simp only [intOf]; omega
                  · have E := HKK.out
                    rw [SK, if_neg hy0] at E
                    have HE := Lib.hid E
                    clear E SK HNEG HKK
                    go_wp2_with fail
                    go_roundw
                    case rel => exact ⟨k + 1, by omega, rfl, rfl, by go_num, HE, ho2, hb2⟩
                    case measure => simp [intOf]; omega
                · have hke : k = r + 1 := by omega
                  have E := HKK.out
                  rw [hke, Nat.sub_self] at E
                  simp only [fsC] at E
                  have NX := Lib.hid (fsL_none (st := st) (i := i) (r := r) (v := vv) hlt EN.out (by rw [HK0.out]; exact E))
                  have dk : decide ((k : Int) ≤ (r : Int)) = false := by simp; omega
                  clear E HKK
                  go_wp2_with fail
                  go_roundw
                  case rel => exact ⟨i + 1, r, vv, L, by omega, by go_num, rfl, rfl, by omega, by omega, by omega, by omega, Lib.hid (by rw [← HL.out, NX.out]), ho, hb⟩
                  case measure => simp only [intOf]; omega
          · have hie : i = st.length := by omega
            have E := HL.out
            rw [hie, List.drop_of_length_le (Nat.le_refl _)] at E
            simp only [fsL, List.append_nil] at E
            have HE := Lib.hid E
            clear E
            go_wp2
            go_ret2
            exact ⟨_, ret_lb rfl R2.out.symm, by rw [← HE.out]; exact ho, hb⟩
      · have R2 := Lib.hid (show ftB st r n0 = false by rw [R.out]; simpa using hxr)
        have Q2 := Lib.hid (show ftR st r n0 = [] by simp [ftR, R2.out])
        have dx : decide ((r : Int) < x) = true := by simp; omega
        clear R
        go_wp2
        go_ret2
        exact ⟨_, ret_lb rfl R2.out.symm, by rw [Q2.out]; exact World.ownsRow_nil _ _ _ _, b2⟩
    · have hv : vlB a2 = false := by simpa using hv
      have R := Lib.hid (show ftB st a1 a2 = false by simp [ftB, csB_out hv])
      have Q := Lib.hid (show ftR st a1 a2 = [] by simp [ftR, R.out])
      clear h
      go_enter Try.func27, Try.ntmps27
      go_wp2_with fail
      refine (stRoom_any _ _ _ _ HS.out hl).mono ?_
      rw [hr]
      rintro e w1 ⟨rfl, b1⟩
      go_wp2_with fail
      refine (stValue_any _ _).mono ?_
      rw [hv]
      rintro e w1' ⟨rfl, rfl⟩
      go_wp2_with fail
      go_ret2
      exact ⟨_, ret_lb rfl R.out.symm, by rw [Q.out]; exact World.ownsRow_nil _ _ _ _, b1⟩
  · have hr : rmB st a1 = false := by simpa using hr
    have R := Lib.hid (show ftB st a1 a2 = false by simp [ftB, csB_no hr])
    have Q := Lib.hid (show ftR st a1 a2 = [] by simp [ftR, R.out])
    clear h
    go_enter Try.func27, Try.ntmps27
    go_wp2_with fail
    refine (stRoom_any _ _ _ _ HS.out hl).mono ?_
    rw [hr]
    rintro e w1 ⟨rfl, b1⟩
    go_wp2_with fail
    go_ret2
    exact ⟨_, ret_lb rfl R.out.symm, by rw [Q.out]; exact World.ownsRow_nil _ _ _ _, b1⟩
end Go.Proofs.Ytmllokooceghiaa
