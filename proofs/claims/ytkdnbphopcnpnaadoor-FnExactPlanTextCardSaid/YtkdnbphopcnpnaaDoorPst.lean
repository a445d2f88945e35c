/-
  The text of a plan in the model. Condition: slices of at most 2^20 numbers in all.
-/
import Derived.Test.YtkdnbphopcnpnaaDoorPit
namespace Go.Proofs.YtkdnbphopcnpnaaDoor
open Go.RowKit

theorem sc_next {w W w' : World} {A : Addr} {r : Value} (hA : A.block < w.heap.size) (h : W.cell? A = some r ∧ Below w.heap.size w W) (k : Below W.heap.size W w') : w'.cell? A = some r ∧ Below w.heap.size w w' :=
  ⟨(k.cell (p := A) (Nat.lt_of_lt_of_le hA h.2.size)).trans h.1, nxt h.2 k⟩
theorem sc_bel {w W : World} {A : Addr} {r : Value} (h : W.cell? A = some r ∧ Below w.heap.size w W) : Below w.heap.size w W := h.2
/-- The state of the outer loop. -/
def OutAt (xs : List Int) (pl : List (List Int)) (k : Nat) (S : ByteArray) : Prop := S = bstr (txtTo xs pl k) ∧ S.size ≤ 160033 * k
theorem OutAt.zero (xs : List Int) (pl : List (List Int)) : OutAt xs pl 0 ⟨#[]⟩ := ⟨by rw [txtTo_zero]; rfl, by simp [ByteArray.size]⟩
theorem OutAt.first {xs : List Int} {pl : List (List Int)} (P : PlanIs xs pl) {S D : ByteArray} (h : OutAt xs pl 0 S) (hd : 0 < pl.length) (hD : D = bstr (dayL xs pl 0)) : OutAt xs pl (0 + 1) (S ++ D) := by
  have e : S ++ D = bstr (txtTo xs pl 1) := by rw [h.1, hD, txtTo_zero, bstr_app, List.nil_append, txtTo_one]
  exact ⟨e, by rw [e, bstr_size]; have := P.txt_len 1 (by omega); omega⟩
theorem OutAt.next {xs : List Int} {pl : List (List Int)} (P : PlanIs xs pl) {k : Nat} {S D : ByteArray} (h : OutAt xs pl k S) (h0 : 0 < k) (hd : k < pl.length) (hD : D = bstr (dayL xs pl k)) : OutAt xs pl (k + 1) (S ++ ⟨#[47]⟩ ++ D) := by
  have e : S ++ ⟨#[47]⟩ ++ D = bstr (txtTo xs pl (k + 1)) := by rw [h.1, hD, one_str, bstr_app, bstr_app, txtTo_succ _ _ h0]
  exact ⟨e, by rw [e, bstr_size]; have := P.txt_len (k + 1) (by omega); omega⟩
theorem sgn_more {c : UInt8} {xs zs : List Int} {j i : Nat} {y : Int} {A S D : ByteArray} (hk : j < zs.length) (hi : zs.getD j 0 = i) (hy : xs.getD i 0 = y) (hS : S = A ++ bstr (sgn c xs (zs.take j))) (hD : bstr (dd y) = D) :
    S ++ (⟨#[c]⟩ ++ D) = A ++ bstr (sgn c xs (zs.take (j + 1))) := by
  rw [← sgn_next hk hi hy rfl hD, hS, ByteArray.append_assoc]
theorem app_nil (A : ByteArray) : A ++ ⟨#[]⟩ = A := by
  show A ++ ByteArray.empty = A
  simp


set_option maxHeartbeats 8000000 in
set_option maxRecDepth 20000 in
theorem specPlanText_yes (v u : Value) (xs : List Int) (pl : List (List Int)) (w : World) (hv : Sv w v xs) (hu : Svv w u pl) (hl : xs.length ≤ 1099511627776) (hf : Few2 pl) (hg : fewB xs = true) (hp : planB xs.length pl = true) :
    Calls Tryd.prog 5 #[v, u] w fun e w' => e = .returned (.tuple #[.string (bstr (txtTo xs pl pl.length)), .bool true]) ∧ Below w.heap.size w w' := by
  have HV := Lib.hid hv
  have HU := Lib.hid hu
  have HF := Lib.hid hf
  have hn : pl.length ≤ 1048576 := by unfold Few2 at hf; omega
  have hfw := fewB_iff hg
  have HP := Lib.hid (show PlanIs xs pl from ⟨hfw.1, hfw.2, planB_iff.1 hp⟩)
  have h8 := hfw.2
  have h60 := HP.out.ok.1
  obtain ⟨q, cap1, rfl, hq⟩ := hv
  obtain ⟨p, cap, rfl, hx⟩ := hu
  clear hf hfw
  go_enter Tryd.func5, Tryd.ntmps5
  go_wp2_with fail
  refine (paFew_any _ _ _ HV.out hl).mono ?_
  rintro e w1 ⟨rfl, b1⟩
  go_wp2_with fail
  refine (paPlan_any _ _ _ _ _ (HV.out.below b1 (Nat.le_refl _)) (HU.out.below b1 (Nat.le_refl _)) hl HF.out).mono ?_
  rintro e w2 ⟨rfl, b2⟩
  have b2 := nxt b1 b2
  clear b1
  go_wp2
  go_loopw [6, 24] (fun t i wr => ∃ (k : Nat) (S : ByteArray), k ≤ pl.length ∧ i = .int .i64 k ∧ t = .string S ∧ S.size ≤ 160033 * k ∧ Hid (OutAt xs pl k S) ∧ Below w.heap.size w wr) (fun _ i _ => pl.length - (intOf i).toNat)
  case atStart => exact ⟨0, ⟨#[]⟩, Nat.zero_le _, rfl, rfl, by simp [ByteArray.size], Lib.hid (OutAt.zero _ _), b2⟩
  case round =>
    obtain ⟨k, S, hk, rfl, rfl, hsz, HS, hb⟩ := hrel
    have hz := hb.size
    by_cases hlt : k < pl.length
    · obtain ⟨b, off, rfl, hbl, hc⟩ := hx (by omega)
      obtain ⟨r0, hc0, hs0⟩ := hc k hlt
      have HS0 := Lib.hid hs0
      have HC0 := Lib.hid hc0
      have R1 := (HP.out.ok.row HP.out.few hlt).2.len
      have R2 := (HP.out.ok.bef HP.out.few hlt).2.len
      have HM1 : Hid (∀ x ∈ onlyL (rowL pl k) (befL pl k), 0 ≤ x ∧ x ≤ (xs.length : Int) - 1) := Lib.hid ((HP.out.ok.row HP.out.few hlt).1.only _).mem
      have HM2 : Hid (∀ x ∈ onlyL (befL pl k) (rowL pl k), 0 ≤ x ∧ x ≤ (xs.length : Int) - 1) := Lib.hid ((HP.out.ok.bef HP.out.few hlt).1.only _).mem
      have L1 : (onlyL (rowL pl k) (befL pl k)).length ≤ 8 := Nat.le_trans (only_len (nowL pl k) (befL pl k)) R1
      have L2 : (onlyL (befL pl k) (rowL pl k)).length ≤ 8 := Nat.le_trans (only_len (befL pl k) (nowL pl k)) R2
      have RW : Hid (rawS xs (befL pl k) (rowL pl k) = sgn 43 xs (onlyL (rowL pl k) (befL pl k)) ++ sgn 45 xs (onlyL (befL pl k) (rowL pl k))) := Lib.hid rfl
      have S1a := And.intro ((run_drew (n := 1) hb).cell (p := ⟨b, off + k, none⟩) hbl |>.trans hc0) (run_drew (n := 1) hb)
      have k0 : (0 : Int) ≤ k := by omega
      have k1 : (k : Int) < pl.length := by omega
      clear hx hc hc0 hs0
      by_cases hk0 : k = 0
      · have kp : ¬ (0 : Int) < k := by omega
        have HNX : Hid (∀ D : ByteArray, D = bstr (dayL xs pl k) → OutAt xs pl (k + 1) (S ++ D)) := Lib.hid (by subst hk0; exact fun D hD => HS.out.first HP.out hlt hD)
        obtain ⟨P, eP⟩ : ∃ P, S = P := ⟨_, rfl⟩
        subst eP
        clear hk0
        go_wp2
        go_region_held3 (fun w' => w'.cell? ⟨b, off + k, none⟩ = some r0 ∧ Below w.heap.size w w') ((first | assumption | exact S1a | exact S1b)) ((first
          | (go_at_call 15; refine (paBefore_any _ _ k _ (HU.out.below (sc_bel (A := ⟨b, off + k, none⟩) (r := r0) (by assumption)) (Nat.le_refl _)) hlt hn).mono ?_; rintro e wB ⟨r, rfl, sr, ew⟩; subst ew; have SR1 := Lib.hid sr; clear sr)
          | (go_at_call 14; refine (paOnly_any _ _ _ _ _ (HS0.out.below (sc_bel (A := ⟨b, off + k, none⟩) (r := r0) (by assumption)) (Nat.le_refl _)) SR1.out R1 R2).mono ?_; rintro e wA1 ⟨g3, rfl, o1, b3⟩; have S1b := sc_next (w := w) (A := ⟨b, off + k, none⟩) (r := r0) hbl (by assumption) b3; obtain ⟨p1, c1, rfl, hz1⟩ := o1.sv; clear o1 b3)))
        all_goals
          generalize hzs1 : onlyL (rowL pl k) (befL pl k) = zs1 at hz1 L1 HM1 RW ⊢
          clear hzs1
          go_wp2
          go_loopw [8, 40] (fun t i wr => ∃ (j : Nat) (T : ByteArray), j ≤ zs1.length ∧ i = .int .i64 j ∧ t = .string T ∧ T.size ≤ 10002 * j ∧ Hid (T = ByteArray.empty ++ bstr (sgn 43 xs (zs1.take j))) ∧ Below wA1.heap.size wA1 wr ∧ Below w.heap.size w wr) (fun _ i _ => zs1.length - (intOf i).toNat)
          case atStart => exact ⟨0, ⟨#[]⟩, Nat.zero_le _, rfl, rfl, by simp [ByteArray.size], Lib.hid rfl, Below.refl _ _, S1b.2⟩
          case round =>
            obtain ⟨j, T, hj, rfl, rfl, hTs, HT, hbA1, hbw⟩ := hrel
            by_cases hjl : j < zs1.length
            · obtain ⟨bz, oz, rfl, hblz, hcz⟩ := hz1 (by omega)
              have hcell1 := (hbA1.cell (p := ⟨bz, oz + j, none⟩) hblz).trans (hcz j hjl)
              have hin := HM1.out (zs1.getD j 0) (by rw [List.getD_eq_getElem?_getD, List.getElem?_eq_getElem hjl]; exact List.getElem_mem hjl)
              obtain ⟨x, ex⟩ : ∃ x, zs1.getD j 0 = x := ⟨_, rfl⟩
              rw [ex] at hcell1 hin
              obtain ⟨i, rfl⟩ : ∃ i : Nat, x = i := ⟨x.toNat, by omega⟩
              obtain ⟨bq, oq, rfl, hblq, hcq⟩ := hq (by omega)
              have hil : i < xs.length := by omega
              have hcell2 : wr.cell? ⟨bq, oq + i, none⟩ = some (.int .i64 (xs.getD i 0)) := (hbw.cell (p := ⟨bq, oq + i, none⟩) hblq).trans (hcq i hil)
              have hbd := HP.out.good.2.1 i hil
              obtain ⟨y, ey⟩ : ∃ y, xs.getD i 0 = y := ⟨_, rfl⟩
              rw [ey] at hcell2 hbd
              obtain ⟨y0, y1⟩ := hbd
              have hdz : (bstr (dd y)).size ≤ 10001 := by rw [bstr_size]; exact dd_len y1
              have NU := num_any y wr y0 y1
              have NX := fun D => @sgn_more 43 xs zs1 j i y ByteArray.empty T D hjl ex ey HT.out
              obtain ⟨D, eD⟩ : ∃ D, bstr (dd y) = D := ⟨_, rfl⟩
              rw [eD] at hdz NU
              have NU := Lib.hid NU
              have NX := Lib.hid (NX D eD)
              have h1 : (⟨#[43]⟩ : ByteArray).size = 1 := rfl
              have h2 : (⟨#[43]⟩ ++ D : ByteArray).size = 1 + D.size := by rw [ByteArray.size_append, h1]
              clear hcz hcq ex ey eD hin
              go_wp2_with (go_at_call 16; refine (NU.out).mono ?_; rintro e w2 ⟨rfl, b2⟩)
              go_roundw
              case rel => exact ⟨j + 1, T ++ (⟨#[43]⟩ ++ D), by omega, by go_num, rfl, by rw [ByteArray.size_append, h2]; omega, Lib.hid NX.out, hbA1.trans (Below.mono b2 hbA1.size), nxt hbw b2⟩
              case measure => simp [intOf]; omega
            · have T2 := HT.out
              have hj2 : j = zs1.length := by omega
              rw [hj2, List.take_length] at T2
              have ET1 := Lib.hid (T2.trans (by simp : ByteArray.empty ++ bstr (sgn 43 xs zs1) = bstr (sgn 43 xs zs1)))
              have hT1s : T.size ≤ 80016 := by omega
              clear T2 HT hj2 hz1
              obtain ⟨T1, eT1⟩ : ∃ T1, T1 = T := ⟨_, rfl⟩
              subst eT1
              have S2a := And.intro (((run_drew (n := 1) hbw).cell (p := ⟨b, off + k, none⟩) hbl).trans HC0.out) (run_drew (n := 1) hbw)
              go_wp2
              go_region_held3 (fun w' => w'.cell? ⟨b, off + k, none⟩ = some r0 ∧ Below w.heap.size w w') ((first | assumption | exact S2a | exact S2b)) ((first
                | (go_at_call 15; refine (paBefore_any _ _ k _ (HU.out.below (sc_bel (A := ⟨b, off + k, none⟩) (r := r0) (by assumption)) (Nat.le_refl _)) hlt hn).mono ?_; rintro e wB ⟨r, rfl, sr, ew⟩; subst ew; have SR2 := Lib.hid sr; clear sr)
                | (go_at_call 14; refine (paOnly_any _ _ _ _ _ SR2.out (HS0.out.below (sc_bel (A := ⟨b, off + k, none⟩) (r := r0) (by assumption)) (Nat.le_refl _)) R2 R1).mono ?_; rintro e wA2 ⟨g3, rfl, o2, b3⟩; have S2b := sc_next (w := w) (A := ⟨b, off + k, none⟩) (r := r0) hbl (by assumption) b3; obtain ⟨p2, c2, rfl, hz2⟩ := o2.sv; clear o2 b3)))
              all_goals
                generalize hzs2 : onlyL (befL pl k) (rowL pl k) = zs2 at hz2 L2 HM2 RW ⊢
                clear hzs2
                go_wp2
                go_loopw [8, 62] (fun t i wr => ∃ (j : Nat) (T : ByteArray), j ≤ zs2.length ∧ i = .int .i64 j ∧ t = .string T ∧ T.size ≤ 80016 + 10002 * j ∧ Hid (T = T1 ++ bstr (sgn 45 xs (zs2.take j))) ∧ Below wA2.heap.size wA2 wr ∧ Below w.heap.size w wr) (fun _ i _ => zs2.length - (intOf i).toNat)
                case atStart => exact ⟨0, T1, Nat.zero_le _, rfl, rfl, by omega, Lib.hid (app_nil T1).symm, Below.refl _ _, S2b.2⟩
                case round =>
                  obtain ⟨j, T, hj, rfl, rfl, hTs, HT, hbA2, hbw⟩ := hrel
                  by_cases hjl : j < zs2.length
                  · obtain ⟨bz, oz, rfl, hblz, hcz⟩ := hz2 (by omega)
                    have hcell1 := (hbA2.cell (p := ⟨bz, oz + j, none⟩) hblz).trans (hcz j hjl)
                    have hin := HM2.out (zs2.getD j 0) (by rw [List.getD_eq_getElem?_getD, List.getElem?_eq_getElem hjl]; exact List.getElem_mem hjl)
                    obtain ⟨x, ex⟩ : ∃ x, zs2.getD j 0 = x := ⟨_, rfl⟩
                    rw [ex] at hcell1 hin
                    obtain ⟨i, rfl⟩ : ∃ i : Nat, x = i := ⟨x.toNat, by omega⟩
                    obtain ⟨bq, oq, rfl, hblq, hcq⟩ := hq (by omega)
                    have hil : i < xs.length := by omega
                    have hcell2 : wr.cell? ⟨bq, oq + i, none⟩ = some (.int .i64 (xs.getD i 0)) := (hbw.cell (p := ⟨bq, oq + i, none⟩) hblq).trans (hcq i hil)
                    have hbd := HP.out.good.2.1 i hil
                    obtain ⟨y, ey⟩ : ∃ y, xs.getD i 0 = y := ⟨_, rfl⟩
                    rw [ey] at hcell2 hbd
                    obtain ⟨y0, y1⟩ := hbd
                    have hdz : (bstr (dd y)).size ≤ 10001 := by rw [bstr_size]; exact dd_len y1
                    have NU := num_any y wr y0 y1
                    have NX := fun D => @sgn_more 45 xs zs2 j i y T1 T D hjl ex ey HT.out
                    obtain ⟨D, eD⟩ : ∃ D, bstr (dd y) = D := ⟨_, rfl⟩
                    rw [eD] at hdz NU
                    have NU := Lib.hid NU
                    have NX := Lib.hid (NX D eD)
                    have h1 : (⟨#[45]⟩ : ByteArray).size = 1 := rfl
                    have h2 : (⟨#[45]⟩ ++ D : ByteArray).size = 1 + D.size := by rw [ByteArray.size_append, h1]
                    clear hcz hcq ex ey eD hin
                    go_wp2_with (go_at_call 16; refine (NU.out).mono ?_; rintro e w2 ⟨rfl, b2⟩)
                    go_roundw
                    case rel => exact ⟨j + 1, T ++ (⟨#[45]⟩ ++ D), by omega, by go_num, rfl, by rw [ByteArray.size_append, h2]; omega, Lib.hid NX.out, hbA2.trans (Below.mono b2 hbA2.size), nxt hbw b2⟩
                    case measure => simp [intOf]; omega
                  · clear hz2 hq
                    have T2 := HT.out
                    have hj2 : j = zs2.length := by omega
                    rw [hj2, List.take_length] at T2
                    have RAW : T = bstr (rawS xs (befL pl k) (rowL pl k)) := by rw [T2, ET1.out, RW.out, bstr_app]
                    by_cases hraw : rawS xs (befL pl k) (rowL pl k) = []
                    · have hTe : T.toList.isEmpty = true := by rw [RAW, bstr_toList, hraw]; rfl
                      have NX := HNX.out ⟨#[61]⟩ (by show _ = bstr (dayS xs (befL pl k) (rowL pl k)); rw [dayS_nil hraw]; rfl)
                      have hc1 : (⟨#[61]⟩ : ByteArray).size = 1 := rfl
                      have HX := Lib.hid NX
                      have hsx := NX.2
                      rw [ByteArray.size_append] at hsx
                      clear RAW T2 NX hraw
                      go_wp2
                      go_roundw
                      case rel => exact ⟨k + 1, _, by omega, by go_num, rfl, HX.out.2, HX, hbw⟩
                      case measure => simp only [intOf]; omega
                    · have hTe : T.toList.isEmpty = false := by
                        rw [RAW, bstr_toList]
                        cases h : rawS xs (befL pl k) (rowL pl k) with
                        | nil => exact absurd h hraw
                        | cons _ _ => rfl
                      have NX := HNX.out T (by show _ = bstr (dayS xs (befL pl k) (rowL pl k)); rw [dayS_some hraw]; exact RAW)
                      have HX := Lib.hid NX
                      have hsx := NX.2
                      rw [ByteArray.size_append] at hsx
                      clear RAW T2 NX hraw
                      go_wp2
                      go_roundw
                      case rel => exact ⟨k + 1, _, by omega, by go_num, rfl, HX.out.2, HX, hbw⟩
                      case measure => simp only [intOf]; omega
      · have kp : (0 : Int) < k := by omega
        have HNX : Hid (∀ D : ByteArray, D = bstr (dayL xs pl k) → OutAt xs pl (k + 1) (S ++ ⟨#[47]⟩ ++ D)) := Lib.hid fun D hD => HS.out.next HP.out (by omega) hlt hD
        have hs47 : (S ++ ⟨#[47]⟩ : ByteArray).size = S.size + 1 := by rw [ByteArray.size_append]; rfl
        clear hk0
        go_wp2
        go_region_held3 (fun w' => w'.cell? ⟨b, off + k, none⟩ = some r0 ∧ Below w.heap.size w w') ((first | assumption | exact S1a | exact S1b)) ((first
          | (go_at_call 15; refine (paBefore_any _ _ k _ (HU.out.below (sc_bel (A := ⟨b, off + k, none⟩) (r := r0) (by assumption)) (Nat.le_refl _)) hlt hn).mono ?_; rintro e wB ⟨r, rfl, sr, ew⟩; subst ew; have SR1 := Lib.hid sr; clear sr)
          | (go_at_call 14; refine (paOnly_any _ _ _ _ _ (HS0.out.below (sc_bel (A := ⟨b, off + k, none⟩) (r := r0) (by assumption)) (Nat.le_refl _)) SR1.out R1 R2).mono ?_; rintro e wA1 ⟨g3, rfl, o1, b3⟩; have S1b := sc_next (w := w) (A := ⟨b, off + k, none⟩) (r := r0) hbl (by assumption) b3; obtain ⟨p1, c1, rfl, hz1⟩ := o1.sv; clear o1 b3)))
        all_goals
          generalize hzs1 : onlyL (rowL pl k) (befL pl k) = zs1 at hz1 L1 HM1 RW ⊢
          clear hzs1
          go_wp2
          go_loopw [8, 40] (fun t i wr => ∃ (j : Nat) (T : ByteArray), j ≤ zs1.length ∧ i = .int .i64 j ∧ t = .string T ∧ T.size ≤ 10002 * j ∧ Hid (T = ByteArray.empty ++ bstr (sgn 43 xs (zs1.take j))) ∧ Below wA1.heap.size wA1 wr ∧ Below w.heap.size w wr) (fun _ i _ => zs1.length - (intOf i).toNat)
          case atStart => exact ⟨0, ⟨#[]⟩, Nat.zero_le _, rfl, rfl, by simp [ByteArray.size], Lib.hid rfl, Below.refl _ _, S1b.2⟩
          case round =>
            obtain ⟨j, T, hj, rfl, rfl, hTs, HT, hbA1, hbw⟩ := hrel
            by_cases hjl : j < zs1.length
            · obtain ⟨bz, oz, rfl, hblz, hcz⟩ := hz1 (by omega)
              have hcell1 := (hbA1.cell (p := ⟨bz, oz + j, none⟩) hblz).trans (hcz j hjl)
              have hin := HM1.out (zs1.getD j 0) (by rw [List.getD_eq_getElem?_getD, List.getElem?_eq_getElem hjl]; exact List.getElem_mem hjl)
              obtain ⟨x, ex⟩ : ∃ x, zs1.getD j 0 = x := ⟨_, rfl⟩
              rw [ex] at hcell1 hin
              obtain ⟨i, rfl⟩ : ∃ i : Nat, x = i := ⟨x.toNat, by omega⟩
              obtain ⟨bq, oq, rfl, hblq, hcq⟩ := hq (by omega)
              have hil : i < xs.length := by omega
              have hcell2 : wr.cell? ⟨bq, oq + i, none⟩ = some (.int .i64 (xs.getD i 0)) := (hbw.cell (p := ⟨bq, oq + i, none⟩) hblq).trans (hcq i hil)
              have hbd := HP.out.good.2.1 i hil
              obtain ⟨y, ey⟩ : ∃ y, xs.getD i 0 = y := ⟨_, rfl⟩
              rw [ey] at hcell2 hbd
              obtain ⟨y0, y1⟩ := hbd
              have hdz : (bstr (dd y)).size ≤ 10001 := by rw [bstr_size]; exact dd_len y1
              have NU := num_any y wr y0 y1
              have NX := fun D => @sgn_more 43 xs zs1 j i y ByteArray.empty T D hjl ex ey HT.out
              obtain ⟨D, eD⟩ : ∃ D, bstr (dd y) = D := ⟨_, rfl⟩
              rw [eD] at hdz NU
              have NU := Lib.hid NU
              have NX := Lib.hid (NX D eD)
              have h1 : (⟨#[43]⟩ : ByteArray).size = 1 := rfl
              have h2 : (⟨#[43]⟩ ++ D : ByteArray).size = 1 + D.size := by rw [ByteArray.size_append, h1]
              clear hcz hcq ex ey eD hin
              go_wp2_with (go_at_call 16; refine (NU.out).mono ?_; rintro e w2 ⟨rfl, b2⟩)
              go_roundw
              case rel => exact ⟨j + 1, T ++ (⟨#[43]⟩ ++ D), by omega, by go_num, rfl, by rw [ByteArray.size_append, h2]; omega, Lib.hid NX.out, hbA1.trans (Below.mono b2 hbA1.size), nxt hbw b2⟩
              case measure => simp [intOf]; omega
            · have T2 := HT.out
              have hj2 : j = zs1.length := by omega
              rw [hj2, List.take_length] at T2
              have ET1 := Lib.hid (T2.trans (by simp : ByteArray.empty ++ bstr (sgn 43 xs zs1) = bstr (sgn 43 xs zs1)))
              have hT1s : T.size ≤ 80016 := by omega
              clear T2 HT hj2 hz1
              obtain ⟨T1, eT1⟩ : ∃ T1, T1 = T := ⟨_, rfl⟩
              subst eT1
              have S2a := And.intro (((run_drew (n := 1) hbw).cell (p := ⟨b, off + k, none⟩) hbl).trans HC0.out) (run_drew (n := 1) hbw)
              go_wp2
              go_region_held3 (fun w' => w'.cell? ⟨b, off + k, none⟩ = some r0 ∧ Below w.heap.size w w') ((first | assumption | exact S2a | exact S2b)) ((first
                | (go_at_call 15; refine (paBefore_any _ _ k _ (HU.out.below (sc_bel (A := ⟨b, off + k, none⟩) (r := r0) (by assumption)) (Nat.le_refl _)) hlt hn).mono ?_; rintro e wB ⟨r, rfl, sr, ew⟩; subst ew; have SR2 := Lib.hid sr; clear sr)
                | (go_at_call 14; refine (paOnly_any _ _ _ _ _ SR2.out (HS0.out.below (sc_bel (A := ⟨b, off + k, none⟩) (r := r0) (by assumption)) (Nat.le_refl _)) R2 R1).mono ?_; rintro e wA2 ⟨g3, rfl, o2, b3⟩; have S2b := sc_next (w := w) (A := ⟨b, off + k, none⟩) (r := r0) hbl (by assumption) b3; obtain ⟨p2, c2, rfl, hz2⟩ := o2.sv; clear o2 b3)))
              all_goals
                generalize hzs2 : onlyL (befL pl k) (rowL pl k) = zs2 at hz2 L2 HM2 RW ⊢
                clear hzs2
                go_wp2
                go_loopw [8, 62] (fun t i wr => ∃ (j : Nat) (T : ByteArray), j ≤ zs2.length ∧ i = .int .i64 j ∧ t = .string T ∧ T.size ≤ 80016 + 10002 * j ∧ Hid (T = T1 ++ bstr (sgn 45 xs (zs2.take j))) ∧ Below wA2.heap.size wA2 wr ∧ Below w.heap.size w wr) (fun _ i _ => zs2.length - (intOf i).toNat)
                case atStart => exact ⟨0, T1, Nat.zero_le _, rfl, rfl, by omega, Lib.hid (app_nil T1).symm, Below.refl _ _, S2b.2⟩
                case round =>
                  obtain ⟨j, T, hj, rfl, rfl, hTs, HT, hbA2, hbw⟩ := hrel
                  by_cases hjl : j < zs2.length
                  · obtain ⟨bz, oz, rfl, hblz, hcz⟩ := hz2 (by omega)
                    have hcell1 := (hbA2.cell (p := ⟨bz, oz + j, none⟩) hblz).trans (hcz j hjl)
                    have hin := HM2.out (zs2.getD j 0) (by rw [List.getD_eq_getElem?_getD, List.getElem?_eq_getElem hjl]; exact List.getElem_mem hjl)
                    obtain ⟨x, ex⟩ : ∃ x, zs2.getD j 0 = x := ⟨_, rfl⟩
                    rw [ex] at hcell1 hin
                    obtain ⟨i, rfl⟩ : ∃ i : Nat, x = i := ⟨x.toNat, by omega⟩
                    obtain ⟨bq, oq, rfl, hblq, hcq⟩ := hq (by omega)
                    have hil : i < xs.length := by omega
                    have hcell2 : wr.cell? ⟨bq, oq + i, none⟩ = some (.int .i64 (xs.getD i 0)) := (hbw.cell (p := ⟨bq, oq + i, none⟩) hblq).trans (hcq i hil)
                    have hbd := HP.out.good.2.1 i hil
                    obtain ⟨y, ey⟩ : ∃ y, xs.getD i 0 = y := ⟨_, rfl⟩
                    rw [ey] at hcell2 hbd
                    obtain ⟨y0, y1⟩ := hbd
                    have hdz : (bstr (dd y)).size ≤ 10001 := by rw [bstr_size]; exact dd_len y1
                    have NU := num_any y wr y0 y1
                    have NX := fun D => @sgn_more 45 xs zs2 j i y T1 T D hjl ex ey HT.out
                    obtain ⟨D, eD⟩ : ∃ D, bstr (dd y) = D := ⟨_, rfl⟩
                    rw [eD] at hdz NU
                    have NU := Lib.hid NU
                    have NX := Lib.hid (NX D eD)
                    have h1 : (⟨#[45]⟩ : ByteArray).size = 1 := rfl
                    have h2 : (⟨#[45]⟩ ++ D : ByteArray).size = 1 + D.size := by rw [ByteArray.size_append, h1]
                    clear hcz hcq ex ey eD hin
                    go_wp2_with (go_at_call 16; refine (NU.out).mono ?_; rintro e w2 ⟨rfl, b2⟩)
                    go_roundw
                    case rel => exact ⟨j + 1, T ++ (⟨#[45]⟩ ++ D), by omega, by go_num, rfl, by rw [ByteArray.size_append, h2]; omega, Lib.hid NX.out, hbA2.trans (Below.mono b2 hbA2.size), nxt hbw b2⟩
                    case measure => simp [intOf]; omega
                  · clear hz2 hq
                    have T2 := HT.out
                    have hj2 : j = zs2.length := by omega
                    rw [hj2, List.take_length] at T2
                    have RAW : T = bstr (rawS xs (befL pl k) (rowL pl k)) := by rw [T2, ET1.out, RW.out, bstr_app]
                    by_cases hraw : rawS xs (befL pl k) (rowL pl k) = []
                    · have hTe : T.toList.isEmpty = true := by rw [RAW, bstr_toList, hraw]; rfl
                      have NX := HNX.out ⟨#[61]⟩ (by show _ = bstr (dayS xs (befL pl k) (rowL pl k)); rw [dayS_nil hraw]; rfl)
                      have hc1 : (⟨#[61]⟩ : ByteArray).size = 1 := rfl
                      have HX := Lib.hid NX
                      have hsx := NX.2
                      rw [ByteArray.size_append] at hsx
                      clear RAW T2 NX hraw
                      go_wp2
                      go_roundw
                      case rel => exact ⟨k + 1, _, by omega, by go_num, rfl, HX.out.2, HX, hbw⟩
                      case measure => simp only [intOf]; omega
                    · have hTe : T.toList.isEmpty = false := by
                        rw [RAW, bstr_toList]
                        cases h : rawS xs (befL pl k) (rowL pl k) with
                        | nil => exact absurd h hraw
                        | cons _ _ => rfl
                      have NX := HNX.out T (by show _ = bstr (dayS xs (befL pl k) (rowL pl k)); rw [dayS_some hraw]; exact RAW)
                      have HX := Lib.hid NX
                      have hsx := NX.2
                      rw [ByteArray.size_append] at hsx
                      clear RAW T2 NX hraw
                      go_wp2
                      go_roundw
                      case rel => exact ⟨k + 1, _, by omega, by go_num, rfl, HX.out.2, HX, hbw⟩
                      case measure => simp only [intOf]; omega
    · clear hx
      have hke : k = pl.length := by omega
      subst hke
      go_wp2
      go_ret2
      exact ⟨ret_sb HS.out.1 rfl, hb⟩
end Go.Proofs.YtkdnbphopcnpnaaDoor
