/-
  Whether there is a ruler, how many pairs measure each length, and the lengths that are measured or are not: the model's functions, by their contracts. Conditions: slices of at most 2^40 numbers; the last two speak of rulers.
-/
import Derived.Test.YthienikceehcoaaRis
namespace Go.Proofs.Ythienikceehcoaa
open Go.RowKit

set_option maxHeartbeats 2000000 in
set_option maxRecDepth 20000 in
theorem ruGood_any (v : Value) (ms : List Int) (w : World) (h : Sv w v ms) (hl : ms.length ≤ 1099511627776) :
    Calls Try.prog 19 #[v] w fun e w' => e = .returned (.bool (rulB ms)) ∧ Below w.heap.size w w' := by
  have hs := h
  obtain ⟨p, cap, rfl, hx⟩ := h
  by_cases h2 : 2 ≤ ms.length
  · have RI := Lib.hid (l1Rising_any _ ms 0 60 w hs hl)
    obtain ⟨b, off, rfl, hbl, hc⟩ := hx (by omega)
    have hcell0 := hc 0 (by omega)
    rw [Nat.add_zero] at hcell0
    have RB := rulB_ris h2
    obtain ⟨x, ex⟩ : ∃ x, ms.getD 0 0 = x := ⟨_, rfl⟩
    rw [ex] at hcell0 RB
    have RB := Lib.hid RB
    have d2 : decide ((2 : Int) ≤ (ms.length : Int)) = true := by simp; omega
    have hn0 : (0 : Int) < ms.length := by omega
    clear hc hx ex h2 hs
    by_cases hr : risB ms 0 60 = true
    · rw [hr] at RI RB
      go_enter Try.func19, Try.ntmps19
      go_wp2_with fail
      refine RI.out.mono ?_
      rintro e w1 ⟨rfl, b1⟩
      have hcell := (b1.cell (p := ⟨b, off, none⟩) hbl).trans hcell0
      go_wp2_with fail
      go_ret
      exact ⟨ret_bool (by rw [RB.out]; simp), b1⟩
    · have hr : risB ms 0 60 = false := by simpa using hr
      rw [hr] at RI RB
      go_enter Try.func19, Try.ntmps19
      go_wp2_with fail
      refine RI.out.mono ?_
      rintro e w1 ⟨rfl, b1⟩
      go_wp2_with fail
      go_ret
      exact ⟨ret_bool (by rw [RB.out]; simp), b1⟩
  · have RB := Lib.hid (rulB_no fun g => h2 g.two)
    have d2 : decide ((2 : Int) ≤ (ms.length : Int)) = false := by simp; omega
    clear hx h2 hs
    go_enter Try.func19, Try.ntmps19
    go_wp2_with fail
    go_ret
    exact ⟨ret_bool RB.out.symm, Below.refl _ _⟩

set_option maxHeartbeats 8000000 in
set_option maxRecDepth 20000 in
theorem ruTimes_any (v : Value) (ms : List Int) (w : World) (h : Sp w v ms) (S : Rul ms) :
    Calls Try.prog 34 #[v] w fun e w' => ∃ u, e = .returned u ∧ Ow w' w.heap.size u (tmT ms ((lastM ms).toNat + 1)) ∧ OwnAt u w.heap.size ∧ Below w.heap.size w w' := by
  have hlb := S.last_bd
  have h2 := S.two
  have HT := Lib.hid S
  obtain ⟨b, off, cap, rfl, hcap, hcm, hbl, hc⟩ := h
  obtain ⟨n, hn⟩ : ∃ n, ms.length = n + 1 := ⟨ms.length - 1, by omega⟩
  have hcell0 : w.cell? ⟨b, off + n, none⟩ = some (.int .i64 (lastM ms)) := by
    have := hc n (by omega)
    rw [this]; unfold lastM; rw [hn]; rfl
  obtain ⟨M, eM⟩ : ∃ M : Nat, lastM ms = M := ⟨(lastM ms).toNat, by omega⟩
  have HM := Lib.hid eM
  have hMt : (lastM ms).toNat + 1 = M + 1 := by omega
  rw [hMt]
  rw [eM] at hcell0 hlb
  have hmk := run_make_row' (P := Try.prog) 22 3 (.int .i64 0) 8 Try.underlying22 Try.infoI rfl .i64 .i64 (M + 1) (by omega) (by omega)
  rw [Int.natCast_succ] at hmk
  have HC := Lib.hid hc
  have hcm : cap ≤ 9223372036854775807 := by unfold maxLen at hcm; exact hcm
  have HN := Lib.hid hn
  obtain ⟨hl1, hl2, hl3⟩ := hlb
  have hn2 : n ≤ 60 := by omega
  have hcap2 : n + 1 ≤ cap := by omega
  rw [hn]
  clear hc eM hMt S
  go_enter Try.func34, Try.ntmps34
  go_wp2
  go_loopw [18] (fun x wr => ∃ i : Nat, i ≤ n + 1 ∧ x = .int .i64 i ∧ wr.rowIs w.heap.size 3 (M + 1) (fun j => .int .i64 (tmF ms i (j : Nat))) ∧ Below w.heap.size w wr) (fun x _ => n + 1 - (intOf x).toNat)
  case atStart => exact ⟨0, Nat.zero_le _, rfl, (World.rowIs_made w _ _ _).congr (fun j _ => by simp [tmF]), (Below.refl _ _).alloc (Nat.le_refl _) _⟩
  case round =>
    obtain ⟨i, hi, rfl, hrow, hb⟩ := hrel
    clear hmk
    by_cases hlt : i < n + 1
    · have hcell := (hb.cell (p := ⟨b, off + i, none⟩) hbl).trans (HC.out i (by rw [HN.out]; exact hlt))
      obtain ⟨x, ex⟩ : ∃ x, ms.getD i 0 = x := ⟨_, rfl⟩
      have hxb := HT.out.bd i (by rw [HN.out]; exact hlt)
      rw [HM.out] at hxb
      rw [ex] at hcell hxb
      have EX := Lib.hid ex
      obtain ⟨hx0, hx1, hx2⟩ := hxb
      have i3 : (i : Int) + 1 ≤ (cap : Int) := by omega
      have i4 : (i : Int) + 1 ≤ (n : Int) + 1 := by omega
      have i5 : decide ((i : Int) < (n : Int) + 1) = true := by simp; omega
      have i2 : (0 : Int) ≤ (i : Int) + 1 := by omega
      clear ex
      by_cases hcc : cap = i + 1
      · subst hcc
        have hin : i = n := by omega
        subst hin
        have AL := fun j => Lib.hid (tmI_all ms i j)
        go_wp2
        go_loopw [28] (fun x wr => x = .int .i64 0 ∧ wr.rowIs w.heap.size 3 (M + 1) (fun j => .int .i64 (tmF ms i (j : Nat))) ∧ Below w.heap.size w wr) (fun _ _ => 0)
        case atStart => exact ⟨rfl, hrow, hb⟩
        case round =>
          obtain ⟨rfl, hrow, hb⟩ := hrel
          go_wp2
          go_roundw
          case rel => exact ⟨i + 1, by omega, by go_num, hrow.congr (fun j _ => by rw [← (AL j).out, ← tmI_zero, HN.out, Nat.sub_self]), hb⟩
          case measure => simp [intOf]
      · have AL := fun j => Lib.hid (tmI_all ms i j)
        go_wp2
        go_loopw [28] (fun x wr => ∃ k : Nat, k ≤ n - i ∧ x = .int .i64 k ∧ wr.rowIs w.heap.size 3 (M + 1) (fun j => .int .i64 (tmI ms i k (j : Nat))) ∧ Below w.heap.size w wr) (fun x _ => n - i - (intOf x).toNat)
        case atStart => exact ⟨0, Nat.zero_le _, rfl, hrow.congr (fun j _ => by rw [tmI_zero]), hb⟩
        case round =>
          obtain ⟨k, hk, rfl, hrow, hb⟩ := hrel
          by_cases hkl : k < n - i
          · have hcy := (hb.cell (p := ⟨b, off + (i + 1 + k), none⟩) hbl).trans (HC.out (i + 1 + k) (by rw [HN.out]; omega))
            rw [← Nat.add_assoc off] at hcy
            have hd := HT.out.diff (i := i) (j := i + 1 + k) (by omega) (by rw [HN.out]; omega)
            have hyb := HT.out.bd (i + 1 + k) (by rw [HN.out]; omega)
            have NX := fun j => Lib.hid (tmI_next ms (i := i) (k := k) (by rw [HN.out]; omega) j)
            rw [EX.out] at hd NX
            rw [HM.out] at hd hyb
            obtain ⟨y, ey⟩ : ∃ y, ms.getD (i + 1 + k) 0 = y := ⟨_, rfl⟩
            rw [ey] at hcy hd hyb NX
            obtain ⟨hy0, hy1, hy2⟩ := hyb
            obtain ⟨hd0, hd1⟩ := hd
            obtain ⟨D, eD⟩ : ∃ D : Nat, y - x = D := ⟨(y - x).toNat, by omega⟩
            have hold := hrow.cell (i := D) (by omega)
            have hfr := hrow.frozen D
            have tb := tmI_bd ms i k D (by rw [HN.out]; omega) (by omega)
            obtain ⟨t, et⟩ : ∃ t, tmI ms i k D = t := ⟨_, rfl⟩
            rw [et] at hold tb
            have ET := Lib.hid et
            have ED := Lib.hid eD
            obtain ⟨tb0, tb1⟩ := tb
            have hset := hrow.set D (.int .i64 (t + 1))
            have j2 : IntKind.i64.wrap (y - x) = (D : Int) := by rw [eD]; exact IntWalk.i64_in _ (by omega)
            have hw : IntKind.i64.wrap (t + 1) = t + 1 := IntWalk.i64_in _ (by omega)
            have k1 : (k : Int) < (n : Int) + 1 - (i + 1) := by omega
            have D1 : (D : Int) < (M : Int) + 1 := by omega
            clear ey et eD
            go_wp2
            go_roundw
            case rel =>
              refine ⟨k + 1, by omega, by go_num, hset.congr (fun j _ => ?_), hb.setCell (Nat.le_refl _) _⟩
              rw [(NX j).out, ED.out]
              by_cases e : j = D
              · subst e; simp [ET.out]
              · have : ¬ (D : Int) = j := by omega
                simp [e, this]
            case measure => simp [intOf]; omega
          · have hke : k = n - i := by omega
            go_wp2
            go_roundw
            case rel => exact ⟨i + 1, by omega, by go_num, hrow.congr (fun j _ => by rw [← (AL j).out, hke, HN.out, Nat.add_sub_add_right]), hb⟩
            case measure => simp [intOf]; omega
    · have hie : i = n + 1 := by omega
      subst hie
      go_wp2
      go_ret
      exact ⟨_, rfl, ow_of_row hrow (by rw [tmT_len]) (by unfold maxLen; omega) (fun j hj => by rw [tmT_at _ _ _ hj]; unfold tm; rw [HN.out]), rfl, hb⟩
end Go.Proofs.Ythienikceehcoaa
