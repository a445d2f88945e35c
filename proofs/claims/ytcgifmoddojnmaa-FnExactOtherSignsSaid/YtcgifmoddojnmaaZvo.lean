/-
  ValueOfSigns and OtherSigns in the model and in the program, by contracts. Conditions: slices of at most 2^40 numbers, texts of at most 2^20 bytes.
-/
import Derived.Test.YtcgifmoddojnmaaZsg
namespace Go.Proofs.Ytcgifmoddojnmaa
open Go.RowKit

noncomputable def vsB (xs : List Int) (a : List UInt8) : Bool := sideB xs && sgB a xs.length
noncomputable def vsR (xs : List Int) (a : List UInt8) : Int := if vsB xs a = true then vsK xs a xs.length else 0
noncomputable def ovR (xs : List Int) (a : List UInt8) : ByteArray := if vsB xs a = true then bstr (otL a) else ⟨#[]⟩
theorem vs_no {xs : List Int} {a : List UInt8} (h : vsB xs a = false) : vsB xs a = false ∧ vsR xs a = 0 ∧ ovR xs a = ⟨#[]⟩ := ⟨h, by simp [vsR, h], by simp [ovR, h]⟩
theorem vs_yes {xs : List Int} {a : List UInt8} (h : vsB xs a = true) : vsB xs a = true ∧ vsR xs a = vsK xs a xs.length ∧ ovR xs a = bstr (otL a) := ⟨h, by simp [vsR, h], by simp [ovR, h]⟩

set_option maxHeartbeats 2000000 in
set_option maxRecDepth 20000 in
theorem areSignsFor_any (v : Value) (xs : List Int) (a : List UInt8) (w : World) (h : Sv w v xs) (hl : xs.length ≤ 1099511627776) :
    Calls Try.prog 70 #[v, .string (bstr a)] w fun e w' => e = .returned (.bool (vsB xs a)) ∧ Below w.heap.size w w' := by
  have hs := h
  obtain ⟨p, cap, rfl, -⟩ := h
  have hsz := bstr_size a
  have HO := fun W => Lib.hid (show Calls Try.prog 96 #[.string (bstr a), .string ⟨#[43, 45, 48]⟩] W fun e w' => e = .returned (.bool (sgA a)) ∧ Below W.heap.size W w' by
    have h := hasOnly_any a [43, 45, 48] W signs_ascii (by decide)
    rw [only_sg] at h
    exact h)
  obtain ⟨s, es⟩ : ∃ s, bstr a = s := ⟨_, rfl⟩
  rw [es] at HO hsz ⊢
  clear es
  by_cases hg : sideB xs = true
  · by_cases hn : a.length = xs.length
    · have R : Hid (vsB xs a = sgA a) := Lib.hid (by simp [vsB, sgB, hg, hn])
      have d : ((a.length : Int) == (xs.length : Int)) = true := by simp; omega
      clear hn
      go_enter Try.func70, Try.ntmps70
      go_wp2_with fail
      refine (areSide_any _ _ _ hs hl).mono ?_
      rintro e w1 ⟨rfl, b1⟩
      go_wp2_with (go_at_call 96; refine (HO _).out.mono ?_; rintro e w2 ⟨rfl, b2⟩)
      go_ret
      exact ⟨ret_bool R.out.symm, nxt b1 b2⟩
    · have R : Hid (vsB xs a = false) := Lib.hid (by simp only [vsB, sgB, Bool.and_eq_false_iff, decide_eq_false_iff_not]; exact .inr (.inl (by omega)))
      have d : ((a.length : Int) == (xs.length : Int)) = false := by rw [beq_eq_false_iff_ne]; omega
      clear hn
      go_enter Try.func70, Try.ntmps70
      go_wp2_with fail
      refine (areSide_any _ _ _ hs hl).mono ?_
      rintro e w1 ⟨rfl, b1⟩
      go_wp2_with fail
      go_ret
      exact ⟨ret_bool R.out.symm, b1⟩
  · have hg : sideB xs = false := by simpa using hg
    have R : Hid (vsB xs a = false) := Lib.hid (by simp [vsB, hg])
    go_enter Try.func70, Try.ntmps70
    go_wp2_with fail
    refine (areSide_any _ _ _ hs hl).mono ?_
    rintro e w1 ⟨rfl, b1⟩
    go_wp2_with fail
    go_ret
    exact ⟨ret_bool R.out.symm, b1⟩

set_option maxHeartbeats 4000000 in
set_option maxRecDepth 20000 in
theorem specValueOfSigns_any (v : Value) (xs : List Int) (a : List UInt8) (w : World) (h : Sp w v xs) (hl : xs.length ≤ 1099511627776) (ha : a.length ≤ 1048576) :
    Calls Try.prog 29 #[v, .string (bstr a)] w fun e w' => e = .returned (.tuple #[.int .i64 (vsR xs a), .bool (vsB xs a)]) ∧ Below w.heap.size w w' := by
  have hs := h.sv
  obtain ⟨b, off, cap, rfl, -, -, hbl, hc⟩ := h
  have HC := Lib.hid hc
  have SG := fun W => Lib.hid (siSigns_any a (xs.length : Int) W ha)
  have BA := Lib.hid (fun k (hk : k < a.length) wx => byte_at a k hk 9 Try.underlying9 wx)
  obtain ⟨s, es⟩ : ∃ s, bstr a = s := ⟨_, rfl⟩
  rw [es] at SG BA ⊢
  clear es hc
  by_cases hg : sideB xs = true
  · have hgood := (sideB_iff.1 hg).1
    have hl12 := (sideB_iff.1 hg).2
    by_cases hn : sgB a xs.length = true
    · have R := Lib.hid (vs_yes (xs := xs) (a := a) (by simp [vsB, hg, hn]))
      have HAL : Hid (a.length = xs.length) := Lib.hid (by simp only [sgB, Bool.and_eq_true, decide_eq_true_eq] at hn; omega)
      go_enter Try.func29, Try.ntmps29
      go_wp2_with fail
      refine (siFew_any _ _ _ hs hl).mono ?_
      rintro e w1 ⟨rfl, b1⟩
      go_wp2_with fail
      refine (SG _).out.mono ?_
      rintro e w1' ⟨rfl, rfl⟩
      rw [hn]
      clear hn
      go_wp2
      go_loopw [6, 21] (fun t i wr => ∃ k : Nat, k ≤ xs.length ∧ i = .int .i64 k ∧ t = .int .i64 (vsK xs a k) ∧ wr = w1) (fun _ i _ => xs.length - (intOf i).toNat)
      case atStart => exact ⟨0, Nat.zero_le _, rfl, rfl, rfl⟩
      case round =>
        obtain ⟨k, hk, rfl, rfl, rfl⟩ := hrel
        by_cases hlt : k < xs.length
        · have hcell := (b1.cell (p := ⟨b, off + k, none⟩) hbl).trans (HC.out k hlt)
          have hA := BA.out k (by rw [HAL.out]; exact hlt)
          have hx := hgood.2.1 k hlt
          have hv1 := vsK_bd (a := a) hgood.2.1 k (by omega)
          have hv2 := vsK_bd (a := a) hgood.2.1 (k + 1) (by omega)
          have ES : Hid (vsK xs a (k + 1) = vsK xs a k + tv (a.getD k 0) * xs.getD k 0) := Lib.hid rfl
          obtain ⟨x, ex⟩ : ∃ x, xs.getD k 0 = x := ⟨_, rfl⟩
          rw [ex] at hcell ES hx
          obtain ⟨b', eb⟩ : ∃ b', a.getD k 0 = b' := ⟨_, rfl⟩
          rw [eb] at hA ES
          have TB := fun w => Lib.hid (siOf_any b' w)
          have hb := tv_bd b'
          obtain ⟨d, ed⟩ : ∃ d, tv b' = d := ⟨_, rfl⟩
          rw [ed] at TB ES hb
          obtain ⟨t, et⟩ : ∃ t, vsK xs a k = t := ⟨_, rfl⟩
          rw [et] at hv1 ES ⊢
          rw [ES.out] at hv2
          have hp : -10000 ≤ d * x ∧ d * x ≤ 10000 := by
            have : d = -1 ∨ d = 0 ∨ d = 1 := by omega
            rcases this with rfl | rfl | rfl <;> omega
          obtain ⟨p, ep⟩ : ∃ p, d * x = p := ⟨_, rfl⟩
          rw [ep] at ES hp hv2
          have hw : IntKind.i64.wrap (d * x) = p := by rw [ep]; exact IntWalk.i64_in _ (by omega)
          have hw2 : IntKind.i64.wrap (t + p) = t + p := IntWalk.i64_in _ (by omega)
          obtain ⟨c, ec⟩ : ∃ c : Int, (b'.toNat : Int) = c := ⟨_, rfl⟩
          rw [ec] at hA TB
          clear ex eb ed et ep ec hp hv2 hb hx
          go_wp2_with (go_at_call 69; refine (TB _).out.mono ?_; rintro e w' ⟨rfl, rfl⟩)
          go_roundw
          case rel => exact ⟨k + 1, by omega, by go_num, by rw [ES.out], trivial⟩
          case measure => simp only [intOf]; omega
        · have hke : k = xs.length := by omega
          subst hke
          go_wp2
          go_ret2
          exact ⟨ret_ib R.out.2.1.symm R.out.1.symm, b1⟩
    · have hn : sgB a xs.length = false := by simpa using hn
      have R := Lib.hid (vs_no (xs := xs) (a := a) (by simp [vsB, hn]))
      go_enter Try.func29, Try.ntmps29
      go_wp2_with fail
      refine (siFew_any _ _ _ hs hl).mono ?_
      rintro e w1 ⟨rfl, b1⟩
      go_wp2_with fail
      refine (SG _).out.mono ?_
      rintro e w1' ⟨rfl, rfl⟩
      rw [hn]
      go_wp2_with fail
      go_ret2
      exact ⟨ret_ib R.out.2.1.symm R.out.1.symm, b1⟩
  · have hg : sideB xs = false := by simpa using hg
    have R := Lib.hid (vs_no (xs := xs) (a := a) (by simp [vsB, hg]))
    go_enter Try.func29, Try.ntmps29
    go_wp2_with fail
    refine (siFew_any _ _ _ hs hl).mono ?_
    rintro e w1 ⟨rfl, b1⟩
    go_wp2_with fail
    go_ret2
    exact ⟨ret_ib R.out.2.1.symm R.out.1.symm, b1⟩

set_option maxHeartbeats 4000000 in
set_option maxRecDepth 20000 in
theorem implValueOfSigns_any (v : Value) (xs : List Int) (a : List UInt8) (w : World) (h : Sp w v xs) (hl : xs.length ≤ 1099511627776) (_ha : a.length ≤ 1048576) :
    Calls Try.prog 30 #[v, .string (bstr a)] w fun e w' => e = .returned (.tuple #[.int .i64 (vsR xs a), .bool (vsB xs a)]) ∧ Below w.heap.size w w' := by
  have hs := h.sv
  obtain ⟨b, off, cap, rfl, -, -, hbl, hc⟩ := h
  have HC := Lib.hid hc
  have SG := fun W hW => Lib.hid (areSignsFor_any (.slice (some ⟨b, off, none⟩) xs.length cap) xs a W hW hl)
  have BA := Lib.hid (fun k (hk : k < a.length) wx => byte_at a k hk 9 Try.underlying9 wx)
  obtain ⟨s, es⟩ : ∃ s, bstr a = s := ⟨_, rfl⟩
  rw [es] at SG BA ⊢
  clear es hc
  by_cases hn : vsB xs a = true
  · have R := Lib.hid (vs_yes hn)
    have hg : sideB xs = true ∧ a.length = xs.length := by
      simp only [vsB, sgB, Bool.and_eq_true, decide_eq_true_eq] at hn
      exact ⟨hn.1, by omega⟩
    have hgood := (sideB_iff.1 hg.1).1
    have hl12 := (sideB_iff.1 hg.1).2
    have HAL := Lib.hid hg.2
    clear hg
    go_enter Try.func30, Try.ntmps30
    go_wp2_with fail
    refine (SG _ hs).out.mono ?_
    rintro e w1 ⟨rfl, b1⟩
    rw [hn]
    clear hn
    go_wp2
    go_loopw [6, 15] (fun t i wr => ∃ k : Nat, k ≤ xs.length ∧ i = .int .i64 k ∧ t = .int .i64 (vsK xs a k) ∧ wr = w1) (fun _ i _ => xs.length - (intOf i).toNat)
    case atStart => exact ⟨0, Nat.zero_le _, rfl, rfl, rfl⟩
    case round =>
      obtain ⟨k, hk, rfl, rfl, rfl⟩ := hrel
      by_cases hlt : k < xs.length
      · have hcell := (b1.cell (p := ⟨b, off + k, none⟩) hbl).trans (HC.out k hlt)
        have hA := BA.out k (by rw [HAL.out]; exact hlt)
        have hx := hgood.2.1 k hlt
        have hv1 := vsK_bd (a := a) hgood.2.1 k (by omega)
        have hv2 := vsK_bd (a := a) hgood.2.1 (k + 1) (by omega)
        have ES : Hid (vsK xs a (k + 1) = vsK xs a k + tv (a.getD k 0) * xs.getD k 0) := Lib.hid rfl
        obtain ⟨x, ex⟩ : ∃ x, xs.getD k 0 = x := ⟨_, rfl⟩
        rw [ex] at hcell ES hx
        obtain ⟨b', eb⟩ : ∃ b', a.getD k 0 = b' := ⟨_, rfl⟩
        rw [eb] at hA ES
        have TB := fun w => Lib.hid (timesOf_any b' w)
        have hb := tv_bd b'
        obtain ⟨d, ed⟩ : ∃ d, tv b' = d := ⟨_, rfl⟩
        rw [ed] at TB ES hb
        obtain ⟨t, et⟩ : ∃ t, vsK xs a k = t := ⟨_, rfl⟩
        rw [et] at hv1 ES ⊢
        rw [ES.out] at hv2
        have hp : -10000 ≤ d * x ∧ d * x ≤ 10000 := by
          have : d = -1 ∨ d = 0 ∨ d = 1 := by omega
          rcases this with rfl | rfl | rfl <;> omega
        obtain ⟨p, ep⟩ : ∃ p, d * x = p := ⟨_, rfl⟩
        rw [ep] at ES hp hv2
        have hw : IntKind.i64.wrap (d * x) = p := by rw [ep]; exact IntWalk.i64_in _ (by omega)
        have hw2 : IntKind.i64.wrap (t + p) = t + p := IntWalk.i64_in _ (by omega)
        obtain ⟨c, ec⟩ : ∃ c : Int, (b'.toNat : Int) = c := ⟨_, rfl⟩
        rw [ec] at hA TB
        clear ex eb ed et ep ec hp hv2 hb hx
        go_wp2_with (go_at_call 71; refine (TB _).out.mono ?_; rintro e w' ⟨rfl, rfl⟩)
        go_roundw
        case rel => exact ⟨k + 1, by omega, by go_num, by rw [ES.out], trivial⟩
        case measure => simp only [intOf]; omega
      · have hke : k = xs.length := by omega
        subst hke
        go_wp2
        go_ret2
        exact ⟨ret_ib R.out.2.1.symm R.out.1.symm, b1⟩
  · have hn : vsB xs a = false := by simpa using hn
    have R := Lib.hid (vs_no hn)
    go_enter Try.func30, Try.ntmps30
    go_wp2_with fail
    refine (SG _ hs).out.mono ?_
    rintro e w1 ⟨rfl, b1⟩
    rw [hn]
    go_wp2_with fail
    go_ret2
    exact ⟨ret_ib R.out.2.1.symm R.out.1.symm, b1⟩

set_option maxHeartbeats 4000000 in
set_option maxRecDepth 20000 in
theorem specOtherSigns_any (v : Value) (xs : List Int) (a : List UInt8) (w : World) (h : Sp w v xs) (hl : xs.length ≤ 1099511627776) (ha : a.length ≤ 1048576) :
    Calls Try.prog 31 #[v, .string (bstr a)] w fun e w' => e = .returned (.tuple #[.string (ovR xs a), .bool (vsB xs a)]) ∧ Below w.heap.size w w' := by
  have hs := h.sv
  obtain ⟨b, off, cap, rfl, -, -, -, -⟩ := h
  have SG := fun W => Lib.hid (siSigns_any a (xs.length : Int) W ha)
  have OT := fun W => Lib.hid (siOther_any a W ha)
  obtain ⟨s, es⟩ : ∃ s, bstr a = s := ⟨_, rfl⟩
  rw [es] at SG OT ⊢
  clear es
  by_cases hg : sideB xs = true
  · by_cases hn : sgB a xs.length = true
    · have R := Lib.hid (vs_yes (xs := xs) (a := a) (by simp [vsB, hg, hn]))
      go_enter Try.func31, Try.ntmps31
      go_wp2_with fail
      refine (siFew_any _ _ _ hs hl).mono ?_
      rintro e w1 ⟨rfl, b1⟩
      go_wp2_with fail
      refine (SG _).out.mono ?_
      rintro e w1' ⟨rfl, rfl⟩
      rw [hn]
      clear hn
      go_wp2_with (go_at_call 72; refine (OT _).out.mono ?_; rintro e w' ⟨rfl, rfl⟩)
      go_ret2
      exact ⟨ret_sb R.out.2.2.symm R.out.1.symm, b1⟩
    · have hn : sgB a xs.length = false := by simpa using hn
      have R := Lib.hid (vs_no (xs := xs) (a := a) (by simp [vsB, hn]))
      go_enter Try.func31, Try.ntmps31
      go_wp2_with fail
      refine (siFew_any _ _ _ hs hl).mono ?_
      rintro e w1 ⟨rfl, b1⟩
      go_wp2_with fail
      refine (SG _).out.mono ?_
      rintro e w1' ⟨rfl, rfl⟩
      rw [hn]
      go_wp2_with fail
      go_ret2
      exact ⟨ret_sb R.out.2.2.symm R.out.1.symm, b1⟩
  · have hg : sideB xs = false := by simpa using hg
    have R := Lib.hid (vs_no (xs := xs) (a := a) (by simp [vsB, hg]))
    go_enter Try.func31, Try.ntmps31
    go_wp2_with fail
    refine (siFew_any _ _ _ hs hl).mono ?_
    rintro e w1 ⟨rfl, b1⟩
    go_wp2_with fail
    go_ret2
    exact ⟨ret_sb R.out.2.2.symm R.out.1.symm, b1⟩

set_option maxHeartbeats 4000000 in
set_option maxRecDepth 20000 in
theorem implOtherSigns_any (v : Value) (xs : List Int) (a : List UInt8) (w : World) (h : Sp w v xs) (hl : xs.length ≤ 1099511627776) (ha : a.length ≤ 1048576) :
    Calls Try.prog 32 #[v, .string (bstr a)] w fun e w' => e = .returned (.tuple #[.string (ovR xs a), .bool (vsB xs a)]) ∧ Below w.heap.size w w' := by
  have hs := h.sv
  obtain ⟨b, off, cap, rfl, -, -, -, -⟩ := h
  have SG := fun W hW => Lib.hid (areSignsFor_any (.slice (some ⟨b, off, none⟩) xs.length cap) xs a W hW hl)
  have OT := fun W => Lib.hid (other_any a W ha)
  obtain ⟨s, es⟩ : ∃ s, bstr a = s := ⟨_, rfl⟩
  rw [es] at SG OT ⊢
  clear es
  by_cases hn : vsB xs a = true
  · have R := Lib.hid (vs_yes hn)
    go_enter Try.func32, Try.ntmps32
    go_wp2_with fail
    refine (SG _ hs).out.mono ?_
    rintro e w1 ⟨rfl, b1⟩
    rw [hn]
    clear hn
    go_wp2_with (go_at_call 73; refine (OT _).out.mono ?_; rintro e w' ⟨rfl, rfl⟩)
    go_ret2
    exact ⟨ret_sb R.out.2.2.symm R.out.1.symm, b1⟩
  · have hn : vsB xs a = false := by simpa using hn
    have R := Lib.hid (vs_no hn)
    go_enter Try.func32, Try.ntmps32
    go_wp2_with fail
    refine (SG _ hs).out.mono ?_
    rintro e w1 ⟨rfl, b1⟩
    rw [hn]
    go_wp2_with fail
    go_ret2
    exact ⟨ret_sb R.out.2.2.symm R.out.1.symm, b1⟩

end Go.Proofs.Ytcgifmoddojnmaa
