/-
  Signs in the model and in the program: whether a text has only signs, what they stand for, signs exchanged, the value of signs, by contracts. Conditions: slices of at most 2^40 numbers, texts of at most 2^20 bytes.
-/
import Derived.Test.YtcgifmoddojnmaaZby
import Derived.Test.YtcgifmoddojnmaaZcr
import Derived.Test.YtcgifmoddojnmaaZpt
namespace Go.Proofs.Ytcgifmoddojnmaa
open Go.RowKit

noncomputable def sgA (a : List UInt8) : Bool := @decide (SgTo a a.length) (Classical.propDecidable _)
theorem sgA_yes {a : List UInt8} (h : SgTo a a.length) : sgA a = true := by simp [sgA, h]
theorem sgA_no {a : List UInt8} {k : Nat} (hk : k < a.length) (h : ¬ isSg (a.getD k 0)) : sgA a = false := by
  simp only [sgA, decide_eq_false_iff_not]; exact fun g => h (g k hk)
theorem sgA_iff {a : List UInt8} : sgA a = true ↔ SgTo a a.length := by simp [sgA]
theorem only_sg (a : List UInt8) : onlyB a [43, 45, 48] = sgA a := by
  have e : ∀ b : UInt8, b ∈ ([43, 45, 48] : List UInt8) ↔ isSg b := fun b => by simp [isSg]
  simp only [onlyB, sgA]
  congr 1
  apply propext
  exact ⟨fun h j hj => (e _).1 (h j hj), fun h j hj => (e _).2 (h j hj)⟩
noncomputable def sgB (a : List UInt8) (n : Int) : Bool := decide ((a.length : Int) = n) && sgA a
theorem byteNe {b : UInt8} {c : Nat} (h : b ≠ UInt8.ofNat c) (hc : c < 256) : ((b.toNat : Int) == (c : Int)) = false := by
  rw [beq_eq_false_iff_ne]
  intro e
  apply h
  apply UInt8.toNat_inj.1
  rw [UInt8.toNat_ofNat']
  omega
theorem signs_ascii : ∀ b ∈ ([43, 45, 48] : List UInt8), b.toNat < 128 := by decide
theorem ret_sb {a b : ByteArray} {c d : Bool} (h : a = b) (g : c = d) : Ending.returned (.tuple #[.string a, .bool c]) = .returned (.tuple #[.string b, .bool d]) := by rw [h, g]

set_option maxHeartbeats 4000000 in
set_option maxRecDepth 20000 in
theorem siSigns_any (a : List UInt8) (n : Int) (w : World) (hl : a.length ≤ 1048576) :
    Calls Try.prog 68 #[.string (bstr a), .int .i64 n] w fun e w' => e = .returned (.bool (sgB a n)) ∧ w = w' := by
  have hsz := bstr_size a
  have BA := Lib.hid (fun k (hk : k < a.length) wx => byte_at a k hk 9 Try.underlying9 wx)
  obtain ⟨s, es⟩ : ∃ s, bstr a = s := ⟨_, rfl⟩
  rw [es] at BA hsz ⊢
  clear es
  by_cases hn : (a.length : Int) = n
  · have R : Hid (sgB a n = sgA a) := Lib.hid (by simp [sgB, hn])
    subst hn
    go_enter Try.func68, Try.ntmps68
    go_wp2
    go_loop [5] (fun i => ∃ k : Nat, k ≤ a.length ∧ i = .int .i64 k ∧ Hid (SgTo a k)) (fun i => a.length - (intOf i).toNat)
    case atStart => exact ⟨0, Nat.zero_le _, rfl, Lib.hid (SgTo.zero a)⟩
    case round =>
      obtain ⟨k, hk, rfl, HT⟩ := hrel
      by_cases hlt : k < a.length
      · have hA := BA.out k hlt
        obtain ⟨b, eb⟩ : ∃ b, a.getD k 0 = b := ⟨_, rfl⟩
        have EB := Lib.hid eb
        rw [eb] at hA
        clear eb
        by_cases h1 : b = 43
        · subst h1
          have HT2 : Hid (SgTo a (k + 1)) := Lib.hid (HT.out.succ (by rw [EB.out]; exact .inl rfl))
          have hA : ∀ wx : World, (Instr.index 9 (.string s) (.int .i64 (k : Int))).run Try.prog wx = .ok (.int .u8 43) wx := hA
          go_wp2
          go_round
          case rel => exact ⟨k + 1, by omega, by go_num, HT2⟩
          case measure => simp [intOf]; omega
        · by_cases h2 : b = 45
          · subst h2
            have HT2 : Hid (SgTo a (k + 1)) := Lib.hid (HT.out.succ (by rw [EB.out]; exact .inr (.inl rfl)))
            have hA : ∀ wx : World, (Instr.index 9 (.string s) (.int .i64 (k : Int))).run Try.prog wx = .ok (.int .u8 45) wx := hA
            clear h1
            go_wp2
            go_round
            case rel => exact ⟨k + 1, by omega, by go_num, HT2⟩
            case measure => simp [intOf]; omega
          · by_cases h3 : b = 48
            · subst h3
              have HT2 : Hid (SgTo a (k + 1)) := Lib.hid (HT.out.succ (by rw [EB.out]; exact .inr (.inr rfl)))
              have hA : ∀ wx : World, (Instr.index 9 (.string s) (.int .i64 (k : Int))).run Try.prog wx = .ok (.int .u8 48) wx := hA
              clear h1 h2
              go_wp2
              go_round
              case rel => exact ⟨k + 1, by omega, by go_num, HT2⟩
              case measure => simp [intOf]; omega
            · have RN := Lib.hid (sgA_no hlt (fun h => by rw [EB.out] at h; rcases h with h | h | h; exact h1 h; exact h2 h; exact h3 h))
              have m1 := byteNe (c := 43) h1 (by omega)
              have m2 := byteNe (c := 45) h2 (by omega)
              have m3 := byteNe (c := 48) h3 (by omega)
              obtain ⟨x, ex⟩ : ∃ x : Int, (b.toNat : Int) = x := ⟨_, rfl⟩
              rw [ex] at hA m1 m2 m3
              have m1 : (x == 43) = false := m1
              have m2 : (x == 45) = false := m2
              have m3 : (x == 48) = false := m3
              have q1 : (x != 43) = true := by simp [bne, m1]
              have q2 : (x != 45) = true := by simp [bne, m2]
              have q3 : (x != 48) = true := by simp [bne, m3]
              clear h1 h2 h3 ex m1 m2 m3
              go_wp2
              go_ret
              exact ⟨ret_bool (by rw [R.out, RN.out]), rfl⟩
      · have hke : k = a.length := by omega
        have RY : Hid (sgA a = true) := Lib.hid (sgA_yes (by rw [← hke]; exact HT.out))
        go_wp2
        go_ret
        exact ⟨ret_bool (by rw [R.out, RY.out]), rfl⟩
  · have R : Hid (sgB a n = false) := Lib.hid (by simp [sgB, hn])
    have d : ((a.length : Int) != n) = true := by simpa using hn
    have hn2 : ¬ ((s.size : Int) = n) := by omega
    have d2 : ((s.size : Int) != n) = true := by simpa using hn2
    clear hn
    go_enter Try.func68, Try.ntmps68
    go_wp2
    go_ret
    exact ⟨ret_bool R.out.symm, rfl⟩

theorem siOf_any (b : UInt8) (w : World) : Calls Try.prog 69 #[.int .u8 (b.toNat : Int)] w fun e w' => e = .returned (.int .i64 (tv b)) ∧ w = w' := by
  by_cases h1 : b = 43
  · subst h1
    show Calls Try.prog 69 #[.int .u8 43] w _
    go_enter Try.func69, Try.ntmps69
    go_wp2
    go_ret
    exact ⟨ret_int rfl, rfl⟩
  · by_cases h2 : b = 45
    · subst h2
      show Calls Try.prog 69 #[.int .u8 45] w _
      go_enter Try.func69, Try.ntmps69
      go_wp2
      go_ret
      exact ⟨ret_int rfl, rfl⟩
    · have R := Lib.hid (show tv b = 0 by unfold tv; rw [if_neg h1, if_neg h2])
      have m1 := byteNe (c := 43) h1 (by omega)
      have m2 := byteNe (c := 45) h2 (by omega)
      obtain ⟨x, ex⟩ : ∃ x : Int, (b.toNat : Int) = x := ⟨_, rfl⟩
      rw [ex] at m1 m2 ⊢
      have m1 : (x == 43) = false := m1
      have m2 : (x == 45) = false := m2
      clear h1 h2 ex
      go_enter Try.func69, Try.ntmps69
      go_wp2
      go_ret
      exact ⟨ret_int R.out.symm, rfl⟩
theorem timesOf_any (b : UInt8) (w : World) : Calls Try.prog 71 #[.int .u8 (b.toNat : Int)] w fun e w' => e = .returned (.int .i64 (tv b)) ∧ w = w' := by
  by_cases h1 : b = 43
  · subst h1
    show Calls Try.prog 71 #[.int .u8 43] w _
    go_enter Try.func71, Try.ntmps71
    go_wp2
    go_ret
    exact ⟨ret_int rfl, rfl⟩
  · by_cases h2 : b = 45
    · subst h2
      show Calls Try.prog 71 #[.int .u8 45] w _
      go_enter Try.func71, Try.ntmps71
      go_wp2
      go_ret
      exact ⟨ret_int rfl, rfl⟩
    · have R := Lib.hid (show tv b = 0 by unfold tv; rw [if_neg h1, if_neg h2])
      have m1 := byteNe (c := 43) h1 (by omega)
      have m2 := byteNe (c := 45) h2 (by omega)
      obtain ⟨x, ex⟩ : ∃ x : Int, (b.toNat : Int) = x := ⟨_, rfl⟩
      rw [ex] at m1 m2 ⊢
      have m1 : (x == 43) = false := m1
      have m2 : (x == 45) = false := m2
      clear h1 h2 ex
      go_enter Try.func71, Try.ntmps71
      go_wp2
      go_ret
      exact ⟨ret_int R.out.symm, rfl⟩
theorem signOf_any (d : Int) (w : World) : Calls Try.prog 62 #[.int .i64 d] w fun e w' => e = .returned (.string (bstr [sc d])) ∧ w = w' := by
  by_cases h1 : d = 1
  · subst h1
    go_enter Try.func62, Try.ntmps62
    go_wp2
    go_ret
    exact ⟨ret_str rfl, rfl⟩
  · by_cases h2 : d = -1
    · subst h2
      go_enter Try.func62, Try.ntmps62
      go_wp2
      go_ret
      exact ⟨ret_str rfl, rfl⟩
    · have R := Lib.hid (show bstr [sc d] = bstr [48] by unfold sc; rw [if_neg h1, if_neg h2])
      have m1 : (d == 1) = false := by simpa using h1
      have m2 : (d == -1) = false := by simpa using h2
      clear h1 h2
      go_enter Try.func62, Try.ntmps62
      go_wp2
      go_ret
      exact ⟨ret_str R.out.symm, rfl⟩

set_option maxHeartbeats 4000000 in
set_option maxRecDepth 20000 in
theorem siOther_any (a : List UInt8) (w : World) (hl : a.length ≤ 1048576) :
    Calls Try.prog 72 #[.string (bstr a)] w fun e w' => e = .returned (.string (bstr (otL a))) ∧ w = w' := by
  have hsz := bstr_size a
  have BA := Lib.hid (fun k (hk : k < a.length) wx => byte_at a k hk 9 Try.underlying9 wx)
  obtain ⟨s, es⟩ : ∃ s, bstr a = s := ⟨_, rfl⟩
  rw [es] at BA hsz ⊢
  clear es
  go_enter Try.func72, Try.ntmps72
  go_wp2
  go_loop [3, 4] (fun o i => ∃ (k : Nat) (S : ByteArray), k ≤ a.length ∧ i = .int .i64 k ∧ o = .string S ∧ S.size = k ∧ Hid (S = bstr (otL (a.take k)))) (fun _ i => a.length - (intOf i).toNat)
  case atStart => exact ⟨0, ⟨#[]⟩, Nat.zero_le _, rfl, rfl, rfl, Lib.hid rfl⟩
  case round =>
    obtain ⟨k, S, hk, rfl, rfl, hz, HS⟩ := hrel
    by_cases hlt : k < a.length
    · have hA := BA.out k hlt
      obtain ⟨b, eb⟩ : ∃ b, a.getD k 0 = b := ⟨_, rfl⟩
      have EB := Lib.hid (otL_take hlt eb)
      rw [eb] at hA
      clear eb
      have z1 : ¬ S.size + (⟨#[43]⟩ : ByteArray).size > 9223372036854775807 := by rw [hz]; show ¬ k + 1 > _; omega
      have z2 : ¬ S.size + (⟨#[45]⟩ : ByteArray).size > 9223372036854775807 := by rw [hz]; show ¬ k + 1 > _; omega
      have z3 : ¬ S.size + (⟨#[48]⟩ : ByteArray).size > 9223372036854775807 := by rw [hz]; show ¬ k + 1 > _; omega
      have Z1 : Hid ((S ++ ⟨#[43]⟩).size = k + 1) := Lib.hid (by rw [ByteArray.size_append, hz]; rfl)
      have Z2 : Hid ((S ++ ⟨#[45]⟩).size = k + 1) := Lib.hid (by rw [ByteArray.size_append, hz]; rfl)
      have Z3 : Hid ((S ++ ⟨#[48]⟩).size = k + 1) := Lib.hid (by rw [ByteArray.size_append, hz]; rfl)
      by_cases h1 : b = 43
      · subst h1
        have HN : Hid (S ++ ⟨#[45]⟩ = bstr (otL (a.take (k + 1)))) := Lib.hid (by rw [EB.out, ← bstr_app, HS.out]; rfl)
        have hA : ∀ wx : World, (Instr.index 9 (.string s) (.int .i64 (k : Int))).run Try.prog wx = .ok (.int .u8 43) wx := hA
        clear hz
        go_wp2
        go_round
        case rel => exact ⟨k + 1, _, by omega, by go_num, rfl, Z2.out, HN⟩
        case measure => simp [intOf]; omega
      · by_cases h2 : b = 45
        · subst h2
          have HN : Hid (S ++ ⟨#[43]⟩ = bstr (otL (a.take (k + 1)))) := Lib.hid (by rw [EB.out, ← bstr_app, HS.out]; rfl)
          have hA : ∀ wx : World, (Instr.index 9 (.string s) (.int .i64 (k : Int))).run Try.prog wx = .ok (.int .u8 45) wx := hA
          clear h1 hz
          go_wp2
          go_round
          case rel => exact ⟨k + 1, _, by omega, by go_num, rfl, Z1.out, HN⟩
          case measure => simp [intOf]; omega
        · have et : tv b = 0 := by unfold tv; rw [if_neg h1, if_neg h2]
          have HN : Hid (S ++ ⟨#[48]⟩ = bstr (otL (a.take (k + 1)))) := Lib.hid (by rw [EB.out, ← bstr_app, HS.out, et]; rfl)
          have m1 := byteNe (c := 43) h1 (by omega)
          have m2 := byteNe (c := 45) h2 (by omega)
          obtain ⟨x, ex⟩ : ∃ x : Int, (b.toNat : Int) = x := ⟨_, rfl⟩
          rw [ex] at hA m1 m2
          have m1 : (x == 43) = false := m1
          have m2 : (x == 45) = false := m2
          clear h1 h2 ex hz et
          go_wp2
          go_round
          case rel => exact ⟨k + 1, _, by omega, by go_num, rfl, Z3.out, HN⟩
          case measure => simp [intOf]; omega
    · have hke : k = a.length := by omega
      subst hke
      go_wp2
      go_ret
      exact ⟨ret_str (by rw [HS.out, List.take_length]), rfl⟩

set_option maxHeartbeats 4000000 in
set_option maxRecDepth 20000 in
theorem other_any (a : List UInt8) (w : World) (hl : a.length ≤ 1048576) :
    Calls Try.prog 73 #[.string (bstr a)] w fun e w' => e = .returned (.string (bstr (otL a))) ∧ w = w' := by
  have hsz := bstr_size a
  have BA := Lib.hid (fun k (hk : k < a.length) wx => byte_at a k hk 58 Try.underlying58 wx)
  obtain ⟨s, es⟩ : ∃ s, bstr a = s := ⟨_, rfl⟩
  rw [es] at BA hsz ⊢
  clear es
  go_enter Try.func73, Try.ntmps73
  go_wp2
  go_loop [3, 7] (fun o i => ∃ (k : Nat) (S : ByteArray), k ≤ a.length ∧ i = .int .i64 k ∧ o = .string S ∧ S.size = k ∧ Hid (S = bstr (otL (a.take k)))) (fun _ i => a.length - (intOf i).toNat)
  case atStart => exact ⟨0, ⟨#[]⟩, Nat.zero_le _, rfl, rfl, rfl, Lib.hid rfl⟩
  case round =>
    obtain ⟨k, S, hk, rfl, rfl, hz, HS⟩ := hrel
    by_cases hlt : k < a.length
    · have hA := BA.out k hlt
      obtain ⟨b, eb⟩ : ∃ b, a.getD k 0 = b := ⟨_, rfl⟩
      have EB := otL_take hlt eb
      rw [eb] at hA
      have TB := fun w => Lib.hid (timesOf_any b w)
      have SB := fun w => Lib.hid (signOf_any (-(tv b)) w)
      have hb := tv_bd b
      obtain ⟨d, ed⟩ : ∃ d, tv b = d := ⟨_, rfl⟩
      rw [ed] at TB SB EB hb
      obtain ⟨D, eD⟩ : ∃ D, bstr [sc (-d)] = D := ⟨_, rfl⟩
      rw [eD] at SB
      have hDz : D.size = 1 := by rw [← eD]; rfl
      obtain ⟨hb0, hb1⟩ := hb
      have hw : IntKind.i64.wrap (-d) = -d := IntWalk.i64_in _ (by omega)
      have HN : Hid (S ++ D = bstr (otL (a.take (k + 1)))) := Lib.hid (by rw [EB, ← bstr_app, HS.out, eD])
      have HZ : Hid ((S ++ D).size = k + 1) := Lib.hid (by rw [ByteArray.size_append, hz, hDz])
      have z1 : ¬ S.size + D.size > 9223372036854775807 := by rw [hz, hDz]; omega
      obtain ⟨x, ex⟩ : ∃ x : Int, (b.toNat : Int) = x := ⟨_, rfl⟩
      rw [ex] at hA TB
      clear eb ed eD ex EB hz hDz
      go_wp2_with (first
        | (go_at_call 71; refine (TB _).out.mono ?_; rintro e w' ⟨rfl, rfl⟩)
        | (go_at_call 62; refine (SB _).out.mono ?_; rintro e w' ⟨rfl, rfl⟩))
      go_round
      case rel => exact ⟨k + 1, _, by omega, by go_num, rfl, HZ.out, HN⟩
      case measure => simp [intOf]; omega
    · have hke : k = a.length := by omega
      subst hke
      go_wp2
      go_ret
      exact ⟨ret_str (by rw [HS.out, List.take_length]), rfl⟩

end Go.Proofs.Ytcgifmoddojnmaa
