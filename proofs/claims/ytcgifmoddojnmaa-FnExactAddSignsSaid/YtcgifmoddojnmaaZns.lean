/-
  The spec's answers on balanced digits, and NegateSigns in the program, by contracts. Conditions: numbers of a size of at most 10^9, texts of at most 2^20 signs.
-/
import Derived.Test.YtcgifmoddojnmaaZbd
namespace Go.Proofs.Ytcgifmoddojnmaa
open Go.RowKit

theorem nmR_bd (a : List UInt8) : -797161 ≤ nmR a ∧ nmR a ≤ 797161 := by
  unfold nmR
  split
  · rename_i h
    have := nf_small a a.length (Nat.le_refl _) (dgB_iff.1 h).1.2
    rwa [List.take_length] at this
  · omega
def yesL (c : Bool) (l : List UInt8) : List UInt8 := if c = true then l else []
theorem yesL_t (l : List UInt8) : yesL true l = l := rfl
theorem yesL_f (l : List UInt8) : yesL false l = [] := rfl

set_option maxHeartbeats 4000000 in
theorem specBalancedOf_any (n : Int) (w : World) :
    Calls Try.prog 45 #[.int .i64 n] w fun e w' => e = .returned (.tuple #[.string (bstr (yesL (inB n (-1000000) 1000000) (balT n))), .bool (inB n (-1000000) 1000000)]) ∧ Below w.heap.size w w' := by
  cases hi : inB n (-1000000) 1000000 with
  | false =>
    rw [yesL_f]
    have LI := fun W => Lib.hid (show Calls Try.prog 65 #[.int .i64 n, .int .i64 (-1000000), .int .i64 1000000] W fun e w' => e = .returned (.bool false) ∧ W = w' from by rw [← hi]; exact l1In_any _ _ _ _)
    clear hi
    go_enter Try.func45, Try.ntmps45
    go_wp2_with (go_at_call 65; refine (LI _).out.mono ?_; rintro e w' ⟨rfl, rfl⟩)
    go_ret2
    exact ⟨ret_sb rfl rfl, Below.refl _ _⟩
  | true =>
    rw [yesL_t]
    have hb := inB_iff.1 hi
    have LI := fun W => Lib.hid (show Calls Try.prog 65 #[.int .i64 n, .int .i64 (-1000000), .int .i64 1000000] W fun e w' => e = .returned (.bool true) ∧ W = w' from by rw [← hi]; exact l1In_any _ _ _ _)
    have SB := fun W => Lib.hid (siBalanced_any n W (by omega) (by omega))
    obtain ⟨s, es⟩ : ∃ s, bstr (balT n) = s := ⟨_, rfl⟩
    rw [es] at SB ⊢
    clear es hi hb
    go_enter Try.func45, Try.ntmps45
    go_wp2_with (first
      | (go_at_call 65; refine (LI _).out.mono ?_; rintro e w' ⟨rfl, rfl⟩)
      | (go_at_call 83; refine (SB _).out.mono ?_; rintro e w' ⟨rfl, rfl⟩))
    go_ret2
    exact ⟨ret_sb rfl rfl, Below.refl _ _⟩

set_option maxHeartbeats 4000000 in
theorem specNumberOfSigns_any (a : List UInt8) (w : World) (hl : a.length ≤ 1048576) :
    Calls Try.prog 47 #[.string (bstr a)] w fun e w' => e = .returned (.tuple #[.int .i64 (nmR a), .bool (dgB a)]) ∧ Below w.heap.size w w' := by
  have SN := fun W => Lib.hid (siNumber_any a W hl)
  obtain ⟨s, es⟩ : ∃ s, bstr a = s := ⟨_, rfl⟩
  rw [es] at SN ⊢
  clear es
  go_enter Try.func47, Try.ntmps47
  go_wp2_with (go_at_call 86; refine (SN _).out.mono ?_; rintro e w' ⟨rfl, rfl⟩)
  go_ret2
  exact ⟨rfl, Below.refl _ _⟩

set_option maxHeartbeats 4000000 in
theorem specNegateSigns_any (a : List UInt8) (w : World) (hl : a.length ≤ 1048576) :
    Calls Try.prog 51 #[.string (bstr a)] w fun e w' => e = .returned (.tuple #[.string (bstr (yesL (dgB a) (otL a))), .bool (dgB a)]) ∧ Below w.heap.size w w' := by
  have SN := fun W => Lib.hid (siNumber_any a W hl)
  have hb := nmR_bd a
  cases hd : dgB a with
  | false =>
    rw [yesL_f]
    rw [hd] at SN
    obtain ⟨s, es⟩ : ∃ s, bstr a = s := ⟨_, rfl⟩
    rw [es] at SN ⊢
    clear es hd hb
    go_enter Try.func51, Try.ntmps51
    go_wp2_with (go_at_call 86; refine (SN _).out.mono ?_; rintro e w' ⟨rfl, rfl⟩)
    go_ret2
    exact ⟨ret_sb rfl rfl, Below.refl _ _⟩
  | true =>
    rw [yesL_t]
    rw [hd] at SN
    have e1 : nmR a = nf 0 a := by simp [nmR, hd]
    have SB := fun W => Lib.hid (siBalanced_any (-(nmR a)) W (by omega) (by omega))
    rw [e1, balT_neg (dgB_iff.1 hd), ← e1] at SB
    obtain ⟨m, em⟩ : ∃ m, nmR a = m := ⟨_, rfl⟩
    obtain ⟨s, es⟩ : ∃ s, bstr a = s := ⟨_, rfl⟩
    obtain ⟨r, er⟩ : ∃ r, bstr (otL a) = r := ⟨_, rfl⟩
    rw [em] at SN SB hb
    rw [es] at SN ⊢
    rw [er] at SB ⊢
    obtain ⟨hb0, hb1⟩ := hb
    have w1 : IntKind.i64.wrap (-m) = -m := IntWalk.i64_in _ (by omega)
    clear es er em e1 hd
    go_enter Try.func51, Try.ntmps51
    go_wp2_with (first
      | (go_at_call 86; refine (SN _).out.mono ?_; rintro e w' ⟨rfl, rfl⟩)
      | (go_at_call 83; refine (SB _).out.mono ?_; rintro e w' ⟨rfl, rfl⟩))
    go_ret2
    exact ⟨ret_sb rfl rfl, Below.refl _ _⟩

set_option maxHeartbeats 4000000 in
theorem implNegateSigns_any (a : List UInt8) (w : World) (hl : a.length ≤ 1048576) :
    Calls Try.prog 52 #[.string (bstr a)] w fun e w' => e = .returned (.tuple #[.string (bstr (yesL (dgB a) (otL a))), .bool (dgB a)]) ∧ Below w.heap.size w w' := by
  have AD := fun W => Lib.hid (areDigits_any a W)
  have OT := fun W => Lib.hid (other_any a W hl)
  obtain ⟨s, es⟩ : ∃ s, bstr a = s := ⟨_, rfl⟩
  rw [es] at AD OT ⊢
  cases hd : dgB a with
  | false =>
    rw [yesL_f]
    rw [hd] at AD
    clear es hd
    go_enter Try.func52, Try.ntmps52
    go_wp2_with (go_at_call 87; refine (AD _).out.mono ?_; rintro e w1 ⟨rfl, b1⟩)
    go_ret2
    exact ⟨ret_sb rfl rfl, b1⟩
  | true =>
    rw [yesL_t]
    rw [hd] at AD
    obtain ⟨r, er⟩ : ∃ r, bstr (otL a) = r := ⟨_, rfl⟩
    rw [er] at OT ⊢
    clear es er hd
    go_enter Try.func52, Try.ntmps52
    go_wp2_with (first
      | (go_at_call 87; refine (AD _).out.mono ?_; rintro e w1 ⟨rfl, b1⟩)
      | (go_at_call 73; refine (OT _).out.mono ?_; rintro e w2 ⟨rfl, rfl⟩))
    go_ret2
    exact ⟨ret_sb rfl rfl, b1⟩

end Go.Proofs.Ytcgifmoddojnmaa
