/-
  The sum of the numbers of two texts of balanced digits, in the spec and in the program, by contracts. Conditions: texts of at most 2^20 signs.
-/
import Derived.Test.YtcgifmoddojnmaaZnb
namespace Go.Proofs.Ytcgifmoddojnmaa
open Go.RowKit

noncomputable def adB (a b : List UInt8) : Bool := dgB a && dgB b && inB (nmR a + nmR b) (-1000000) 1000000

set_option maxHeartbeats 1000000 in
set_option maxRecDepth 100000 in
theorem specAddSigns_any (a b : List UInt8) (w : World) (ha : a.length ≤ 1048576) (hb : b.length ≤ 1048576) :
    Calls Try.prog 49 #[.string (bstr a), .string (bstr b)] w fun e w' => e = .returned (.tuple #[.string (bstr (yesL (adB a b) (balT (nmR a + nmR b)))), .bool (adB a b)]) ∧ Below w.heap.size w w' := by
  have NA := fun W => Lib.hid (siNumber_any a W ha)
  have NB := fun W => Lib.hid (siNumber_any b W hb)
  have ba := nmR_bd a
  have bb := nmR_bd b
  have LI := fun W => Lib.hid (l1In_any (nmR a + nmR b) (-1000000) 1000000 W)
  have SB := fun W => Lib.hid (siBalanced_any (nmR a + nmR b) W (by omega) (by omega))
  unfold adB
  obtain ⟨x, ex⟩ : ∃ x, nmR a = x := ⟨_, rfl⟩
  obtain ⟨y, ey⟩ : ∃ y, nmR b = y := ⟨_, rfl⟩
  obtain ⟨da, eda⟩ : ∃ d, dgB a = d := ⟨_, rfl⟩
  obtain ⟨db, edb⟩ : ∃ d, dgB b = d := ⟨_, rfl⟩
  obtain ⟨s, es⟩ : ∃ s, bstr a = s := ⟨_, rfl⟩
  obtain ⟨t, et⟩ : ∃ t, bstr b = t := ⟨_, rfl⟩
  obtain ⟨c, ec⟩ : ∃ c, inB (x + y) (-1000000) 1000000 = c := ⟨_, rfl⟩
  obtain ⟨L, eL⟩ : ∃ L, balT (x + y) = L := ⟨_, rfl⟩
  rw [ex] at NA ba SB LI ⊢
  rw [ey] at NB bb SB LI ⊢
  rw [eda] at NA ⊢
  rw [edb] at NB ⊢
  rw [es] at NA ⊢
  rw [et] at NB ⊢
  rw [ec] at LI ⊢
  rw [eL] at SB ⊢
  obtain ⟨ba0, ba1⟩ := ba
  obtain ⟨bb0, bb1⟩ := bb
  have w1 : IntKind.i64.wrap (x + y) = x + y := IntWalk.i64_in _ (by omega)
  clear ex ey eda edb es et ec eL ha hb
  go_enter Try.func49, Try.ntmps49
  go_wp2_with fail
  refine (NA _).out.mono ?_
  rintro e w' ⟨rfl, rfl⟩
  go_wp2_with fail
  refine (NB _).out.mono ?_
  rintro e w' ⟨rfl, rfl⟩
  cases da
  · go_wp2
    go_ret2
    exact ⟨ret_sb rfl rfl, Below.refl _ _⟩
  cases db
  · go_wp2
    go_ret2
    exact ⟨ret_sb rfl rfl, Below.refl _ _⟩
  cases c
  · go_wp2_with (go_at_call 65; refine (LI _).out.mono ?_; rintro e w' ⟨rfl, rfl⟩)
    go_ret2
    exact ⟨ret_sb rfl rfl, Below.refl _ _⟩
  · go_wp2_with (first
      | (go_at_call 65; refine (LI _).out.mono ?_; rintro e w' ⟨rfl, rfl⟩)
      | (go_at_call 83; refine (SB _).out.mono ?_; rintro e w' ⟨rfl, rfl⟩))
    go_ret2
    exact ⟨ret_sb rfl rfl, Below.refl _ _⟩

set_option maxHeartbeats 1000000 in
set_option maxRecDepth 100000 in
theorem implAddSigns_any (a b : List UInt8) (w : World) (ha : a.length ≤ 1048576) (hb : b.length ≤ 1048576) :
    Calls Try.prog 50 #[.string (bstr a), .string (bstr b)] w fun e w' => e = .returned (.tuple #[.string (bstr (yesL (adB a b) (balT (nmR a + nmR b)))), .bool (adB a b)]) ∧ Below w.heap.size w w' := by
  have NA := fun W => Lib.hid (implNumberOfSigns_any a W ha)
  have NB := fun W => Lib.hid (implNumberOfSigns_any b W hb)
  have ba := nmR_bd a
  have bb := nmR_bd b
  have SB := fun W => Lib.hid (implBalancedOf_any (nmR a + nmR b) W)
  unfold adB
  obtain ⟨x, ex⟩ : ∃ x, nmR a = x := ⟨_, rfl⟩
  obtain ⟨y, ey⟩ : ∃ y, nmR b = y := ⟨_, rfl⟩
  obtain ⟨da, eda⟩ : ∃ d, dgB a = d := ⟨_, rfl⟩
  obtain ⟨db, edb⟩ : ∃ d, dgB b = d := ⟨_, rfl⟩
  obtain ⟨s, es⟩ : ∃ s, bstr a = s := ⟨_, rfl⟩
  obtain ⟨t, et⟩ : ∃ t, bstr b = t := ⟨_, rfl⟩
  obtain ⟨c, ec⟩ : ∃ c, inB (x + y) (-1000000) 1000000 = c := ⟨_, rfl⟩
  obtain ⟨L, eL⟩ : ∃ L, balT (x + y) = L := ⟨_, rfl⟩
  rw [ex] at NA ba SB ⊢
  rw [ey] at NB bb SB ⊢
  rw [eda] at NA ⊢
  rw [edb] at NB ⊢
  rw [es] at NA ⊢
  rw [et] at NB ⊢
  rw [ec] at SB ⊢
  rw [eL] at SB ⊢
  obtain ⟨ba0, ba1⟩ := ba
  obtain ⟨bb0, bb1⟩ := bb
  have w1 : IntKind.i64.wrap (x + y) = x + y := IntWalk.i64_in _ (by omega)
  clear ex ey eda edb es et ec eL ha hb
  go_enter Try.func50, Try.ntmps50
  go_wp2_with fail
  refine (NA _).out.mono ?_
  rintro e w1 ⟨rfl, b1⟩
  go_wp2_with fail
  refine (NB _).out.mono ?_
  rintro e w2 ⟨rfl, b2⟩
  have t2 := Lib.hid (nxt b1 b2)
  clear b1 b2
  cases da
  · go_wp2
    go_ret2
    exact ⟨ret_sb rfl rfl, t2.out⟩
  cases db
  · go_wp2
    go_ret2
    exact ⟨ret_sb rfl rfl, t2.out⟩
  go_wp2_with fail
  refine (SB _).out.mono ?_
  rintro e w3 ⟨rfl, b3⟩
  have t3 := Lib.hid (nxt t2.out b3)
  clear b3
  go_wp2
  go_ret2
  exact ⟨ret_sb rfl rfl, t3.out⟩

end Go.Proofs.Ytcgifmoddojnmaa
