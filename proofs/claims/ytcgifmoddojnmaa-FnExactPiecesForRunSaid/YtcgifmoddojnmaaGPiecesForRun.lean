/-
  The law on PiecesForRun, walked: whatever comes in, it returns true and writes nothing that was there. No condition.
-/
import Derived.Test.YtcgifmoddojnmaaZpr
namespace Go.Proofs.Ytcgifmoddojnmaa
open Go.RowKit

set_option maxHeartbeats 4000000 in
theorem lawPiecesForRun (a1 : Int) (w : World) :
    Calls Try.prog 13 #[.int .i64 a1] w fun e w' => e = .returned (.bool true) ∧ Below w.heap.size w w' := by
  have hyl : (prR a1).length ≤ 1099511627776 := prR_len a1
  go_enter Try.func13, Try.ntmps13
  go_wp2_with fail
  refine (specPiecesForRun_any _ _).mono ?_
  rintro e w2 ⟨v2, rfl, o2, t2⟩
  go_wp2_with fail
  refine (implPiecesForRun_any _ _).mono ?_
  rintro e w4 ⟨g4, rfl, o4, b4⟩
  have p24 := ap_two o2 o4 (Nat.le_refl _)
  have z2 := t2.size
  have q2 := o2.below b4 (Nat.le_refl _)
  have o4 := o4.mono z2
  have t4 := nxt t2 b4
  clear b4 t2 o2
  go_wp2_with fail
  refine (eqIntS_yes _ _ _ _ _ o4.sv q2.sv rfl hyl).mono ?_
  rintro e w9 ⟨rfl, b9⟩
  have o4 := o4.below b9 (Nat.le_refl _)
  have q2 := q2.below b9 (Nat.le_refl _)
  have t9 := nxt t4 b9
  have z9 := t9.size
  clear b9 t4
  go_wp2_with fail
  refine (markIntS_any _ (prR a1) _ 1 _ o4 hyl (by omega) (by omega)).mono ?_
  rintro e w10 ⟨rfl, o10, g10⟩
  have q2 := q2.kept g10 p24
  have t10 := t9.trans (o4.marked (Nat.le_refl _) z9 g10)
  clear o4 g10 t9
  go_wp2_with fail
  refine (heldIntS_any _ (prR a1).length 1 _ o10.sv hyl (by omega) (by omega)).mono ?_
  rintro e w10' ⟨rfl, rfl⟩
  go_wp2_with fail
  refine (implPiecesForRun_any _ _).mono ?_
  rintro e w12 ⟨h12, rfl, o12, b12⟩
  have o10 := o10.below b12 (Nat.le_refl _)
  have q2 := q2.below b12 (Nat.le_refl _)
  have t12 := nxt t10 b12
  clear b12 t10
  go_wp2_with fail
  refine (eqIntS_yes _ _ _ _ _ o12.sv q2.sv rfl hyl).mono ?_
  rintro e w13 ⟨rfl, b13⟩
  have o10 := o10.below b13 (Nat.le_refl _)
  have t13 := nxt t12 b13
  clear b13 t12 o12 q2
  go_wp2_with fail
  refine (heldIntS_any _ (prR a1).length 1 _ o10.sv hyl (by omega) (by omega)).mono ?_
  rintro e w13' ⟨rfl, rfl⟩
  go_wp2_with fail
  go_ret
  exact ⟨rfl, t13⟩

end Go.Proofs.Ytcgifmoddojnmaa
