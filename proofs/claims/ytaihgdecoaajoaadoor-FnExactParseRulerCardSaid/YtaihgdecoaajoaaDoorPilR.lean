/-
  The law on ParseRuler, walked: whatever text comes in, it returns true and writes nothing that was there. Condition: the library's variables hold what they held at the start.
-/
import Derived.Test.YtaihgdecoaajoaaDoorPsqR
import Derived.Test.YtaihgdecoaajoaaDoorPipR
namespace Go.Proofs.YtaihgdecoaajoaaDoor.R
open Go.RowKit

set_option maxHeartbeats 4000000 in
set_option maxRecDepth 20000 in
theorem lawParseRuler (s : ByteArray) (w : World) (hs : s.size ≤ 9223372036854775807) (hE : Env w) :
    Calls Tryd.prog 4 #[.string s] w fun e w' => e = .returned (.bool true) ∧ Below w.heap.size w w' := by
  by_cases hl : s.size ≤ 1048576
  · obtain ⟨l, el⟩ : ∃ l, s.data.toList = l := ⟨_, rfl⟩
    have hsz : l.length = s.size := by rw [← el]; exact Array.length_toList
    have e2 : bstr l = s := by rw [← el]; exact bstr_of s
    have hll : l.length ≤ 1048576 := by omega
    have hyl : (parR l).length ≤ 1099511627776 := by have := parR_len l; omega
    have hsp := fun wx => specParse_any l wx hll
    have him := fun wx (hx : Env wx) => implParse_any l wx hll hx
    rw [e2] at hsp him
    have HSP : ∀ wx, Hid _ := fun wx => Lib.hid (hsp wx)
    have HIM : ∀ wx, Env wx → Hid _ := fun wx hx => Lib.hid (him wx hx)
    have HE := Lib.hid hE
    clear el e2 hsp him hE hsz hll
    go_enter Tryd.func4, Tryd.ntmps4
    go_wp2_with fail
    refine ((HSP _).out).mono ?_
    rintro e w2 ⟨v2, rfl, o2, t2⟩
    go_wp2_with fail
    refine ((HIM _ (HE.out.below t2 (Nat.le_refl _))).out).mono ?_
    rintro e w4 ⟨g4, rfl, o4, b4⟩
    have z2 := t2.size
    have p24 := ap_two o2 o4 (by omega)
    have o4 := o4.mono z2
    have q2 := o2.below b4 (Nat.le_refl _)
    have t4 := nxt t2 b4
    clear b4 t2 o2
    go_wp2_with fail
    refine (eqIntS_yes _ _ _ _ _ o4.sv q2.sv rfl hyl).mono ?_
    rintro e w9 ⟨rfl, b9⟩
    have o4 := o4.below b9 (Nat.le_refl _)
    have q2 := q2.below b9 (Nat.le_refl _)
    have t9 := nxt t4 b9
    have z9 := t9.size
    clear b9 t4
    go_wp2_with fail
    refine (markIntS_any _ (parR l) _ 1 _ o4 hyl (by omega) (by omega)).mono ?_
    rintro e w10 ⟨rfl, o10, g10⟩
    have q2 := q2.kept g10 p24
    have t10 := t9.trans (o4.marked (Nat.le_refl _) z9 g10)
    clear o4 g10 t9
    go_wp2_with fail
    refine (heldIntS_any _ (parR l).length 1 _ o10.sv hyl (by omega) (by omega)).mono ?_
    rintro e w10' ⟨rfl, rfl⟩
    go_wp2_with fail
    refine ((HIM _ (HE.out.below t10 (Nat.le_refl _))).out).mono ?_
    rintro e w12 ⟨h12, rfl, o12, b12⟩
    have o10 := o10.below b12 (Nat.le_refl _)
    have q2 := q2.below b12 (Nat.le_refl _)
    have t12 := nxt t10 b12
    clear b12 t10
    go_wp2_with fail
    refine (eqIntS_yes _ _ _ _ _ o12.sv q2.sv rfl hyl).mono ?_
    rintro e w13 ⟨rfl, b13⟩
    have o10 := o10.below b13 (Nat.le_refl _)
    have t13 := nxt t12 b13
    clear b13 t12 o12 q2
    go_wp2_with fail
    refine (heldIntS_any _ (parR l).length 1 _ o10.sv hyl (by omega) (by omega)).mono ?_
    rintro e w13' ⟨rfl, rfl⟩
    go_wp2_with fail
    go_ret
    exact ⟨rfl, t13⟩
  · have hgt : (1048576 : Int) < (s.size : Int) := by omega
    clear hE
    go_enter Tryd.func4, Tryd.ntmps4
    go_wp2
    go_ret
    exact ⟨rfl, Below.refl _ _⟩

end Go.Proofs.YtaihgdecoaajoaaDoor.R
