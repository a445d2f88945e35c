/-
  The law on CutsForMost, walked: whatever number comes in, it returns true and writes nothing that was there. No condition.
-/
import Derived.Test.YtnbbfpanidmpgaaSlr
import Derived.Test.YtnbbfpanidmpgaaCnum
namespace Go.Proofs.Ytnbbfpanidmpgaa
open Go.RowKit

/-- Where the part in front of cut k begins, and the first k cuts. -/
def cfAt (c : Int) : Nat → Int
  | 0 => 0
  | k + 1 => cfAt c k + (c + 1) * 2 ^ k + 1
def cfL (c : Int) : Nat → List Int
  | 0 => []
  | k + 1 => cfL c k ++ [cfAt c k + (c + 1) * 2 ^ k]
theorem cfL_len (c : Int) (k : Nat) : (cfL c k).length = k := by
  induction k with
  | zero => rfl
  | succ k ih => simp [cfL, ih]
def cfB (a : Int) : Bool := inB a 0 6
def cfR (a : Int) : List Int := if cfB a = true then cfL a a.toNat else []
theorem cf_no {a : Int} (h : inB a 0 6 = false) : cfB a = false ∧ cfR a = [] := by
  have : cfB a = false := h
  exact ⟨this, by simp [cfR, this]⟩
theorem cf_yes {a : Int} (h : inB a 0 6 = true) : cfB a = true ∧ cfR a = cfL a a.toNat := by
  have : cfB a = true := h
  exact ⟨this, by simp [cfR, this]⟩
theorem cfR_len (a : Int) : (cfR a).length ≤ 1099511627776 := by
  by_cases h : inB a 0 6 = true
  · have := inB_iff.1 h
    rw [(cf_yes h).2, cfL_len]; omega
  · rw [(cf_no (by simpa using h)).2]; simp
/-- Where the cut lies, with all its bounds, and what the shift comes to. -/
theorem cf_facts {c k : Nat} (hc : c ≤ 6) (hk : k < c) : 0 ≤ cfAt c k ∧ cfAt c k ≤ 1000 ∧ 0 ≤ ((c : Int) + 1) * 2 ^ k ∧ ((c : Int) + 1) * 2 ^ k ≤ 1000 := by
  rcases (by omega : c = 1 ∨ c = 2 ∨ c = 3 ∨ c = 4 ∨ c = 5 ∨ c = 6) with rfl | rfl | rfl | rfl | rfl | rfl <;>
  rcases (by omega : k = 0 ∨ k = 1 ∨ k = 2 ∨ k = 3 ∨ k = 4 ∨ k = 5) with rfl | rfl | rfl | rfl | rfl | rfl <;> first | omega | decide

set_option maxHeartbeats 4000000 in
set_option maxRecDepth 20000 in
theorem implCutsForMost_any (a : Int) (w : World) : Calls Try.prog 39 #[.int .i64 a] w fun e w' => ∃ u, e = .returned (.tuple #[u, .bool (cfB a)]) ∧ Ow w' w.heap.size u (cfR a) ∧ Below w.heap.size w w' := by
  by_cases hin : inB a 0 6 = true
  · have hab := inB_iff.1 hin
    have HR := Lib.hid (cf_yes hin)
    obtain ⟨c, rfl⟩ : ∃ c : Nat, a = c := ⟨a.toNat, by omega⟩
    have hc : c ≤ 6 := by omega
    clear hin hab
    go_enter Try.func39, Try.ntmps39
    go_wp2
    go_loopw [4, 5, 16] (fun v f i wr => ∃ k : Nat, k ≤ c ∧ f = .int .i64 (cfAt c k) ∧ i = .int .i64 k ∧ Ow wr w.heap.size v (cfL c k) ∧ Below w.heap.size w wr) (fun _ _ i _ => c - (intOf i).toNat)
    case atStart => exact ⟨0, Nat.zero_le _, rfl, rfl, ow_empty w, (Below.refl _ w).alloc (Nat.le_refl _) _⟩
    case round =>
      obtain ⟨k, hk, rfl, rfl, ho, hb⟩ := hrel
      have hz := hb.size
      by_cases hlt : k < c
      · have F := cf_facts hc hlt
        have S := Lib.hid (show cfL c (k + 1) = cfL c k ++ [cfAt c k + ((c : Int) + 1) * 2 ^ k] from rfl)
        have T := Lib.hid (show cfAt c (k + 1) = cfAt c k + ((c : Int) + 1) * 2 ^ k + 1 from rfl)
        have hsl := cfL_len c k
        obtain ⟨A, eA⟩ : ∃ A, cfAt c k = A := ⟨_, rfl⟩
        obtain ⟨L, eL⟩ : ∃ L, cfL c k = L := ⟨_, rfl⟩
        rw [eA, eL] at S
        rw [eA] at T F ⊢
        rw [eL] at ho hsl
        clear eA eL
        rcases (by omega : k = 0 ∨ k = 1 ∨ k = 2 ∨ k = 3 ∨ k = 4 ∨ k = 5) with rfl | rfl | rfl | rfl | rfl | rfl
        all_goals
          simp only [Int.reducePow, Int.mul_one] at F S T
          go_wp2_with (at_builtin; refine wpList_append_src rfl _ _ rfl w.heap.size _ L rfl (ho.alloc _) _ [_] rfl (src_one _ _) (by simp only [List.length_cons, List.length_nil]; omega) (by simp; omega) ?_; intro v' w3 h3 g3)
          have b3 := (hb.alloc hz _).trans ((ho.alloc _).grown (by simp; omega) g3)
          clear ho g3 hb
          go_roundw
          case rel => exact ⟨_, hlt, by rw [T.out], by go_num, by rw [S.out]; exact h3, b3⟩
          case measure => simp only [intOf]; omega
      · have hkT : k = c := by omega
        subst hkT
        go_wp2
        go_ret2
        exact ⟨_, ret_lb rfl HR.out.1.symm, by rw [HR.out.2]; exact ho, hb⟩
  · have hin : inB a 0 6 = false := by simpa using hin
    have HR := Lib.hid (cf_no hin)
    have hx : a < 0 ∨ 6 < a := by
      rcases Int.lt_or_le a 0 with h | h
      · exact .inl h
      · refine .inr (Int.not_le.1 fun h2 => ?_)
        rw [inB_iff.2 ⟨h, h2⟩] at hin
        exact Bool.noConfusion hin
    clear hin
    rcases hx with hx | hx
    all_goals
      go_enter Try.func39, Try.ntmps39
      go_wp2
      go_ret2
      exact ⟨_, ret_lb rfl HR.out.1.symm, by rw [HR.out.2]; exact ow_nil _ _, Below.refl _ _⟩

set_option maxHeartbeats 4000000 in
set_option maxRecDepth 20000 in
theorem specCutsForMost_any (a : Int) (w : World) : Calls Try.prog 38 #[.int .i64 a] w fun e w' => ∃ u, e = .returned (.tuple #[u, .bool (cfB a)]) ∧ Ow w' w.heap.size u (cfR a) ∧ Below w.heap.size w w' := by
  by_cases hin : inB a 0 6 = true
  · have hab := inB_iff.1 hin
    have HR := Lib.hid (cf_yes hin)
    obtain ⟨c, rfl⟩ : ∃ c : Nat, a = c := ⟨a.toNat, by omega⟩
    have hc : c ≤ 6 := by omega
    clear hab
    go_enter Try.func38, Try.ntmps38
    go_wp2_with fail
    refine (l1In_any _ _ _ _).mono ?_
    rw [show inB (c : Int) 0 6 = true from hin]
    rintro e w1 ⟨rfl, rfl⟩
    clear hin
    go_wp2
    go_loopw [4, 5, 6] (fun v f i wr => ∃ k : Nat, k ≤ c ∧ f = .int .i64 (cfAt c k) ∧ i = .int .i64 k ∧ Ow wr w.heap.size v (cfL c k) ∧ Below w.heap.size w wr) (fun _ _ i _ => c - (intOf i).toNat)
    case atStart => exact ⟨0, Nat.zero_le _, rfl, rfl, ow_nil _ _, Below.refl _ _⟩
    case round =>
      obtain ⟨k, hk, rfl, rfl, ho, hb⟩ := hrel
      have hz := hb.size
      by_cases hlt : k < c
      · have F := cf_facts hc hlt
        have S := Lib.hid (show cfL c (k + 1) = cfL c k ++ [cfAt c k + ((c : Int) + 1) * 2 ^ k] from rfl)
        have T := Lib.hid (show cfAt c (k + 1) = cfAt c k + ((c : Int) + 1) * 2 ^ k + 1 from rfl)
        have hsl := cfL_len c k
        obtain ⟨A, eA⟩ : ∃ A, cfAt c k = A := ⟨_, rfl⟩
        obtain ⟨L, eL⟩ : ∃ L, cfL c k = L := ⟨_, rfl⟩
        rw [eA, eL] at S
        rw [eA] at T F ⊢
        rw [eL] at ho hsl
        clear eA eL
        rcases (by omega : k = 0 ∨ k = 1 ∨ k = 2 ∨ k = 3 ∨ k = 4 ∨ k = 5) with rfl | rfl | rfl | rfl | rfl | rfl
        all_goals
          simp only [Int.reducePow, Int.mul_one] at F S T
          go_wp2_with (at_builtin; refine wpList_append_src rfl _ _ rfl w.heap.size _ L rfl (ho.alloc _) _ [_] rfl (src_one _ _) (by simp only [List.length_cons, List.length_nil]; omega) (by simp; omega) ?_; intro v' w3 h3 g3)
          have b3 := (hb.alloc hz _).trans ((ho.alloc _).grown (by simp; omega) g3)
          clear ho g3 hb
          go_roundw
          case rel => exact ⟨_, hlt, by rw [T.out], by go_num, by rw [S.out]; exact h3, b3⟩
          case measure => simp only [intOf]; omega
      · have hkT : k = c := by omega
        subst hkT
        go_wp2
        go_ret2
        exact ⟨_, ret_lb rfl HR.out.1.symm, by rw [HR.out.2]; exact ho, hb⟩
  · have hin : inB a 0 6 = false := by simpa using hin
    have HR := Lib.hid (cf_no hin)
    go_enter Try.func38, Try.ntmps38
    go_wp2_with fail
    refine (l1In_any _ _ _ _).mono ?_
    rw [hin]
    rintro e w1 ⟨rfl, rfl⟩
    clear hin
    go_wp2
    go_ret2
    exact ⟨_, ret_lb rfl HR.out.1.symm, by rw [HR.out.2]; exact ow_nil _ _, Below.refl _ _⟩

set_option maxHeartbeats 4000000 in
theorem lawCutsForMost (a1 : Int) (w : World) :
    Calls Try.prog 10 #[.int .i64 a1] w fun e w' => e = .returned (.bool true) ∧ Below w.heap.size w w' := by
  have hyl : (cfR a1).length ≤ 1099511627776 := cfR_len _
  go_enter Try.func10, Try.ntmps10
  go_wp2_with fail
  refine (specCutsForMost_any _ _).mono ?_
  rintro e w2 ⟨v2, rfl, o2, t2⟩
  go_wp2_with fail
  refine (implCutsForMost_any _ _).mono ?_
  rintro e w4 ⟨g4, rfl, o4, b4⟩
  have z2 := t2.size
  have p24 := ap_two o2 o4 (by omega)
  have o4 := o4.mono z2
  have q2 := o2.below b4 (Nat.le_refl _)
  have t4 := nxt t2 b4
  clear b4 t2 o2
  go_wp2_with fail
  refine (eqIntS_yes _ _ _ _ _ o4.sv q2.sv rfl hyl).mono ?_
  rintro e w9 ⟨rfl, b9⟩
  have o4 := o4.below b9 (Nat.le_refl _)
  have q2 := q2.below b9 (Nat.le_refl _)
  have t9 := nxt t4 b9
  have z9 := t9.size
  clear b9 t4
  go_wp2_with fail
  refine (markIntS_any _ (cfR a1) _ 1 _ o4 hyl (by omega) (by omega)).mono ?_
  rintro e w10 ⟨rfl, o10, g10⟩
  have q2 := q2.kept g10 p24
  have t10 := t9.trans (o4.marked (Nat.le_refl _) z9 g10)
  clear o4 g10 t9
  go_wp2_with fail
  refine (heldIntS_any _ (cfR a1).length 1 _ o10.sv hyl (by omega) (by omega)).mono ?_
  rintro e w10' ⟨rfl, rfl⟩
  go_wp2_with fail
  refine (implCutsForMost_any _ _).mono ?_
  rintro e w12 ⟨h12, rfl, o12, b12⟩
  have o10 := o10.below b12 (Nat.le_refl _)
  have q2 := q2.below b12 (Nat.le_refl _)
  have t12 := nxt t10 b12
  clear b12 t10
  go_wp2_with fail
  refine (eqIntS_yes _ _ _ _ _ o12.sv q2.sv rfl hyl).mono ?_
  rintro e w13 ⟨rfl, b13⟩
  have o10 := o10.below b13 (Nat.le_refl _)
  have t13 := nxt t12 b13
  clear b13 t12 o12 q2
  go_wp2_with fail
  refine (heldIntS_any _ (cfR a1).length 1 _ o10.sv hyl (by omega) (by omega)).mono ?_
  rintro e w13' ⟨rfl, rfl⟩
  go_wp2_with fail
  go_ret
  exact ⟨rfl, t13⟩

end Go.Proofs.Ytnbbfpanidmpgaa
