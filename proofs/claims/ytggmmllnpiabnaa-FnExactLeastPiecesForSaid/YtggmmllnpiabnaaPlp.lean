/-
  LeastPiecesFor in the model and in the program, by their contracts, and the law on it, walked. No condition.
-/
import Derived.Test.YtggmmllnpiabnaaPso
import Derived.Test.YtggmmllnpiabnaaPap
import Derived.Test.YtggmmllnpiabnaaPtor
namespace Go.Proofs.Ytggmmllnpiabnaa
open Go.RowKit Go.Sort

theorem least_any (a b : Int) (w : World) : Calls Try.prog 78 #[.int .i64 a, .int .i64 b] w fun e w' => e = .returned (.int .i64 (min a b)) ∧ w = w' := by
  by_cases h : a < b
  · go_enter Try.func78, Try.ntmps78
    go_wp2
    go_ret
    exact ⟨ret_int (by omega), rfl⟩
  · go_enter Try.func78, Try.ntmps78
    go_wp2
    go_ret
    exact ⟨ret_int (by omega), rfl⟩


/-- What is still to come: n and its doubles, as long as they fit, and what is left. -/
def lpF : Nat → Int → Int → List Int
  | 0, _, _ => []
  | f + 1, n, d => if d ≤ 0 then [] else if n ≤ d then n :: lpF f (n * 2) (d - n) else [d]
def lpRaw (d : Int) : List Int := lpF 60 1 d
noncomputable def lpR (a : Int) : List Int := if inB a 0 60 = true then sortL (lpRaw a) else []
theorem lpF_done : ∀ (f : Nat) (n d : Int), d ≤ 0 → lpF f n d = [] := by
  intro f n d h
  cases f with
  | zero => rfl
  | succ f => simp [lpF, h]
/-- The state: what was taken so far, and what is still to come. -/
structure LpAt (a : Int) (acc : List Int) (f : Nat) (n d : Int) : Prop where
  all : acc ++ lpF f n d = lpRaw a
  fuel : d ≤ f
  pow : ∃ p : Nat, n = p ∧ 2 ^ acc.length ≤ p
  small : 0 < d → n ≤ 120
  n0 : 1 ≤ n
  n1 : n ≤ 1000
  d0 : 0 ≤ d
  d1 : d ≤ 60
  mem : ∀ x ∈ acc, 1 ≤ x ∧ x ≤ 60
  len : acc.length ≤ 7
theorem LpAt.few {a : Int} {acc : List Int} {f : Nat} {n d : Int} (h : LpAt a acc f n d) (hd : 0 < d) : acc.length ≤ 6 := by
  obtain ⟨p, e, hp⟩ := h.pow
  have h1 := h.small hd
  by_cases h2 : acc.length ≤ 6
  · exact h2
  · have h3 : (2 : Nat) ^ 7 ≤ 2 ^ acc.length := Nat.pow_le_pow_right (by omega) (by omega)
    omega
theorem LpAt.zero {a : Int} (h0 : 0 ≤ a) (h1 : a ≤ 60) : LpAt a [] 60 1 a := ⟨rfl, by omega, ⟨1, rfl, by simp⟩, fun _ => by omega, by omega, by omega, h0, h1, by simp, by simp⟩
theorem LpAt.take {a : Int} {acc : List Int} {f : Nat} {n d : Int} (h : LpAt a acc f n d) (hn : n ≤ d) : ∃ g, LpAt a (acc ++ [n]) g (n * 2) (d - n) := by
  have hn0 := h.n0
  have hd : 0 < d := by omega
  have hlen := h.few hd
  obtain ⟨g, rfl⟩ : ∃ g, f = g + 1 := ⟨f - 1, by have := h.fuel; omega⟩
  have h1 := h.d1
  refine ⟨g, ⟨?_, by have := h.fuel; omega, ?_, fun _ => by omega, by omega, by omega, by omega, by omega, ?_, by simp; omega⟩⟩
  · rw [← h.all, lpF, if_neg (by omega), if_pos hn]; simp
  · obtain ⟨p, e, hp⟩ := h.pow
    refine ⟨p * 2, by omega, ?_⟩
    rw [List.length_append, List.length_singleton, Nat.pow_succ]
    omega
  · intro x hx
    rcases List.mem_append.1 hx with hx | hx
    · exact h.mem x hx
    · obtain rfl : x = n := by simpa using hx
      omega
theorem LpAt.last {a : Int} {acc : List Int} {f : Nat} {n d : Int} (h : LpAt a acc f n d) (hn : d < n) (hd : 0 < d) : acc ++ [d] = lpRaw a := by
  obtain ⟨g, rfl⟩ : ∃ g, f = g + 1 := ⟨f - 1, by have := h.fuel; omega⟩
  rw [← h.all, lpF, if_neg (by omega), if_neg (by omega)]
theorem LpAt.rest {a : Int} {acc : List Int} {f : Nat} {n d : Int} (h : LpAt a acc f n d) (hn : d < n) (hd : 0 < d) : ∃ g, LpAt a (acc ++ [d]) g (n * 2) 0 := by
  have hlen := h.few hd
  have h1 := h.small hd
  have h2 := h.d1
  refine ⟨0, ⟨by rw [h.last hn hd]; simp [lpF], by omega, ?_, fun _ => by omega, by have := h.n0; omega, by omega, by omega, by omega, ?_, by simp; omega⟩⟩
  · obtain ⟨p, e, hp⟩ := h.pow
    refine ⟨p * 2, by omega, ?_⟩
    rw [List.length_append, List.length_singleton, Nat.pow_succ]
    omega
  · intro x hx
    rcases List.mem_append.1 hx with hx | hx
    · exact h.mem x hx
    · obtain rfl : x = d := by simpa using hx
      omega
theorem LpAt.done {a : Int} {acc : List Int} {f : Nat} {n d : Int} (h : LpAt a acc f n d) (hd : ¬ 0 < d) : acc = lpRaw a := by
  rw [← h.all, lpF_done f n d (by omega), List.append_nil]
theorem LpAt.good {a : Int} {acc : List Int} {f : Nat} {n d : Int} (h : LpAt a acc f n d) : Good (sortL acc) :=
  good_sortL (by have := h.len; omega) fun x hx => by have := h.mem x hx; omega
theorem lpF_len : ∀ (f : Nat) (n d : Int), (lpF f n d).length ≤ f := by
  intro f
  induction f with
  | zero => intro n d; simp [lpF]
  | succ f ih =>
    intro n d
    simp only [lpF]
    split
    · simp
    · split
      · have := ih (n * 2) (d - n); simp; omega
      · simp
theorem lpR_len (a : Int) : (lpR a).length ≤ 1099511627776 := by
  unfold lpR
  split
  · rw [sortL_len]; have := lpF_len 60 1 a; unfold lpRaw; omega
  · simp
theorem lpR_yes {a : Int} (h : inB a 0 60 = true) : lpR a = sortL (lpRaw a) := by simp [lpR, h]
theorem lpR_no {a : Int} (h : inB a 0 60 = false) : lpR a = [] := by simp [lpR, h]

set_option maxHeartbeats 4000000 in
set_option maxRecDepth 20000 in
theorem specLeastPiecesFor_any (a : Int) (w : World) : Calls Try.prog 49 #[.int .i64 a] w fun e w' => ∃ u, e = .returned (.tuple #[u, .bool (inB a 0 60)]) ∧ Ow w' w.heap.size u (lpR a) ∧ Below w.heap.size w w' := by
  by_cases hin : inB a 0 60 = true
  · have hb := inB_iff.1 hin
    have HR := Lib.hid (lpR_yes hin)
    have HIN := Lib.hid hin
    clear hin
    go_enter Try.func49, Try.ntmps49
    go_wp2_with (go_at_call 61; refine (l1In_any _ _ _ _).mono ?_; rw [HIN.out]; rintro e w' ⟨rfl, rfl⟩)
    go_loopw [0, 4, 5] (fun x o m wr => ∃ (d n : Int) (acc : List Int) (f : Nat), x = .int .i64 d ∧ m = .int .i64 n ∧ 0 ≤ d ∧ d ≤ 60 ∧ 1 ≤ n ∧ n ≤ 1000 ∧ Hid (LpAt a acc f n d) ∧ (acc = [] → o = .slice none 0 0) ∧ Ow wr w.heap.size o (sortL acc) ∧ Below w.heap.size w wr) (fun x _ _ _ => (intOf x).toNat)
    case atStart => exact ⟨a, 1, [], 60, rfl, rfl, hb.1, hb.2, by omega, by omega, Lib.hid (LpAt.zero hb.1 hb.2), fun _ => rfl, by simpa [sortL] using ow_nil w w.heap.size, Below.refl _ _⟩
    case round =>
      obtain ⟨d, n, acc, f, rfl, rfl, d0, d1, n0, n1, HL, h0, ho, hbw⟩ := hrel
      have hsz := hbw.size
      by_cases hd : 0 < d
      · obtain ⟨x, hx, hx1, hx2, hxd, g, HG⟩ : ∃ x : Int, min n d = x ∧ 1 ≤ x ∧ x ≤ 60 ∧ x ≤ d ∧ ∃ g, Hid (LpAt a (acc ++ [x]) g (n * 2) (d - x)) := by
          by_cases hn : n ≤ d
          · obtain ⟨g, hg⟩ := HL.out.take hn
            exact ⟨n, by omega, by omega, by omega, by omega, g, Lib.hid hg⟩
          · obtain ⟨g, hg⟩ := HL.out.rest (by omega) hd
            exact ⟨d, by omega, by omega, by omega, by omega, g, Lib.hid (by rw [Int.sub_self]; exact hg)⟩
        have hn120 := HL.out.small hd
        by_cases hnil : acc = []
        · have e0 := h0 hnil
          subst e0
          subst hnil
          have E1 : Hid (sortL ([] ++ [x]) = [x]) := Lib.hid (by simp [sortL])
          clear h0 ho HL
          go_wp2_with fail
          refine (least_any n d _).mono ?_
          rw [hx]
          rintro e w2 ⟨rfl, rfl⟩
          go_wp2_with fail
          refine (piPut_nil x _).mono ?_
          rintro e w2 ⟨u2, rfl, o2, b2⟩
          have o3 := o2.mono hsz
          have b3 := hbw.trans (b2.mono hsz)
          clear o2 b2 hbw hx
          go_wp2_with fail
          go_roundw
          case rel => exact ⟨d - x, n * 2, [] ++ [x], g, by go_num, by go_num, by omega, by omega, by omega, by omega, HG, fun h => by simp at h, by rw [E1.out]; exact o3, b3⟩
          case measure => simp only [intOf]; omega
        · have hg := HL.out.good
          have hsp : Sp wr _ (sortL acc) := ho.sp_ne (by
            intro e
            have := sortL_len acc
            rw [e] at this
            exact hnil (List.length_eq_zero_iff.1 (by simpa using this.symm)))
          have ST := Lib.hid (putL_sort acc x)
          have HNIL := Lib.hid hnil
          clear h0 ho hnil
          go_wp2_with fail
          refine (least_any n d _).mono ?_
          rw [hx]
          rintro e w2 ⟨rfl, rfl⟩
          go_wp2_with fail
          refine (piPut_any _ _ x _ hsp hg).mono ?_
          rintro e w2 ⟨u2, rfl, o2, b2⟩
          have o3 := o2.mono hsz
          have b3 := hbw.trans (b2.mono hsz)
          clear o2 b2 hbw hsp hx hg
          go_wp2_with fail
          go_roundw
          case rel => exact ⟨d - x, n * 2, acc ++ [x], g, by go_num, by go_num, by omega, by omega, by omega, by omega, HG, fun h => by simp at h, by rw [← ST.out]; exact o3, b3⟩
          case measure => simp only [intOf]; omega
      · have e := HL.out.done hd
        rw [e] at ho
        clear h0
        go_wp2
        go_ret2
        exact ⟨_, ret_lb rfl HIN.out.symm, by rw [HR.out]; exact ho, hbw⟩
  · have hin : inB a 0 60 = false := by simpa using hin
    have HR := Lib.hid (lpR_no hin)
    have HIN := Lib.hid hin
    clear hin
    go_enter Try.func49, Try.ntmps49
    go_wp2_with (go_at_call 61; refine (l1In_any _ _ _ _).mono ?_; rw [HIN.out]; rintro e w' ⟨rfl, rfl⟩)
    go_ret2
    exact ⟨_, ret_lb rfl HIN.out.symm, by rw [HR.out]; exact ow_nil _ _, Below.refl _ _⟩

theorem areDays_any (a : Int) (w : World) : Calls Try.prog 80 #[.int .i64 a] w fun e w' => e = .returned (.bool (inB a 0 60)) ∧ w = w' := by
  by_cases h : 0 ≤ a
  · have h1 : decide (0 ≤ a) = true := by simpa using h
    go_enter Try.func80, Try.ntmps80
    go_wp2
    go_ret
    exact ⟨by simp [inB, h], rfl⟩
  · have h1 : decide (0 ≤ a) = false := by simpa using h
    go_enter Try.func80, Try.ntmps80
    go_wp2
    go_ret
    exact ⟨ret_bool (by simp [inB]; omega), rfl⟩

set_option maxHeartbeats 4000000 in
set_option maxRecDepth 20000 in
theorem implLeastPiecesFor_any (a : Int) (w : World) : Calls Try.prog 50 #[.int .i64 a] w fun e w' => ∃ u, e = .returned (.tuple #[u, .bool (inB a 0 60)]) ∧ Ow w' w.heap.size u (lpR a) ∧ Below w.heap.size w w' := by
  by_cases hin : inB a 0 60 = true
  · have hb := inB_iff.1 hin
    have HR := Lib.hid (lpR_yes hin)
    have HIN := Lib.hid hin
    clear hin
    go_enter Try.func50, Try.ntmps50
    go_wp2_with (go_at_call 80; refine (areDays_any _ _).mono ?_; rw [HIN.out]; rintro e w' ⟨rfl, rfl⟩)
    go_loopw [4, 5, 6] (fun o x m wr => ∃ (d n : Int) (acc : List Int) (f : Nat), x = .int .i64 d ∧ m = .int .i64 n ∧ 0 ≤ d ∧ d ≤ 60 ∧ 1 ≤ n ∧ n ≤ 1000 ∧ acc.length ≤ 7 ∧ Hid (LpAt a acc f n d) ∧ Ow wr w.heap.size o acc ∧ Below w.heap.size w wr) (fun _ x _ _ => (intOf x).toNat)
    case atStart => exact ⟨a, 1, [], 60, rfl, rfl, hb.1, hb.2, by omega, by omega, by simp, Lib.hid (LpAt.zero hb.1 hb.2), ow_empty w, (Below.refl _ _).alloc (Nat.le_refl _) _⟩
    case round =>
      obtain ⟨d, n, acc, f, rfl, rfl, d0, d1, n0, n1, hlen, HL, ho, hbw⟩ := hrel
      have hsz := hbw.size
      by_cases hn : n ≤ d
      · obtain ⟨g, hg⟩ := HL.out.take hn
        have hl2 := hg.len
        have HG := Lib.hid hg
        clear hg
        go_wp2_with (at_builtin; refine wpList_append_src rfl _ _ rfl w.heap.size _ acc rfl (ho.alloc _) _ [n] rfl (src_one _ _) (by simp only [List.length_cons, List.length_nil]; omega) (by simp; omega) ?_; intro v' w3 h3 g3)
        have b3 := (hbw.alloc hsz _).trans ((ho.alloc _).grown (by simp; omega) g3)
        clear ho g3 hbw
        go_roundw
        case rel => exact ⟨d - n, n * 2, acc ++ [n], g, by go_num, by go_num, by omega, by omega, by omega, by omega, hl2, HG, h3, b3⟩
        case measure => simp only [intOf]; omega
      · by_cases hd : 0 < d
        · have E := HL.out.last (by omega) hd
          go_wp2_with (at_builtin; refine wpList_append_src rfl _ _ rfl w.heap.size _ acc rfl (ho.alloc _) _ [d] rfl (src_one _ _) (by simp only [List.length_cons, List.length_nil]; omega) (by simp; omega) ?_; intro v' w3 h3 g3)
          have b3 := (hbw.alloc hsz _).trans ((ho.alloc _).grown (by simp; omega) g3)
          have z3 := b3.size
          clear ho g3 hbw
          go_wp2_with fail
          refine (sort_own _ _ _ _ h3 (by simp) (by simp; omega)).mono ?_
          rw [E]
          rintro e w4 ⟨rfl, o4, g4⟩
          have b4 := b3.trans (h3.grown z3 g4)
          go_wp2_with fail
          go_ret2
          exact ⟨_, ret_lb rfl HIN.out.symm, by rw [HR.out]; exact o4, b4⟩
        · have E := HL.out.done hd
          by_cases hnil : acc = []
          · subst hnil
            obtain ⟨p, c, rfl, -⟩ := ho.sv
            have E2 : Hid (sortL (lpRaw a) = []) := Lib.hid (by rw [← E]; simp [sortL])
            clear E
            go_wp2_with fail
            refine (Try.slices_Sort_int_none p c _).mono ?_
            rintro e w4 ⟨rfl, rfl⟩
            go_wp2_with fail
            go_ret2
            exact ⟨_, ret_lb rfl HIN.out.symm, by rw [HR.out, E2.out]; exact ho, hbw⟩
          · go_wp2_with fail
            refine (sort_own _ _ _ _ ho hnil (by omega)).mono ?_
            rw [E]
            rintro e w4 ⟨rfl, o4, g4⟩
            have b4 := hbw.trans (ho.grown hsz g4)
            go_wp2_with fail
            go_ret2
            exact ⟨_, ret_lb rfl HIN.out.symm, by rw [HR.out]; exact o4, b4⟩
  · have hin : inB a 0 60 = false := by simpa using hin
    have HR := Lib.hid (lpR_no hin)
    have HIN := Lib.hid hin
    clear hin
    go_enter Try.func50, Try.ntmps50
    go_wp2_with (go_at_call 80; refine (areDays_any _ _).mono ?_; rw [HIN.out]; rintro e w' ⟨rfl, rfl⟩)
    go_ret2
    exact ⟨_, ret_lb rfl HIN.out.symm, by rw [HR.out]; exact ow_nil _ _, Below.refl _ _⟩

set_option maxHeartbeats 4000000 in
theorem lawLeastPiecesFor (a1 : Int) (w : World) :
    Calls Try.prog 15 #[.int .i64 a1] w fun e w' => e = .returned (.bool true) ∧ Below w.heap.size w w' := by
  have hyl : (lpR a1).length ≤ 1099511627776 := lpR_len _
  go_enter Try.func15, Try.ntmps15
  go_wp2_with fail
  refine (specLeastPiecesFor_any _ _).mono ?_
  rintro e w2 ⟨v2, rfl, o2, t2⟩
  go_wp2_with fail
  refine (implLeastPiecesFor_any _ _).mono ?_
  rintro e w4 ⟨g4, rfl, o4, b4⟩
  have z2 := t2.size
  have p24 := ap_two o2 o4 (by omega)
  have o4 := o4.mono z2
  have q2 := o2.below b4 (Nat.le_refl _)
  have t4 := nxt t2 b4
  clear b4 t2 o2
  go_wp2_with fail
  refine (eqIntS_yes _ _ _ _ _ o4.sv q2.sv rfl hyl).mono ?_
  rintro e w9 ⟨rfl, b9⟩
  have o4 := o4.below b9 (Nat.le_refl _)
  have q2 := q2.below b9 (Nat.le_refl _)
  have t9 := nxt t4 b9
  have z9 := t9.size
  clear b9 t4
  go_wp2_with fail
  refine (markIntS_any _ (lpR a1) _ 1 _ o4 hyl (by omega) (by omega)).mono ?_
  rintro e w10 ⟨rfl, o10, g10⟩
  have q2 := q2.kept g10 p24
  have t10 := t9.trans (o4.marked (Nat.le_refl _) z9 g10)
  clear o4 g10 t9
  go_wp2_with fail
  refine (heldIntS_any _ (lpR a1).length 1 _ o10.sv hyl (by omega) (by omega)).mono ?_
  rintro e w10' ⟨rfl, rfl⟩
  go_wp2_with fail
  refine (implLeastPiecesFor_any _ _).mono ?_
  rintro e w12 ⟨h12, rfl, o12, b12⟩
  have o10 := o10.below b12 (Nat.le_refl _)
  have q2 := q2.below b12 (Nat.le_refl _)
  have t12 := nxt t10 b12
  clear b12 t10
  go_wp2_with fail
  refine (eqIntS_yes _ _ _ _ _ o12.sv q2.sv rfl hyl).mono ?_
  rintro e w13 ⟨rfl, b13⟩
  have o10 := o10.below b13 (Nat.le_refl _)
  have t13 := nxt t12 b13
  clear b13 t12 o12 q2
  go_wp2_with fail
  refine (heldIntS_any _ (lpR a1).length 1 _ o10.sv hyl (by omega) (by omega)).mono ?_
  rintro e w13' ⟨rfl, rfl⟩
  go_wp2_with fail
  go_ret
  exact ⟨rfl, t13⟩

end Go.Proofs.Ytggmmllnpiabnaa
