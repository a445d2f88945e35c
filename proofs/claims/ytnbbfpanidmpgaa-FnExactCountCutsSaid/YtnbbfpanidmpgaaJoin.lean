/-
  The law on FewestToJoin, walked: whatever slice comes in, it returns true and writes nothing that was there. No condition but a length that fits int.
-/
import Derived.Test.YtnbbfpanidmpgaaSort
namespace Go.Proofs.Ytnbbfpanidmpgaa
open Go.RowKit

theorem ret_jb {k : IntKind} {a b : Int} {c d : Bool} (h : a = b) (g : c = d) : Ending.returned (.tuple #[.int k a, .bool c]) = .returned (.tuple #[.int k b, .bool d]) := by rw [h, g]
theorem most_any (a b : Int) (w : World) : Calls Try.prog 83 #[.int .i64 a, .int .i64 b] w fun e w' => e = .returned (.int .i64 (max a b)) ∧ w = w' := by
  by_cases h : b < a
  · go_enter Try.func83, Try.ntmps83
    go_wp2
    go_ret
    exact ⟨ret_int (by omega), rfl⟩
  · go_enter Try.func83, Try.ntmps83
    go_wp2
    go_ret
    exact ⟨ret_int (by omega), rfl⟩

noncomputable def joinB (xs : List Int) : Bool := inB xs.length 1 12 && allB xs 1 100
noncomputable def joinR (xs : List Int) : Int := if joinB xs = true then joinP xs else 0
theorem joinR_yes {xs : List Int} (h : joinB xs = true) : joinR xs = joinP xs := by simp [joinR, h]
theorem joinR_no {xs : List Int} (h : joinB xs = false) : joinR xs = 0 := by simp [joinR, h]
theorem joinB_len {xs : List Int} (h : inB xs.length 1 12 = false) : joinB xs = false := by simp [joinB, h]
theorem joinB_all {xs : List Int} (h : inB xs.length 1 12 = true) : joinB xs = allB xs 1 100 := by simp [joinB, h]
theorem all_mem {xs : List Int} {lo hi : Int} (h : allB xs lo hi = true) : ∀ x ∈ xs, lo ≤ x ∧ x ≤ hi := by
  simp only [allB, decide_eq_true_eq] at h
  intro x hx
  obtain ⟨j, hj, e⟩ := mem_getD hx
  have := inB_iff.1 (h j hj)
  rw [e] at this; exact this
theorem join_mem {xs : List Int} (h : joinB xs = true) : 1 ≤ xs.length ∧ xs.length ≤ 12 ∧ ∀ x ∈ xs, 1 ≤ x ∧ x ≤ 10000 := by
  unfold joinB at h
  simp only [Bool.and_eq_true] at h
  have h1 := inB_iff.1 h.1
  refine ⟨by omega, by omega, fun x hx => ?_⟩
  have := all_mem h.2 x hx
  omega

set_option maxHeartbeats 4000000 in
theorem specFewestToJoin_any (v : Value) (xs : List Int) (w : World) (h : Sv w v xs) (hl : xs.length ≤ 1099511627776) :
    Calls Try.prog 54 #[v] w fun e w' => e = .returned (.tuple #[.int .i64 (joinR xs), .bool (joinB xs)]) ∧ Below w.heap.size w w' := by
  have hs := h
  obtain ⟨p, cap, rfl, hx⟩ := h
  clear hx
  by_cases hlen : inB xs.length 1 12 = true
  · by_cases hall : allB xs 1 100 = true
    · have hg : joinB xs = true := by rw [joinB_all hlen]; exact hall
      have HR := Lib.hid (joinR_yes hg)
      have HG := Lib.hid hg
      obtain ⟨h1, h12, hmem⟩ := join_mem hg
      have hgood := good_sortL (by omega) hmem
      have HS := Lib.hid (sortL_len xs)
      have HM := Lib.hid hmem
      clear hg hmem
      go_enter Try.func54, Try.ntmps54
      go_wp2_with (first | (go_at_call 69; refine (l1In_any _ _ _ _).mono ?_; rintro e w' ⟨rfl, rfl⟩) | (go_at_call 80; refine (l1All_any _ _ _ _ _ hs hl).mono ?_; rintro e w' ⟨rfl, rfl⟩) | (go_at_call 81; refine (chSorted_any _ _ _ hs (by omega) HM.out).mono ?_; rintro e w1 ⟨u1, rfl, o1, b1⟩; obtain ⟨q, cap1, rfl, hx⟩ := o1.sv; rw [HS.out]))
      clear hall hlen
      go_loop [5, 6, 25] (fun b o i => ∃ (k : Nat) (best op : Int), k ≤ xs.length ∧ i = .int .i64 k ∧ b = .int .i64 best ∧ o = .int .i64 op ∧ best = joB (sortL xs) k ∧ op = joO (sortL xs) k) (fun _ _ i => xs.length - (intOf i).toNat)
      case atStart => exact ⟨0, _, 0, Nat.zero_le _, rfl, rfl, rfl, by simp only [joB]; rw [HS.out], rfl⟩
      case round =>
        obtain ⟨k, best, op, hk, rfl, rfl, rfl, hbe, hop⟩ := hrel
        have hob := joO_bd hgood k (by rw [HS.out]; exact hk)
        have hbb := joB_bd (ys := sortL xs) k (by rw [HS.out]; exact hk)
        rw [← hop] at hob
        rw [← hbe, HS.out] at hbb
        have HBE := Lib.hid hbe
        have HOP := Lib.hid hop
        clear hbe hop
        by_cases hlt : k < xs.length
        · obtain ⟨b, off, rfl, hbl, hcl⟩ := hx (by rw [HS.out]; omega)
          have hcell := hcl k (by rw [HS.out]; exact hlt)
          have hxb := hgood.2.1 k (by rw [HS.out]; exact hlt)
          obtain ⟨x, ex⟩ : ∃ x, (sortL xs).getD k 0 = x := ⟨_, rfl⟩
          rw [ex] at hcell hxb
          have EX := Lib.hid ex
          clear ex hcl hx
          go_wp2_with (first | (go_at_call 83; refine (most_any _ _ _).mono ?_; rintro e w' ⟨rfl, rfl⟩) | (go_at_call 82; refine (least_any _ _ _).mono ?_; rintro e w' ⟨rfl, rfl⟩))
          go_round
          case rel => exact ⟨k + 1, _, op + x, by omega, by go_num, rfl, rfl, by simp only [joB, joO]; rw [HBE.out, HOP.out, EX.out, HS.out], by simp only [joO]; rw [HOP.out, EX.out]⟩
          case measure => simp [intOf]; omega
        · have hkl : k = xs.length := by omega
          subst hkl
          clear hx
          go_wp2
          go_ret2
          exact ⟨ret_jb (by rw [HR.out, HBE.out]; rfl) HG.out.symm, b1⟩
    · have hall : allB xs 1 100 = false := by simpa using hall
      have hg : joinB xs = false := by rw [joinB_all hlen]; exact hall
      have HR := Lib.hid (joinR_no hg)
      have HG := Lib.hid hg
      clear hg
      go_enter Try.func54, Try.ntmps54
      go_wp2_with (first | (go_at_call 69; refine (l1In_any _ _ _ _).mono ?_; rintro e w' ⟨rfl, rfl⟩) | (go_at_call 80; refine (l1All_any _ _ _ _ _ hs hl).mono ?_; rintro e w' ⟨rfl, rfl⟩))
      go_ret2
      exact ⟨ret_jb HR.out.symm HG.out.symm, Below.refl _ _⟩
  · have hlen : inB xs.length 1 12 = false := by simpa using hlen
    have hg := joinB_len hlen
    have HR := Lib.hid (joinR_no hg)
    have HG := Lib.hid hg
    clear hg
    go_enter Try.func54, Try.ntmps54
    go_wp2_with (first | (go_at_call 69; refine (l1In_any _ _ _ _).mono ?_; rintro e w' ⟨rfl, rfl⟩))
    go_ret2
    exact ⟨ret_jb HR.out.symm HG.out.symm, Below.refl _ _⟩

set_option maxHeartbeats 4000000 in
theorem areJoined_any (v : Value) (xs : List Int) (w : World) (h : Sv w v xs) (hl : xs.length ≤ 1099511627776) :
    Calls Try.prog 84 #[v] w fun e w' => e = .returned (.bool (joinB xs)) ∧ w = w' := by
  obtain ⟨p, cap, rfl, hx⟩ := h
  by_cases hlen : inB xs.length 1 12 = true
  · have hlb := inB_iff.1 hlen
    have HJ := Lib.hid (joinB_all hlen)
    have d1 : decide ((xs.length : Int) < 1) = false := by rw [decide_eq_false_iff_not]; omega
    have d2 : decide ((12 : Int) < (xs.length : Int)) = false := by rw [decide_eq_false_iff_not]; omega
    clear hlen
    go_enter Try.func84, Try.ntmps84
    go_wp2
    go_loop [15] (fun i => ∃ k : Nat, k ≤ xs.length ∧ i = .int .i64 k ∧ AllTo xs 1 100 k) (fun i => xs.length - (intOf i).toNat)
    case atStart => exact ⟨0, Nat.zero_le _, rfl, fun j hj => by omega⟩
    case round =>
      obtain ⟨k, hk, rfl, ha⟩ := hrel
      by_cases hlt : k < xs.length
      · obtain ⟨b, off, rfl, hbl, hc⟩ := hx (by omega)
        have hcell := hc k hlt
        obtain ⟨x, ex⟩ : ∃ x, xs.getD k 0 = x := ⟨_, rfl⟩
        rw [ex] at hcell
        have EX := Lib.hid ex
        clear hc hx ex
        by_cases h1 : x < 1
        · have e1 : decide (x < 1) = true := by simpa using h1
          go_wp2
          go_ret
          exact ⟨ret_bool (by rw [HJ.out, allB_no hlt (by rw [EX.out]; simp [inB]; omega)]), rfl⟩
        · have e1 : decide (x < 1) = false := by simpa using h1
          by_cases h2 : 100 < x
          · go_wp2
            go_ret
            exact ⟨ret_bool (by rw [HJ.out, allB_no hlt (by rw [EX.out]; simp [inB]; omega)]), rfl⟩
          · go_wp2
            go_round
            case rel => exact ⟨k + 1, by omega, by go_num, ha.succ (by rw [EX.out]; simp [inB]; omega)⟩
            case measure => simp [intOf]; omega
      · clear hx
        have hkl : k = xs.length := by omega
        subst hkl
        go_wp2
        go_ret
        exact ⟨ret_bool (by rw [HJ.out, allB_yes ha]), rfl⟩
  · have hlen : inB xs.length 1 12 = false := by simpa using hlen
    have HG := Lib.hid (joinB_len hlen)
    clear hx
    by_cases h1 : xs.length < 1
    · have d1 : decide ((xs.length : Int) < 1) = true := by rw [decide_eq_true_eq]; omega
      clear hlen
      go_enter Try.func84, Try.ntmps84
      go_wp2
      go_ret
      exact ⟨ret_bool HG.out.symm, rfl⟩
    · have d1 : decide ((xs.length : Int) < 1) = false := by rw [decide_eq_false_iff_not]; omega
      have h2 : 12 < (xs.length : Int) := by simp [inB] at hlen; omega
      clear hlen
      go_enter Try.func84, Try.ntmps84
      go_wp2
      go_ret
      exact ⟨ret_bool HG.out.symm, rfl⟩

theorem clone_any (v : Value) (xs : List Int) (w : World) (h : Sp w v xs) (hl : xs.length ≤ 1048576) :
    Calls Try.prog 85 #[v] w fun e w' => ∃ u, e = .returned u ∧ Ow w' w.heap.size u xs ∧ Below w.heap.size w w' := by
  obtain ⟨b, off, cap, rfl, _, _, hbl, hc⟩ := h
  refine (Try.slices_Clone_int b off xs.length cap xs w (Nat.le_refl _) (by omega) hc).mono ?_
  rintro e w' ⟨u, rfl, ho, _, hb⟩
  exact ⟨u, rfl, by rw [List.take_length] at ho; exact ho, hb⟩

set_option maxHeartbeats 4000000 in
theorem implFewestToJoin_any (v : Value) (xs : List Int) (w : World) (hsp : Sp w v xs) (hl : xs.length ≤ 1099511627776) :
    Calls Try.prog 55 #[v] w fun e w' => e = .returned (.tuple #[.int .i64 (joinR xs), .bool (joinB xs)]) ∧ Below w.heap.size w w' := by
  by_cases hg : joinB xs = true
  · have HR := Lib.hid (joinR_yes hg)
    have HG := Lib.hid hg
    obtain ⟨h1, h12, hmem⟩ := join_mem hg
    have hgood := good_sortL (by omega) hmem
    have HS := Lib.hid (sortL_len xs)
    have HNE := Lib.hid (show xs ≠ [] by intro e; rw [e] at h1; simp at h1)
    clear hmem
    go_enter Try.func55, Try.ntmps55
    go_wp2_with fail
    refine (areJoined_any _ _ _ hsp.sv hl).mono ?_
    rintro e w1 ⟨rfl, rfl⟩
    clear hg
    have HG2 := HG.out
    go_wp2_with fail
    refine (clone_any _ _ _ hsp (by omega)).mono ?_
    rintro e w1 ⟨u1, rfl, o1, b1⟩
    have z1 := b1.size
    clear HG2
    go_wp2_with fail
    refine (sort_own _ _ _ _ o1 HNE.out (by omega)).mono ?_
    rintro e w2 ⟨rfl, o2, g2⟩
    have b2 := b1.trans (o1.grown z1 g2)
    clear b1 o1 g2 hsp
    obtain ⟨q, cap1, rfl, hx⟩ := o2.sv
    rw [HS.out]
    clear o2
    go_wp2_with fail
    go_loop [5, 6, 7, 23] (fun l b o i => ∃ (k : Nat) (best op : Int), k ≤ xs.length ∧ i = .int .i64 k ∧ l = .int .i64 ((xs.length : Int) - k) ∧ b = .int .i64 best ∧ o = .int .i64 op ∧ best = joB (sortL xs) k ∧ op = joO (sortL xs) k) (fun _ _ _ i => xs.length - (intOf i).toNat)
    case atStart => exact ⟨0, _, 0, Nat.zero_le _, rfl, by simp, rfl, rfl, by simp only [joB]; rw [HS.out], rfl⟩
    case round =>
      obtain ⟨k, best, op, hk, rfl, rfl, rfl, rfl, hbe, hop⟩ := hrel
      have hob := joO_bd hgood k (by rw [HS.out]; exact hk)
      have hbb := joB_bd (ys := sortL xs) k (by rw [HS.out]; exact hk)
      rw [← hop] at hob
      rw [← hbe, HS.out] at hbb
      have HBE := Lib.hid hbe
      have HOP := Lib.hid hop
      clear hbe hop
      by_cases hlt : k < xs.length
      · obtain ⟨b, off, rfl, hbl, hcl⟩ := hx (by rw [HS.out]; omega)
        have hcell := hcl k (by rw [HS.out]; exact hlt)
        have hxb := hgood.2.1 k (by rw [HS.out]; exact hlt)
        obtain ⟨x, ex⟩ : ∃ x, (sortL xs).getD k 0 = x := ⟨_, rfl⟩
        rw [ex] at hcell hxb
        have EX := Lib.hid ex
        clear ex hcl hx
        go_wp2
        all_goals
          go_round
          case rel => exact ⟨k + 1, _, op + x, by omega, by go_num, by go_num, rfl, rfl, by simp only [joB, joO]; rw [← HBE.out, ← HOP.out, EX.out, HS.out]; omega, by simp only [joO]; rw [HOP.out, EX.out]⟩
          case measure => simp [intOf]; omega
      · have hkl : k = xs.length := by omega
        subst hkl
        clear hx
        go_wp2
        go_ret2
        exact ⟨ret_jb (by rw [HR.out, HBE.out]; rfl) HG.out.symm, b2⟩
  · have hg : joinB xs = false := by simpa using hg
    have HR := Lib.hid (joinR_no hg)
    have HG := Lib.hid hg
    go_enter Try.func55, Try.ntmps55
    go_wp2_with fail
    refine (areJoined_any _ _ _ hsp.sv hl).mono ?_
    rintro e w1 ⟨rfl, rfl⟩
    go_wp2_with fail
    go_ret2
    exact ⟨ret_jb HR.out.symm HG.out.symm, Below.refl _ _⟩

set_option maxHeartbeats 2000000 in
theorem lawFewestToJoin (v : Value) (xs : List Int) (w : World) (h : Sv w v xs) (hm : xs.length ≤ 9223372036854775807) :
    Calls Try.prog 18 #[v] w fun e w' => e = .returned (.bool true) ∧ Below w.heap.size w w' := by
  have hs := h
  obtain ⟨p, cap, rfl, hx⟩ := h
  clear hx
  by_cases hbig : 1048576 < xs.length
  · go_enter Try.func18, Try.ntmps18
    go_wp2
    go_ret
    exact ⟨rfl, Below.refl _ _⟩
  · have hl : xs.length ≤ 1099511627776 := by omega
    go_enter Try.func18, Try.ntmps18
    go_wp2_with fail
    refine (toIntS_any _ _ _ hs hl).mono ?_
    rintro e w1 ⟨u1, rfl, o1, oa1, b1⟩
    go_wp2_with fail
    refine (specFewestToJoin_any _ _ _ (o1.sp oa1).sv hl).mono ?_
    rintro e w2 ⟨rfl, b2⟩
    clear o1 oa1
    have b2 := nxt b1 b2
    clear b1
    go_wp2_with fail
    refine (toIntS_any _ _ _ (hs.below b2 (Nat.le_refl _)) hl).mono ?_
    rintro e w3 ⟨u3, rfl, o3, oa3, b3⟩
    have b3 := nxt b2 b3
    clear b2
    go_wp2_with fail
    refine (implFewestToJoin_any _ _ _ (o3.sp oa3) hl).mono ?_
    rintro e w4 ⟨rfl, b4⟩
    have o4 := o3.below b4 (Nat.le_refl _)
    have b4 := nxt b3 b4
    clear o3 b3 oa3
    go_wp2_with fail
    refine (toIntS_any _ _ _ (hs.below b4 (Nat.le_refl _)) hl).mono ?_
    rintro e w5 ⟨u5, rfl, o5, -, b5⟩
    have o6 := o4.below b5 (Nat.le_refl _)
    have b5 := nxt b4 b5
    go_wp2_with fail
    refine (eqIntS_yes _ _ _ _ _ o6.sv o5.sv rfl hl).mono ?_
    rintro e w6 ⟨rfl, b6⟩
    have b6 := nxt b5 b6
    clear o4 o5 o6 b4 b5
    go_wp2_with fail
    go_ret
    exact ⟨rfl, b6⟩
end Go.Proofs.Ytnbbfpanidmpgaa
