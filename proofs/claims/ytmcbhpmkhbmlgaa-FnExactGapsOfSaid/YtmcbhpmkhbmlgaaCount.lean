/-
  The laws on CountSums and GapsOf, walked: the model and the program answer alike. No condition but a length that fits int.
-/
import Derived.Test.YtmcbhpmkhbmlgaaCan
import Derived.Test.YtmcbhpmkhbmlgaaLawP
namespace Go.Proofs.Ytmcbhpmkhbmlgaa
open Go.RowKit

def selTo (P : Nat → Bool) : Nat → List Int
  | 0 => []
  | k + 1 => selTo P k ++ (if P k = true then [(k : Int)] else [])
theorem selTo_yes {P : Nat → Bool} {k : Nat} (h : P k = true) : selTo P (k + 1) = selTo P k ++ [(k : Int)] := by rw [selTo, if_pos h]
theorem selTo_no {P : Nat → Bool} {k : Nat} (h : P k = false) : selTo P (k + 1) = selTo P k := by rw [selTo, if_neg (by simp [h]), List.append_nil]
theorem selTo_len (P : Nat → Bool) : ∀ k, (selTo P k).length ≤ k := by
  intro k
  induction k with
  | zero => simp [selTo]
  | succ k ih => simp only [selTo, List.length_append]; split <;> simp <;> omega
theorem selTo_mono (P : Nat → Bool) (k : Nat) : ∀ d, (selTo P k).length ≤ (selTo P (k + d)).length := by
  intro d
  induction d with
  | zero => exact Nat.le_refl _
  | succ d ih =>
    rw [show k + (d + 1) = (k + d) + 1 by omega]
    simp only [selTo, List.length_append]
    omega
def isS (xs : List Int) (j : Nat) : Bool := !(Wy xs j == 0)
def isG (xs : List Int) (j : Nat) : Bool := Wy xs j == 0
theorem isS_no {xs : List Int} {j : Nat} (h : Wy xs j = 0) : isS xs j = false := by simp [isS, h]
theorem isS_yes {xs : List Int} {j : Nat} (h : ¬ Wy xs j = 0) : isS xs j = true := by simpa [isS] using h
theorem isG_no {xs : List Int} {j : Nat} (h : ¬ Wy xs j = 0) : isG xs j = false := by simpa [isG] using h
theorem isG_yes {xs : List Int} {j : Nat} (h : Wy xs j = 0) : isG xs j = true := by simp [isG, h]

set_option maxHeartbeats 4000000 in
theorem piSums_any (v : Value) (xs : List Int) (w : World) (h : Sv w v xs) (hg : Good xs) :
    Calls Try.prog 33 #[v] w fun e w' => ∃ u, e = .returned u ∧ Ow w' w.heap.size u (selTo (isS xs) (top xs + 1)) ∧ Below w.heap.size w w' := by
  obtain ⟨htop, htop2⟩ := hg.top
  have HL := Lib.hid (waysList_len xs)
  have HTOP := Lib.hid htop
  clear htop
  go_enter Try.func33, Try.ntmps33
  go_wp2_with fail
  refine (piWays_any _ _ _ h hg).mono ?_
  rintro e w1 ⟨u, rfl, o1, a1, b1⟩
  obtain ⟨p, cap, rfl, hx⟩ := o1.sv
  rw [HL.out] at hx ⊢
  obtain ⟨T, eT⟩ : ∃ T, T = top xs := ⟨_, rfl⟩
  have HT := Lib.hid eT
  rw [← eT] at hx htop2 ⊢
  obtain ⟨b, off, rfl, hbl, hc⟩ := hx (by omega)
  have HC := Lib.hid hc
  clear hc hx a1 o1 eT
  have z1 := b1.size
  go_wp2
  go_loopw [3, 9] (fun a i wr => ∃ k : Nat, k ≤ T + 1 ∧ i = .int .i64 k ∧ Ow wr w1.heap.size a (selTo (isS xs) k) ∧ Below w1.heap.size w1 wr) (fun _ i _ => T + 1 - (intOf i).toNat)
  case atStart => exact ⟨0, by omega, rfl, World.ownsRow_nil _ _ _ _, Below.refl _ _⟩
  case round =>
    obtain ⟨k, hk, rfl, ho, hb⟩ := hrel
    have hz := hb.size
    by_cases hlt : k < T + 1
    · have hcell := (hb.cell (p := ⟨b, off + k, none⟩) hbl).trans (HC.out k hlt)
      rw [waysList_at xs k (by rw [← HT.out]; exact hlt)] at hcell
      have hsl := selTo_len (isS xs) k
      have hnn := (Wy_bd xs k).1
      by_cases hzero : Wy xs k = 0
      · have S := Lib.hid (selTo_no (isS_no hzero))
        rw [hzero] at hcell
        clear hzero hnn
        go_wp2
        go_roundw
        case rel => exact ⟨k + 1, by omega, by go_num, by rw [S.out]; exact ho, hb⟩
        case measure => simp only [intOf]; omega
      · have S := Lib.hid (selTo_yes (isS_yes hzero))
        obtain ⟨a, ea⟩ : ∃ a, Wy xs k = a := ⟨_, rfl⟩
        rw [ea] at hcell hnn hzero
        have ha : 0 < a := by omega
        clear hzero hnn ea
        go_wp2_with (at_builtin; refine wpList_append_src rfl _ _ rfl w1.heap.size _ (selTo (isS xs) k) rfl (ho.alloc _) _ [(k : Int)] rfl (src_one _ _) (by simp only [List.length_cons, List.length_nil]; omega) (by simp; omega) ?_; intro v' w3 h3 g3)
        have b3 := (hb.alloc hz _).trans ((ho.alloc _).grown (by simp; omega) g3)
        clear ho g3 hcell hb
        go_roundw
        case rel => exact ⟨k + 1, by omega, by go_num, by rw [S.out]; exact h3, b3⟩
        case measure => simp only [intOf]; omega
    · have hkT : k = T + 1 := by omega
      subst hkT
      go_wp2
      go_ret
      exact ⟨_, rfl, by rw [← HT.out]; exact ho.mono z1, nxt b1 hb⟩

noncomputable def countR (xs : List Int) : Int := if goodB xs = true then ((selTo (isS xs) (top xs + 1)).length : Int) else 0
theorem countR_yes {xs : List Int} (h : goodB xs = true) : countR xs = ((selTo (isS xs) (top xs + 1)).length : Int) := by simp [countR, h]
theorem countR_no {xs : List Int} (h : goodB xs = false) : countR xs = 0 := by simp [countR, h]

set_option maxHeartbeats 2000000 in
theorem specCountSums_any (v : Value) (xs : List Int) (w : World) (h : Sv w v xs) (hl : xs.length ≤ 1099511627776) :
    Calls Try.prog 10 #[v] w fun e w' => e = .returned (.tuple #[.int .i64 (countR xs), .bool (goodB xs)]) ∧ Below w.heap.size w w' := by
  by_cases hg : goodB xs = true
  · have hgood := goodB_iff.1 hg
    have R := Lib.hid (countR_yes hg)
    have HG := Lib.hid hg
    go_enter Try.func10, Try.ntmps10
    go_wp2_with fail
    refine (piGood_any _ _ _ h hl).mono ?_
    rintro e w1 ⟨rfl, b1⟩
    go_wp2_with fail
    refine (piSums_any _ _ _ (h.below b1 (Nat.le_refl _)) hgood).mono ?_
    rintro e w2 ⟨u, rfl, o2, b2⟩
    obtain ⟨p, cap, rfl, -⟩ := o2.sv
    have b2 := nxt b1 b2
    clear o2
    go_wp2_with fail
    go_ret2
    exact ⟨ret_ib R.out.symm HG.out.symm, b2⟩
  · have hg : goodB xs = false := by simpa using hg
    have R := Lib.hid (countR_no hg)
    have HG := Lib.hid hg
    go_enter Try.func10, Try.ntmps10
    go_wp2_with fail
    refine (piGood_any _ _ _ h hl).mono ?_
    rintro e w1 ⟨rfl, b1⟩
    go_wp2_with fail
    go_ret2
    exact ⟨ret_ib R.out.symm HG.out.symm, b1⟩

theorem wholeW (xs : List Int) : Whole (fun j => Wy xs j) (fun j => Fw xs j) (fun j => Sg 0 xs j) := fun j h => ⟨Fw_zero xs j h, Sg_zero xs 0 j h⟩

set_option maxHeartbeats 4000000 in
set_option maxRecDepth 100000 in
theorem countMade_any (g n : Nat) (P : Nat → Bool) (A B C : Nat → Int) (w : World) (hT : Tb w g n A B C) (hz : Whole A B C) (hP : ∀ j, P j = !(A j == 0)) (hn : n ≤ 300000) :
    Calls Try.prog 35 #[.slice (some ⟨g, 0, none⟩) n n] w fun e w' => e = .returned (.int .i64 ((selTo P n).length : Int)) ∧ Below w.heap.size w w' := by
  have HP := Lib.hid hP
  have HZ := Lib.hid hz
  clear hP hz
  go_enter Try.func35, Try.ntmps35
  go_wp2
  go_loopw [3, 8] (fun a i wr => ∃ k : Nat, k ≤ n ∧ i = .int .i64 k ∧ a = .int .i64 ((selTo P k).length : Int) ∧ Below w.heap.size w wr) (fun _ i _ => n - (intOf i).toNat)
  case atStart => exact ⟨0, by omega, rfl, rfl, Below.refl _ _⟩
  case round =>
    obtain ⟨k, hk, rfl, rfl, hb⟩ := hrel
    have hz := hb.size
    by_cases hlt : k < n
    · obtain ⟨c1, c2, c3, -, -, -⟩ := (hT.below hb (Nat.le_refl _)).cells hlt
      have hsl := selTo_len P k
      by_cases hzero : A k = 0
      · have S := Lib.hid (selTo_no (P := P) (k := k) (by rw [HP.out, hzero]; rfl))
        rw [(HZ.out k hzero).1] at c2
        rw [(HZ.out k hzero).2] at c3
        rw [hzero] at c1
        clear hzero
        go_wp2
        go_roundw
        case rel => exact ⟨k + 1, by omega, by go_num, by rw [S.out], hb.alloc hz _⟩
        case measure => simp only [intOf]; omega
      · have S := Lib.hid (selTo_yes (P := P) (k := k) (by rw [HP.out]; simpa using hzero))
        obtain ⟨a, ea⟩ : ∃ a, A k = a := ⟨_, rfl⟩
        rw [ea] at c1 hzero
        have d : (a == 0) = false := by simpa using hzero
        clear hzero ea
        go_wp2
        go_roundw
        case rel => exact ⟨k + 1, by omega, by go_num, by rw [S.out, List.length_append]; go_num, hb.alloc hz _⟩
        case measure => simp only [intOf]; omega
    · have hkT : k = n := by omega
      subst hkT
      go_wp2
      go_ret
      exact ⟨rfl, hb⟩

set_option maxHeartbeats 2000000 in
theorem implCountSums_any (v : Value) (xs : List Int) (w : World) (h : Sv w v xs) (hl : xs.length ≤ 1099511627776) :
    Calls Try.prog 12 #[v] w fun e w' => e = .returned (.tuple #[.int .i64 (countR xs), .bool (goodB xs)]) ∧ Below w.heap.size w w' := by
  by_cases hg : goodB xs = true
  · have hgood := goodB_iff.1 hg
    have R := Lib.hid (countR_yes hg)
    have HG := Lib.hid hg
    obtain ⟨htop, htop2⟩ := hgood.top
    go_enter Try.func12, Try.ntmps12
    go_wp2_with fail
    refine (arePieces_any _ _ _ h hl).mono ?_
    rintro e w1 ⟨rfl, b1⟩
    go_wp2_with fail
    refine (tableOf_any _ _ _ (h.below b1 (Nat.le_refl _)) hgood).mono ?_
    rintro e w2 ⟨g, rfl, hgs, htb, b2⟩
    have b2 := nxt b1 b2
    go_wp2_with fail
    refine (countMade_any g (top xs + 1) (isS xs) (fun j => Wy xs j) (fun j => Fw xs j) (fun j => Sg 0 xs j) _ htb (wholeW xs) (fun j => rfl) (by omega)).mono ?_
    rintro e w3 ⟨rfl, b3⟩
    go_wp2_with fail
    go_ret2
    exact ⟨ret_ib R.out.symm HG.out.symm, nxt b2 b3⟩
  · have hg : goodB xs = false := by simpa using hg
    have R := Lib.hid (countR_no hg)
    have HG := Lib.hid hg
    go_enter Try.func12, Try.ntmps12
    go_wp2_with fail
    refine (arePieces_any _ _ _ h hl).mono ?_
    rintro e w1 ⟨rfl, b1⟩
    go_wp2_with fail
    go_ret2
    exact ⟨ret_ib R.out.symm HG.out.symm, b1⟩

set_option maxHeartbeats 2000000 in
theorem lawCountSums (v : Value) (xs : List Int) (w : World) (h : Sv w v xs) (hm : xs.length ≤ 9223372036854775807) :
    Calls Try.prog 3 #[v] w fun e w' => e = .returned (.bool true) ∧ Below w.heap.size w w' := by
  have hs := h
  obtain ⟨p, cap, rfl, hx⟩ := h
  clear hx
  by_cases hbig : 1048576 < xs.length
  · go_enter Try.func3, Try.ntmps3
    go_wp2
    go_ret
    exact ⟨rfl, Below.refl _ _⟩
  · have hl : xs.length ≤ 1099511627776 := by omega
    go_enter Try.func3, Try.ntmps3
    go_wp2_with fail
    refine (toIntS_any _ _ _ hs hl).mono ?_
    rintro e w1 ⟨u1, rfl, o1, oa1, b1⟩
    go_wp2_with fail
    refine (specCountSums_any _ _ _ (o1.sp oa1).sv hl).mono ?_
    rintro e w2 ⟨rfl, b2⟩
    clear o1 oa1
    have b2 := nxt b1 b2
    clear b1
    go_wp2_with fail
    refine (toIntS_any _ _ _ (hs.below b2 (Nat.le_refl _)) hl).mono ?_
    rintro e w3 ⟨u3, rfl, o3, oa3, b3⟩
    have b3 := nxt b2 b3
    clear b2
    go_wp2_with fail
    refine (implCountSums_any _ _ _ (o3.sp oa3).sv hl).mono ?_
    rintro e w4 ⟨rfl, b4⟩
    have o4 := o3.below b4 (Nat.le_refl _)
    have b4 := nxt b3 b4
    clear o3 b3 oa3
    go_wp2_with fail
    refine (toIntS_any _ _ _ (hs.below b4 (Nat.le_refl _)) hl).mono ?_
    rintro e w5 ⟨u5, rfl, o5, -, b5⟩
    have o6 := o4.below b5 (Nat.le_refl _)
    have b5 := nxt b4 b5
    go_wp2_with fail
    refine (eqIntS_yes _ _ _ _ _ o6.sv o5.sv rfl hl).mono ?_
    rintro e w6 ⟨rfl, b6⟩
    have b6 := nxt b5 b6
    clear o4 o5 o6 b4 b5
    go_wp2_with fail
    go_ret
    exact ⟨rfl, b6⟩

end Go.Proofs.Ytmcbhpmkhbmlgaa
