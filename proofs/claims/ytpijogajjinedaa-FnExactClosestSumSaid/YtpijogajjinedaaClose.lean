/-
  The law on ClosestSum, walked: the model and the program answer alike. No condition but a length that fits int.
-/
import Derived.Test.YtpijogajjinedaaCount
namespace Go.Proofs.Ytpijogajjinedaa
open Go.RowKit

def ab (n : Int) : Int := if 0 ≤ n then n else -n
/-- b is at least as near to s as c, and the lesser one of two. -/
def Bet (s b c : Int) : Prop := ab (b - s) < ab (c - s) ∨ (ab (b - s) = ab (c - s) ∧ b ≤ c)
structure Close (xs : List Int) (s b : Int) : Prop where
  nn : 0 ≤ b
  sum : Wy xs b ≠ 0
  best : ∀ c, 0 ≤ c → Wy xs c ≠ 0 → Bet s b c
theorem Close.unique {xs : List Int} {s a b : Int} (h : Close xs s a) (g : Close xs s b) : a = b := by
  have h1 := h.best b g.nn g.sum
  have h2 := g.best a h.nn h.sum
  unfold Bet at h1 h2
  omega
noncomputable def closeR (xs : List Int) (s : Int) : Int := @dite _ (askB xs s = true ∧ ∃ b, Close xs s b) (Classical.propDecidable _) (fun h => h.2.choose) (fun _ => 0)
theorem close_no {xs : List Int} {s : Int} (h : askB xs s = false) : closeR xs s = 0 := by
  unfold closeR; rw [dif_neg]; intro h2; rw [h] at h2; cases h2.1
theorem close_yes {xs : List Int} {s b : Int} (h : askB xs s = true) (hb : Close xs s b) : closeR xs s = b := by
  have hex : askB xs s = true ∧ ∃ b, Close xs s b := ⟨h, b, hb⟩
  unfold closeR
  rw [dif_pos hex]
  exact hex.2.choose_spec.unique hb
theorem Wy_nil : ∀ (l : List Int), (∀ x ∈ l, 1 ≤ x ∧ x ≤ 10000) → Wy l 0 = 1 := by
  intro l
  induction l with
  | nil => intro _; rfl
  | cons a l ih =>
    intro h
    have ha := h a (by simp)
    simp only [Wy]
    rw [ih fun x hx => h x (by simp [hx]), Wy_neg l (0 - a) (fun x hx => h x (by simp [hx])) (by omega)]
    rfl
theorem selTo_mem {P : Nat → Bool} : ∀ n, ∀ x ∈ selTo P n, ∃ j : Nat, x = (j : Int) ∧ j < n ∧ P j = true := by
  intro n
  induction n with
  | zero => simp [selTo]
  | succ n ih =>
    intro x hx
    simp only [selTo, List.mem_append] at hx
    rcases hx with hx | hx
    · obtain ⟨j, h1, h2, h3⟩ := ih x hx
      exact ⟨j, h1, by omega, h3⟩
    · by_cases hp : P n = true
      · rw [if_pos hp] at hx
        exact ⟨n, by simpa using hx, by omega, hp⟩
      · rw [if_neg hp] at hx; simp at hx
theorem selTo_has {P : Nat → Bool} : ∀ (n j : Nat), j < n → P j = true → (j : Int) ∈ selTo P n := by
  intro n
  induction n with
  | zero => intro j h; omega
  | succ n ih =>
    intro j h hp
    simp only [selTo, List.mem_append]
    by_cases e : j = n
    · subst e; right; rw [if_pos hp]; simp
    · left; exact ih j (by omega) hp
theorem selTo_sorted {P : Nat → Bool} : ∀ n, (selTo P n).Pairwise (· < ·) := by
  intro n
  induction n with
  | zero => simp [selTo]
  | succ n ih =>
    simp only [selTo]
    rw [List.pairwise_append]
    refine ⟨ih, by split <;> simp, fun a ha b hb => ?_⟩
    obtain ⟨j, h1, h2, _⟩ := selTo_mem n a ha
    by_cases hp : P n = true
    · rw [if_pos hp] at hb
      simp at hb
      omega
    · rw [if_neg hp] at hb; simp at hb
theorem selTo_lt {P : Nat → Bool} {n i j : Nat} (hij : i < j) (hj : j < (selTo P n).length) : (selTo P n).getD i 0 < (selTo P n).getD j 0 := by
  have h := List.pairwise_iff_getElem.1 (selTo_sorted (P := P) n) i j (by omega) hj hij
  rw [List.getD_eq_getElem?_getD, List.getD_eq_getElem?_getD, List.getElem?_eq_getElem hj, List.getElem?_eq_getElem (show i < _ by omega)]
  exact h

/-- The model's search: the best of the first k sums, and of 0. -/
structure Best (L : List Int) (s b : Int) (k : Nat) : Prop where
  old : ∀ i, i < k → Bet s b (L.getD i 0)
  zero : Bet s b 0
  le : b = 0 ∨ ∃ i, i < k ∧ b = L.getD i 0
theorem Best.no {L : List Int} {s b x : Int} {k : Nat} (h : Best L s b k) (hs : ∀ i, i < k → L.getD i 0 < L.getD k 0) (hx : L.getD k 0 = x) (hx0 : 0 ≤ x) (hc : ¬ ab (x - s) < ab (b - s)) : Best L s b (k + 1) := by
  refine ⟨fun i hi => ?_, h.zero, ?_⟩
  · by_cases e : i = k
    · subst e
      rw [hx]
      have hb : b ≤ x := by
        rcases h.le with h1 | ⟨i, hi, h1⟩
        · omega
        · have := hs i hi; omega
      unfold Bet
      omega
    · exact h.old i (by omega)
  · rcases h.le with h1 | ⟨i, hi, h1⟩
    · exact .inl h1
    · exact .inr ⟨i, by omega, h1⟩
theorem Best.yes {L : List Int} {s b x : Int} {k : Nat} (h : Best L s b k) (hx : L.getD k 0 = x) (hc : ab (x - s) < ab (b - s)) : Best L s x (k + 1) := by
  refine ⟨fun i hi => ?_, ?_, .inr ⟨k, by omega, hx.symm⟩⟩
  · by_cases e : i = k
    · subst e; rw [hx]; right; exact ⟨rfl, Int.le_refl _⟩
    · have := h.old i (by omega)
      unfold Bet at *
      omega
  · have := h.zero
    unfold Bet at *
    omega
theorem Best.close {xs : List Int} {s b : Int} (hg : Good xs) (h : Best (selTo (isS xs) (top xs + 1)) s b (selTo (isS xs) (top xs + 1)).length) : Close xs s b := by
  obtain ⟨htop, _⟩ := hg.top
  have hin : ∀ i, i < (selTo (isS xs) (top xs + 1)).length → ∃ j : Nat, (selTo (isS xs) (top xs + 1)).getD i 0 = (j : Int) ∧ isS xs j = true := fun i hi => by
    have hm : (selTo (isS xs) (top xs + 1)).getD i 0 ∈ selTo (isS xs) (top xs + 1) := by
      rw [List.getD_eq_getElem?_getD, List.getElem?_eq_getElem hi]; exact List.getElem_mem hi
    obtain ⟨j, h1, _, h3⟩ := selTo_mem _ _ hm
    exact ⟨j, h1, h3⟩
  have hb : 0 ≤ b ∧ Wy xs b ≠ 0 := by
    rcases h.le with h1 | ⟨i, hi, h1⟩
    · subst h1; rw [Wy_nil xs hg.mem]; exact ⟨by omega, by omega⟩
    · obtain ⟨j, h2, h3⟩ := hin i hi
      rw [h1, h2]
      exact ⟨by omega, by simpa [isS] using h3⟩
  refine ⟨hb.1, hb.2, fun c hc0 hc => ?_⟩
  have hct : c ≤ sumP xs := by
    by_cases e : c ≤ sumP xs
    · exact e
    · exact absurd (Wy_big xs c hg.mem (by omega)) hc
  have hm : c ∈ selTo (isS xs) (top xs + 1) := by
    have e : ((c.toNat : Nat) : Int) = c := by omega
    have hP : isS xs c.toNat = true := by
      simp only [isS, e]
      simpa using hc
    have hin2 := selTo_has (P := isS xs) (top xs + 1) c.toNat (by omega) hP
    rwa [e] at hin2
  obtain ⟨i, hi, h1⟩ := List.getElem_of_mem hm
  have h2 := h.old i hi
  rwa [List.getD_eq_getElem?_getD, List.getElem?_eq_getElem hi, Option.getD_some, h1] at h2
/-- The program's search: no sum is nearer than a. -/
def Far (xs : List Int) (s a : Int) : Prop := ∀ c, 0 ≤ c → Wy xs c ≠ 0 → a ≤ ab (c - s)
theorem Far.down {xs : List Int} {s a : Int} (h : Far xs s a) (ha : 0 ≤ a) (has : a ≤ s) (hz : Wy xs (s - a) ≠ 0) : Close xs s (s - a) := by
  refine ⟨by omega, hz, fun c hc0 hc => ?_⟩
  have := h c hc0 hc
  unfold Bet ab at *
  omega
theorem Far.up {xs : List Int} {s a : Int} (h : Far xs s a) (ha : 0 ≤ a) (has : a ≤ s) (hd : Wy xs (s - a) = 0) (hz : Wy xs (s + a) ≠ 0) : Close xs s (s + a) := by
  refine ⟨by omega, hz, fun c hc0 hc => ?_⟩
  have h1 := h c hc0 hc
  have h2 : c ≠ s - a := fun e => by rw [e] at hc; exact hc hd
  unfold Bet ab at *
  omega
theorem Far.next {xs : List Int} {s a : Int} (h : Far xs s a) (hd : Wy xs (s - a) = 0) (hu : Wy xs (s + a) = 0) : Far xs s (a + 1) := by
  intro c hc0 hc
  have h1 := h c hc0 hc
  have h2 : c ≠ s - a := fun e => by rw [e] at hc; exact hc hd
  have h3 : c ≠ s + a := fun e => by rw [e] at hc; exact hc hu
  unfold ab at *
  omega
theorem sumB_eq {xs : List Int} {s : Int} (hg : Good xs) (hs : 0 ≤ s) : sumB (top xs + 1) (fun j => Wy xs j) s = !(Wy xs s == 0) := by
  obtain ⟨htop, _⟩ := hg.top
  by_cases hlt : s < (top xs : Int) + 1
  · have e1 : ((s.toNat : Nat) : Int) = s := by omega
    have d : decide (s < ((top xs + 1 : Nat) : Int)) = true := by simp only [decide_eq_true_eq]; omega
    simp only [sumB, e1, d, Bool.true_and]
  · have d : decide (s < ((top xs + 1 : Nat) : Int)) = false := by simp only [decide_eq_false_iff_not]; omega
    rw [Wy_big xs s hg.mem (by omega)]
    simp only [sumB, d, Bool.false_and]
    rfl

theorem most_any (a b : Int) (w : World) : Calls Try.prog 89 #[.int .i64 a, .int .i64 b] w fun e w' => e = .returned (.int .i64 (if b < a then a else b)) ∧ w = w' := by
  by_cases h : b < a
  · go_enter Try.func89, Try.ntmps89
    go_wp2
    go_ret
    exact ⟨ret_int (by first | rfl | rw [if_pos h]), rfl⟩
  · go_enter Try.func89, Try.ntmps89
    go_wp2
    go_ret
    exact ⟨ret_int (by first | rfl | rw [if_neg h]), rfl⟩
theorem abs_any (n : Int) (w : World) (h0 : -1000000 ≤ n) (h1 : n ≤ 1000000) : Calls Try.prog 81 #[.int .i64 n] w fun e w' => e = .returned (.int .i64 (ab n)) ∧ w = w' := by
  go_enter Try.func81, Try.ntmps81
  go_wp2_with fail
  refine (most_any _ _ _).mono ?_
  rintro e w' ⟨rfl, rfl⟩
  have E := Lib.hid (show (if -n < n then n else -n) = ab n by unfold ab; split <;> split <;> omega)
  rw [E.out]
  go_wp2_with fail
  go_ret
  exact ⟨rfl, rfl⟩

set_option maxHeartbeats 4000000 in
theorem specClosestSum_any (v : Value) (xs : List Int) (s : Int) (w : World) (h : Sv w v xs) (hl : xs.length ≤ 1099511627776) :
    Calls Try.prog 53 #[v, .int .i64 s] w fun e w' => e = .returned (.tuple #[.int .i64 (closeR xs s), .bool (askB xs s)]) ∧ Below w.heap.size w w' := by
  by_cases ha : askB xs s = true
  · have hg : goodB xs = true ∧ inB s 0 200000 = true := by simpa [askB] using ha
    have hgood := goodB_iff.1 hg.1
    obtain ⟨hs0, hs1⟩ := inB_iff.1 hg.2
    obtain ⟨htop, htop2⟩ := hgood.top
    have HA := Lib.hid ha
    clear htop hg
    go_enter Try.func53, Try.ntmps53
    go_wp2_with fail
    refine (piAsked_any _ _ _ _ h hl).mono ?_
    rintro e w1 ⟨rfl, b1⟩
    go_wp2_with fail
    refine (piSums_any _ _ _ (h.below b1 (Nat.le_refl _)) hgood).mono ?_
    rintro e w2 ⟨u, rfl, o2, b2⟩
    obtain ⟨L, eL⟩ : ∃ L, L = selTo (isS xs) (top xs + 1) := ⟨_, rfl⟩
    have HL := Lib.hid eL
    have hb := nxt b1 b2
    have hln := selTo_len (isS xs) (top xs + 1)
    have hmem : ∀ i, i < L.length → 0 ≤ L.getD i 0 ∧ L.getD i 0 ≤ 200000 := fun i hi => by
      have hm : L.getD i 0 ∈ selTo (isS xs) (top xs + 1) := by
        rw [← eL, List.getD_eq_getElem?_getD, List.getElem?_eq_getElem hi]; exact List.getElem_mem hi
      obtain ⟨j, h1, h2, _⟩ := selTo_mem _ _ hm
      omega
    rw [← eL] at o2 hln
    obtain ⟨p, cap, rfl, hx⟩ := o2.sv
    have HM := Lib.hid hmem
    have HX := Lib.hid hx
    clear ha o2 b1 b2 hmem hx eL
    go_wp2
    go_loop [6, 16] (fun r i => ∃ (k : Nat) (b : Int), k ≤ L.length ∧ i = .int .i64 k ∧ r = .int .i64 b ∧ (0 ≤ b ∧ b ≤ 200000) ∧ Best L s b k) (fun _ i => L.length - (intOf i).toNat)
    case atStart => exact ⟨0, 0, by omega, rfl, rfl, ⟨by omega, by omega⟩, ⟨fun i hi => by omega, .inr ⟨rfl, Int.le_refl _⟩, .inl rfl⟩⟩
    case round =>
      obtain ⟨k, b, hk, rfl, rfl, ⟨hb0, hb1⟩, hB⟩ := hrel
      by_cases hlt : k < L.length
      · obtain ⟨bb, off, rfl, hbl, hc⟩ := HX.out (by omega)
        have hcell := hc k hlt
        have hm := HM.out k hlt
        obtain ⟨x, ex⟩ : ∃ x, L.getD k 0 = x := ⟨_, rfl⟩
        rw [ex] at hcell hm
        obtain ⟨hx0, hx1⟩ := hm
        have EX := Lib.hid ex
        clear ex hc
        by_cases hbet : ab (x - s) < ab (b - s)
        · go_wp2_with fail
          refine (abs_any _ _ (by omega) (by omega)).mono ?_
          rintro e w' ⟨rfl, rfl⟩
          go_wp2_with fail
          refine (abs_any _ _ (by omega) (by omega)).mono ?_
          rintro e w' ⟨rfl, rfl⟩
          go_wp2_with fail
          go_round
          case rel => exact ⟨k + 1, x, by omega, by go_num, rfl, ⟨hx0, hx1⟩, hB.yes EX.out hbet⟩
          case measure => simp only [intOf]; omega
        · go_wp2_with fail
          refine (abs_any _ _ (by omega) (by omega)).mono ?_
          rintro e w' ⟨rfl, rfl⟩
          go_wp2_with fail
          refine (abs_any _ _ (by omega) (by omega)).mono ?_
          rintro e w' ⟨rfl, rfl⟩
          go_wp2_with fail
          go_round
          case rel => exact ⟨k + 1, b, by omega, by go_num, rfl, ⟨hb0, hb1⟩, hB.no (fun i hi => by rw [HL.out]; exact selTo_lt hi (by rw [← HL.out]; exact hlt)) EX.out hx0 (by omega)⟩
          case measure => simp only [intOf]; omega
      · have hkl : k = L.length := by omega
        subst hkl
        rw [HL.out] at hB
        have R := Lib.hid (close_yes HA.out (hB.close hgood))
        go_wp2
        go_ret2
        exact ⟨ret_ib R.out.symm HA.out.symm, hb⟩
  · have ha : askB xs s = false := by simpa using ha
    have R := Lib.hid (close_no ha)
    have HA := Lib.hid ha
    go_enter Try.func53, Try.ntmps53
    go_wp2_with fail
    refine (piAsked_any _ _ _ _ h hl).mono ?_
    rintro e w1 ⟨rfl, b1⟩
    go_wp2_with fail
    go_ret2
    exact ⟨ret_ib R.out.symm HA.out.symm, b1⟩

set_option maxHeartbeats 4000000 in
set_option maxRecDepth 100000 in
theorem implClosestSum_any (v : Value) (xs : List Int) (s : Int) (w : World) (h : Sv w v xs) (hl : xs.length ≤ 1099511627776) :
    Calls Try.prog 54 #[v, .int .i64 s] w fun e w' => e = .returned (.tuple #[.int .i64 (closeR xs s), .bool (askB xs s)]) ∧ Below w.heap.size w w' := by
  by_cases hg : goodB xs = true
  · have hgood := goodB_iff.1 hg
    by_cases hi : inB s 0 200000 = true
    · have HA := Lib.hid (askB_yes hg hi)
      obtain ⟨hs0, hs1⟩ := inB_iff.1 hi
      obtain ⟨htop, htop2⟩ := hgood.top
      have h00 := Wy_nil xs hgood.mem
      have H00 := Lib.hid h00
      clear htop h00
      go_enter Try.func54, Try.ntmps54
      go_wp2_with fail
      refine (arePieces_any _ _ _ h hl).mono ?_
      rintro e w1 ⟨rfl, b1⟩
      go_wp2_with fail
      refine (isAsked_any _ _).mono ?_
      rintro e w1' ⟨rfl, rfl⟩
      go_wp2_with fail
      refine (tableOf_any _ _ _ (h.below b1 (Nat.le_refl _)) hgood).mono ?_
      rintro e w2 ⟨g, rfl, hgs, htb, b2⟩
      have b2 := nxt b1 b2
      clear b1
      go_wp2_with fail
      go_loop [7] (fun r => ∃ a : Int, r = .int .i64 a ∧ (0 ≤ a ∧ a ≤ s) ∧ Far xs s a) (fun r => (s - intOf r).toNat)
      case atStart => exact ⟨0, rfl, ⟨by omega, by omega⟩, fun c _ _ => by unfold ab; split <;> omega⟩
      case round =>
        obtain ⟨a, rfl, ⟨ha0, ha1⟩, hF⟩ := hrel
        have S1 := Lib.hid (sumB_eq hgood (show 0 ≤ s - a by omega))
        have S2 := Lib.hid (sumB_eq hgood (show 0 ≤ s + a by omega))
        go_wp2_with fail
        refine (isSum_any g _ _ _ _ (s - a) _ htb (whole_of xs) (by omega) (by omega)).mono ?_
        rintro e w2' ⟨rfl, rfl⟩
        rw [S1.out]
        by_cases hd : Wy xs (s - a) = 0
        · have d1 : (Wy xs (s - a) == 0) = true := by simpa using hd
          have HD := Lib.hid hd
          clear hd
          go_wp2_with fail
          refine (isSum_any g _ _ _ _ (s + a) _ htb (whole_of xs) (by omega) (by omega)).mono ?_
          rintro e w2' ⟨rfl, rfl⟩
          rw [S2.out]
          by_cases hu : Wy xs (s + a) = 0
          · have d2 : (Wy xs (s + a) == 0) = true := by simpa using hu
            have hn := hF.next HD.out hu
            have hlt : a < s := by
              by_cases e : a = s
              · have := HD.out
                rw [e, Int.sub_self, H00.out] at this
                omega
              · omega
            clear hu
            go_wp2_with fail
            go_round
            case rel => exact ⟨a + 1, rfl, ⟨by omega, by omega⟩, hn⟩
            case measure => simp only [intOf]; omega
          · have d2 : (Wy xs (s + a) == 0) = false := by simpa using hu
            have R := Lib.hid (close_yes HA.out (hF.up ha0 ha1 HD.out hu))
            clear hu
            go_wp2_with fail
            go_ret2
            exact ⟨ret_ib R.out.symm HA.out.symm, b2⟩
        · have d1 : (Wy xs (s - a) == 0) = false := by simpa using hd
          have R := Lib.hid (close_yes HA.out (hF.down ha0 ha1 hd))
          clear hd
          go_wp2_with fail
          go_ret2
          exact ⟨ret_ib R.out.symm HA.out.symm, b2⟩
    · have hi : inB s 0 200000 = false := by simpa using hi
      have ha := askB_out (xs := xs) hi
      have R := Lib.hid (close_no ha)
      have HA := Lib.hid ha
      clear ha
      go_enter Try.func54, Try.ntmps54
      go_wp2_with fail
      refine (arePieces_any _ _ _ h hl).mono ?_
      rintro e w1 ⟨rfl, b1⟩
      go_wp2_with fail
      refine (isAsked_any _ _).mono ?_
      rintro e w1' ⟨rfl, rfl⟩
      go_wp2_with fail
      go_ret2
      exact ⟨ret_ib R.out.symm HA.out.symm, b1⟩
  · have hg : goodB xs = false := by simpa using hg
    have ha := askB_no (s := s) hg
    have R := Lib.hid (close_no ha)
    have HA := Lib.hid ha
    clear ha
    go_enter Try.func54, Try.ntmps54
    go_wp2_with fail
    refine (arePieces_any _ _ _ h hl).mono ?_
    rintro e w1 ⟨rfl, b1⟩
    go_wp2_with fail
    go_ret2
    exact ⟨ret_ib R.out.symm HA.out.symm, b1⟩

set_option maxHeartbeats 2000000 in
theorem lawClosestSum (v : Value) (xs : List Int) (a1 : Int) (w : World) (h : Sv w v xs) (hm : xs.length ≤ 9223372036854775807) :
    Calls Try.prog 18 #[v, .int .i64 a1] w fun e w' => e = .returned (.bool true) ∧ Below w.heap.size w w' := by
  have hs := h
  obtain ⟨p, cap, rfl, hx⟩ := h
  clear hx
  by_cases hbig : 1048576 < xs.length
  · go_enter Try.func18, Try.ntmps18
    go_wp2
    go_ret
    exact ⟨rfl, Below.refl _ _⟩
  · have hl : xs.length ≤ 1099511627776 := by omega
    go_enter Try.func18, Try.ntmps18
    go_wp2_with fail
    refine (toIntS_any _ _ _ hs hl).mono ?_
    rintro e w1 ⟨u1, rfl, o1, oa1, b1⟩
    go_wp2_with fail
    refine (specClosestSum_any _ _ _ _ (o1.sp oa1).sv hl).mono ?_
    rintro e w2 ⟨rfl, b2⟩
    clear o1 oa1
    have b2 := nxt b1 b2
    clear b1
    go_wp2_with fail
    refine (toIntS_any _ _ _ (hs.below b2 (Nat.le_refl _)) hl).mono ?_
    rintro e w3 ⟨u3, rfl, o3, oa3, b3⟩
    have b3 := nxt b2 b3
    clear b2
    go_wp2_with fail
    refine (implClosestSum_any _ _ _ _ (o3.sp oa3).sv hl).mono ?_
    rintro e w4 ⟨rfl, b4⟩
    have o4 := o3.below b4 (Nat.le_refl _)
    have b4 := nxt b3 b4
    clear o3 b3 oa3
    go_wp2_with fail
    refine (toIntS_any _ _ _ (hs.below b4 (Nat.le_refl _)) hl).mono ?_
    rintro e w5 ⟨u5, rfl, o5, -, b5⟩
    have o6 := o4.below b5 (Nat.le_refl _)
    have b5 := nxt b4 b5
    go_wp2_with fail
    refine (eqIntS_yes _ _ _ _ _ o6.sv o5.sv rfl hl).mono ?_
    rintro e w6 ⟨rfl, b6⟩
    have b6 := nxt b5 b6
    clear o4 o5 o6 b4 b5
    go_wp2_with fail
    go_ret
    exact ⟨rfl, b6⟩

end Go.Proofs.Ytpijogajjinedaa
