/-
  Checked cards, plainly: the places of digits and checks, as sets and as lists. No condition; no program is spoken of here.
-/
import Derived.Test.YtgojlabkngnkdaaQbn
namespace Go.Proofs.Ytgojlabkngnkdaa

/-- The place of the digit i: the places that are no powers of two, in order. -/
def plC : Nat → Nat
  | 0 => 3 | 1 => 5 | 2 => 6 | 3 => 7 | 4 => 9 | 5 => 10 | _ => 11
/-- The digit of such a place. -/
def ixC : Nat → Nat
  | 3 => 0 | 5 => 1 | 6 => 2 | 7 => 3 | 9 => 4 | 10 => 5 | _ => 6
def isPw (j : Nat) : Bool := j == 1 || j == 2 || j == 4 || j == 8
/-- How many places there are behind k digits. -/
def lenC : Nat → Nat
  | 0 => 0
  | k + 1 => plC k
theorem lenC_le (k : Nat) : lenC k ≤ 11 := by
  cases k with
  | zero => simp [lenC]
  | succ k => simp only [lenC, plC]; split <;> omega
theorem lenC_facts : ∀ k : Fin 7, ∀ l : Fin 12, lenC k ≤ l.1 → l.1 < plC k → ((isPw (l.1 + 1) = true ↔ l.1 + 1 ≠ plC k) ∧ (l.1 + 1 = plC k → ixC (l.1 + 1) = k)) := by decide
theorem lenC_lt : ∀ k : Fin 7, lenC k < plC k := by decide
/-- What lies at the place i + 1 before there are checks. -/
def preF (n : Nat) (i : Nat) : Int → Bool := if isPw (i + 1) = true then fun _ => false else bnP (ixC (i + 1)) n
def preL (n : Nat) (l : Nat) : List (Int → Bool) := (List.range l).map (preF n)
theorem preL_succ (n : Nat) (l : Nat) : preL n (l + 1) = preL n l ++ [preF n l] := by simp [preL, List.range_succ]
theorem preL_len (n : Nat) (l : Nat) : (preL n l).length = l := by simp [preL]
theorem preL_at (n : Nat) {l i : Nat} (h : i < l) : (preL n l)[i]? = some (preF n i) := by simp [preL, h]
theorem preF_pw {n : Nat} {l : Nat} (h : isPw (l + 1) = true) : preF n l = fun _ => false := if_pos h
theorem preF_digit {n : Nat} {l k : Nat} (h : isPw (l + 1) = false) (hi : ixC (l + 1) = k) : preF n l = bnP k n := by unfold preF; rw [h, hi]; rfl

/-- On how many of the first i cards with the power in their place a number is: an odd number. -/
def xorK (ps : List (Int → Bool)) (j : Nat) : Nat → Int → Bool
  | 0, _ => false
  | i + 1, x => if (i + 1) &&& j = 0 then xorK ps j i x else xorK ps j i x != ((ps.getD i fun _ => false) x)
theorem xorK_skip {ps : List (Int → Bool)} {j i : Nat} (h : (i + 1) &&& j = 0) (x : Int) : xorK ps j (i + 1) x = xorK ps j i x := by simp only [xorK]; rw [if_pos h]
theorem xorK_add {ps : List (Int → Bool)} {j i : Nat} {p : Int → Bool} (h : ¬ (i + 1) &&& j = 0) (hp : ps[i]? = some p) (x : Int) : xorK ps j (i + 1) x = (xorK ps j i x != p x) := by
  simp only [xorK]; rw [if_neg h, List.getD_eq_getElem?_getD, hp]; rfl
theorem xorK_congr {ps qs : List (Int → Bool)} {j : Nat} : ∀ l, (∀ i, i < l → ¬ (i + 1) &&& j = 0 → ps.getD i (fun _ => false) = qs.getD i (fun _ => false)) → ∀ x, xorK ps j l x = xorK qs j l x := by
  intro l
  induction l with
  | zero => intro _ x; rfl
  | succ l ih =>
    intro h x
    simp only [xorK]
    rw [ih (fun i hi => h i (by omega)) x]
    by_cases e : (l + 1) &&& j = 0
    · rw [if_pos e, if_pos e]
    · rw [if_neg e, if_neg e, h l (by omega) e]
/-- The check of the power j. -/
def ckF (n : Nat) (m j : Nat) : Int → Bool := fun x => xorK (preL n (lenC m)) j (lenC m) x
/-- What lies at a place when the checks of the powers before p are there. -/
def stF (n : Nat) (m p i : Nat) : Int → Bool := if (isPw (i + 1) && decide (i + 1 < p)) = true then ckF n m (i + 1) else preF n i
def stL (n : Nat) (m p : Nat) : List (Int → Bool) := (List.range (lenC m)).map (stF n m p)
theorem stL_len (n : Nat) (m p : Nat) : (stL n m p).length = lenC m := by simp [stL]
theorem stL_at (n : Nat) (m p : Nat) {i : Nat} (h : i < lenC m) : (stL n m p)[i]? = some (stF n m p i) := by simp [stL, h]
theorem stL_one (n : Nat) (m : Nat) : stL n m 1 = preL n (lenC m) := by
  unfold stL preL
  refine List.map_congr_left fun i _ => ?_
  have : ¬ i + 1 < 1 := by omega
  simp [stF, this]
theorem pw_and : ∀ i : Fin 11, ∀ p : Fin 4, isPw (i.1 + 1) = true → i.1 + 1 < 2 ^ p.1 → (i.1 + 1) &&& 2 ^ p.1 = 0 := by decide
theorem xor_st (n : Nat) (m : Nat) {p : Nat} (hp : p < 4) (x : Int) : xorK (stL n m (2 ^ p)) (2 ^ p) (lenC m) x = ckF n m (2 ^ p) x := by
  unfold ckF
  refine xorK_congr _ (fun i hi hn => ?_) x
  have hl := lenC_le m
  rw [List.getD_eq_getElem?_getD, List.getD_eq_getElem?_getD, stL_at n m _ hi, preL_at n hi]
  show stF n m (2 ^ p) i = preF n i
  unfold stF
  rw [if_neg]
  intro h
  simp only [Bool.and_eq_true, decide_eq_true_eq] at h
  exact hn (pw_and ⟨i, by omega⟩ ⟨p, hp⟩ h.1 h.2)
theorem pw_next : ∀ i : Fin 11, ∀ p : Fin 4, (isPw (i.1 + 1) && decide (i.1 + 1 < 2 ^ (p.1 + 1))) = ((isPw (i.1 + 1) && decide (i.1 + 1 < 2 ^ p.1)) || decide (i.1 + 1 = 2 ^ p.1)) := by decide
theorem st_next (n : Nat) (m : Nat) {p : Nat} (hp : p < 4) : (stL n m (2 ^ p)).set (2 ^ p - 1) (ckF n m (2 ^ p)) = stL n m (2 ^ (p + 1)) := by
  have hm := lenC_le m
  have h0 : 0 < 2 ^ p := Nat.pow_pos (by decide)
  refine List.ext_getElem? fun i => ?_
  by_cases hi : i < lenC m
  · rw [stL_at n m _ hi, List.getElem?_set, stL_at n m _ hi]
    have hn := pw_next ⟨i, by omega⟩ ⟨p, hp⟩
    simp only at hn
    by_cases e : 2 ^ p - 1 = i
    · rw [if_pos e, if_pos (by rw [stL_len]; omega)]
      unfold stF
      have e2 : i + 1 = 2 ^ p := by omega
      rw [hn, if_pos (by simp [e2]), e2]
    · rw [if_neg e]
      unfold stF
      have e2 : ¬ i + 1 = 2 ^ p := by omega
      rw [hn]
      simp only [e2, decide_false, Bool.or_false]
  · rw [List.getElem?_eq_none (by rw [List.length_set, stL_len]; omega), List.getElem?_eq_none (by rw [stL_len]; omega)]
/-- All checked cards. -/
def ckD (n : Nat) : List (Int → Bool) := stL n (flen (n : Int)) 16
def ckL (n : Nat) : List (List Int) := (ckD n).map sL
theorem ckL_len (n : Nat) : (ckL n).length = lenC (flen (n : Int)) := by simp [ckL, ckD, stL_len]
theorem ck_end (n : Nat) (m p : Nat) (h : lenC m < 2 ^ p) : stL n m (2 ^ p) = stL n m 16 := by
  have hl := lenC_le m
  unfold stL
  refine List.map_congr_left fun i hi => ?_
  rw [List.mem_range] at hi
  unfold stF
  have e1 : i + 1 < 2 ^ p := by omega
  have e2 : i + 1 < 16 := by omega
  simp only [e1, e2, decide_true, Bool.and_true]
/-- The check as the digits alone give it. -/
def xorM (n : Nat) (j : Nat) : Nat → Int → Bool
  | 0, _ => false
  | k + 1, x => if plC k &&& j = 0 then xorM n j k x else xorM n j k x != bnP k n x
theorem xor_digits (n : Nat) {m p : Nat} (h1 : 1 ≤ m) (hm : m ≤ 7) (hp : p < 4) (x : Int) : ckF n m (2 ^ p) x = xorM n (2 ^ p) m x := by
  unfold ckF
  obtain rfl | rfl | rfl | rfl | rfl | rfl | rfl : m = 1 ∨ m = 2 ∨ m = 3 ∨ m = 4 ∨ m = 5 ∨ m = 6 ∨ m = 7 := by omega
  all_goals
    obtain rfl | rfl | rfl | rfl : p = 0 ∨ p = 1 ∨ p = 2 ∨ p = 3 := by omega
    all_goals
      simp [lenC, plC, xorK, xorM, preL, preF, List.range_succ, isPw, ixC]
theorem ckF_low (n : Nat) (m j : Nat) {x : Int} (h : ¬ x < (n : Int)) : ckF n m j x = false := by
  unfold ckF
  have key : ∀ l, l ≤ lenC m → xorK (preL n (lenC m)) j l x = false := by
    intro l
    induction l with
    | zero => intro _; rfl
    | succ l ih =>
      intro hl
      have e := ih (by omega)
      simp only [xorK]
      split
      · exact e
      · rw [e, List.getD_eq_getElem?_getD, preL_at n (by omega)]
        simp only [Option.getD_some, preF]
        split
        · rfl
        · simp [bnP, h]
  exact key _ (Nat.le_refl _)
theorem sL_no : sL (fun _ => false) = [] := by
  have : sL (fun _ => false) = sLK (fun _ => false) 128 := sL_low (m := 128) (by omega) fun x h0 h1 => by simp
  rw [this]
  have h : ∀ k, sLK (fun _ => false) k = [] := by
    intro k
    induction k with
    | zero => rfl
    | succ k ih => rw [sLK_no rfl, ih]
  exact h _
def dgL (k : Nat) : List Int := (List.range k).map fun j => ((plC j : Nat) : Int)
theorem dgL_succ (k : Nat) : dgL k ++ [((plC k : Nat) : Int)] = dgL (k + 1) := by simp [dgL, List.range_succ]
theorem dgL_len (k : Nat) : (dgL k).length = k := by simp [dgL]
theorem dgL_at {k j : Nat} (h : j < k) : (dgL k).getD j 0 = ((plC j : Nat) : Int) := by simp [dgL, h]
theorem pw_bits : ∀ q : Fin 12, (bits .and .i64 ((q.val + 1 : Nat) : Int) ((q.val : Nat) : Int) == 0) = isPw (q.val + 1) := by decide +kernel
theorem pl_bits : ∀ k : Fin 7, ∀ p : Fin 4, (bits .and .i64 ((plC k.val : Nat) : Int) ((2 ^ p.val : Nat) : Int) == 0) = decide (plC k.val &&& 2 ^ p.val = 0) := by decide +kernel
theorem ix_bits : ∀ i : Fin 12, ∀ p : Fin 4, (bits .and .i64 ((i.val + 1 : Nat) : Int) ((2 ^ p.val : Nat) : Int) == 0) = decide ((i.val + 1) &&& 2 ^ p.val = 0) := by decide +kernel
theorem plC_facts : ∀ k : Fin 7, 3 ≤ plC k.val ∧ plC k.val ≤ 11 ∧ isPw (plC k.val) = false ∧ ixC (plC k.val) = k.val := by decide
theorem plC_le (k : Nat) : plC k ≤ 11 := by unfold plC; split <;> omega
theorem plC_in : ∀ k : Fin 7, ∀ m : Fin 8, k.val < m.val → plC k.val ≤ lenC m.val := by decide
theorem st_digit (n m p : Nat) {k : Nat} (hk : k < 7) : stF n m p (plC k - 1) = bnP k n := by
  have h := plC_facts ⟨k, hk⟩
  simp only at h
  have e : plC k - 1 + 1 = plC k := by omega
  unfold stF preF
  rw [e, h.2.2.1, h.2.2.2]
  rfl
theorem ck_list (n m p : Nat) (h1 : 1 ≤ m) (hm : m ≤ 7) (hp : p < 4) (hn : n ≤ 128) : sL (ckF n m (2 ^ p)) = sLK (xorM n (2 ^ p) m) n :=
  sL_low hn fun x _ _ => by
    by_cases h : x < (n : Int)
    · rw [xor_digits n h1 hm hp x]; simp [h]
    · rw [ckF_low n m _ h]; simp [h]
theorem xorM_step (n j k : Nat) (x : Int) : xorM n j (k + 1) x = if plC k &&& j = 0 then xorM n j k x else xorM n j k x != bnP k n x := rfl
theorem has_bn {n k : Nat} {x : Int} (h0 : 0 ≤ x) (h1 : x ≤ 127) : decide (x ∈ sL (bnP k n)) = bnP k n x := by
  rw [Bool.eq_iff_iff, decide_eq_true_iff, mem_sL]
  exact ⟨fun h => h.2.2, fun h => ⟨h0, h1, h⟩⟩
def ccN (n : Int) : Int := if inB n 2 128 = true then n else 0
def ccR (n : Int) : List (List Int) := if inB n 2 128 = true then ckL n.toNat else []
theorem flen_pos {n : Int} (h0 : 2 ≤ n) (h1 : n ≤ 128) : 1 ≤ flen n := (flen_iff (by omega) h1 0 (by omega)).1 (by simp; omega)
theorem ckL_eq (n p : Nat) (h : lenC (flen (n : Int)) < 2 ^ p) : (stL n (flen (n : Int)) (2 ^ p)).map sL = ckL n := by
  unfold ckL ckD
  rw [ck_end n _ p h]
end Go.Proofs.Ytgojlabkngnkdaa
