/-
  How stamps make each value, as the program tells it: the fewest, and with how many, as bits; plainly. No condition; no program is spoken of here.
-/
import Derived.Test.YtmllokooceghiaaSfw
namespace Go.Proofs.Ytmllokooceghiaa

/-- The bits below n at which p holds. -/
noncomputable def bitN (p : Nat → Prop) : Nat → Nat
  | 0 => 0
  | n + 1 => bitN p n ||| (if @decide (p n) (Classical.propDecidable _) = true then 2 ^ n else 0)
theorem bitN_test (p : Nat → Prop) : ∀ n i, (bitN p n).testBit i = (decide (i < n) && @decide (p i) (Classical.propDecidable _)) := by
  intro n
  induction n with
  | zero => intro i; simp [bitN]
  | succ n ih =>
    intro i
    rw [bitN, Nat.testBit_or, ih]
    by_cases e : i = n
    · subst e
      by_cases h : p i
      · simp [h]
      · simp [h]
    · have e2 : ¬ n = i := fun h => e h.symm
      have e3 : decide (i < n + 1) = decide (i < n) := by simp; omega
      rw [e3]
      split
      · rw [Nat.testBit_two_pow_of_ne e2, Bool.or_false]
      · rw [Nat.zero_testBit, Bool.or_false]
theorem bitN_lt (p : Nat → Prop) : bitN p 9 < 512 := by
  have h : bitN p 9 < 2 ^ 9 := Nat.lt_pow_two_of_testBit _ fun i hi => by
    rw [bitN_test]
    have : decide (i < 9) = false := by simp; omega
    rw [this, Bool.false_and]
  exact h
theorem bitN_congr {p q : Nat → Prop} (n : Nat) (h : ∀ i, i < n → (p i ↔ q i)) : bitN p n = bitN q n := by
  apply Nat.eq_of_testBit_eq
  intro i
  rw [bitN_test, bitN_test]
  by_cases hi : i < n
  · have := h i hi
    by_cases hp : p i
    · simp [hp, this.1 hp]
    · have hq : ¬ q i := fun hq => hp (this.2 hq)
      simp [hp, hq]
  · simp [hi]
theorem bitN_none {p : Nat → Prop} (n : Nat) (h : ∀ i, i < n → ¬ p i) : bitN p n = 0 := by
  rw [bitN_congr (q := fun _ => False) n fun i hi => ⟨fun hp => h i hi hp, fun hp => hp.elim⟩]
  induction n with
  | zero => rfl
  | succ n ih => rw [bitN, ih fun i hi => h i (by omega)]; simp
/-- One stamp more. -/
def shN (c : Nat) : Nat := (c * 2) &&& 511
theorem shN_lt (c : Nat) : shN c < 512 := by
  have : shN c ≤ 511 := Nat.and_le_right
  omega
theorem shN_test (c i : Nat) : (shN c).testBit i = (decide (1 ≤ i) && decide (i < 9) && c.testBit (i - 1)) := by
  unfold shN
  have e : (511 : Nat) = 2 ^ 9 - 1 := rfl
  have e2 : c * 2 = c <<< 1 := by rw [Nat.shiftLeft_eq]
  rw [Nat.testBit_and, e, Nat.testBit_two_pow_sub_one, e2, Nat.testBit_shiftLeft]
  cases h1 : decide (i < 9) <;> cases h2 : decide (1 ≤ i) <;> simp_all

/-- What the program tells of a value. -/
def pf (st : List Int) (v : Nat) : Int := if fw st v < stNone then fw st v else 0
noncomputable def pc (st : List Int) (v : Nat) : Nat := bitN (fun k => Mk st k (v : Int)) 9
/-- .. while k kinds are done. -/
def pfK (st : List Int) (v k : Nat) : Int := if fwStep (fw st) v (st.take k) stNone < stNone then fwStep (fw st) v (st.take k) stNone else 0
noncomputable def pcK (st : List Int) (v k : Nat) : Nat := bitN (fun i => ∃ n ∈ st.take k, n ≤ (v : Int) ∧ ∃ j, i = j + 1 ∧ Mk st j ((v : Int) - n)) 9

theorem pc_lt (st : List Int) (v : Nat) : pc st v < 512 := bitN_lt _
theorem pcK_lt (st : List Int) (v k : Nat) : pcK st v k < 512 := bitN_lt _
theorem pf_bd {st : List Int} (h : ∀ n ∈ st, 1 ≤ n) (v : Nat) : 0 ≤ pf st v ∧ pf st v ≤ 1000000 := by
  have := fw_bd h v
  have e : stNone = 1000000 := rfl
  unfold pf
  split <;> omega
theorem pfK_bd {st : List Int} (h : ∀ n ∈ st, 1 ≤ n) (v k : Nat) : 0 ≤ pfK st v k ∧ pfK st v k ≤ 1000000 := by
  have := fwStep_bd h v (st.take k) stNone (by decide) (by decide)
  have e : stNone = 1000000 := rfl
  unfold pfK
  split <;> omega
theorem mk_low {st : List Int} (h : ∀ n ∈ st, 1 ≤ n) (k : Nat) : ∀ {v : Int}, Mk st k v → (k : Int) ≤ v := by
  induction k with
  | zero => intro v hv; simp only [Mk] at hv; omega
  | succ k ih => intro v ⟨n, hn, hk⟩; have := h n hn; have := ih hk; omega
/-- Not made: nothing is told; made: something is. -/
theorem pf_none {st : List Int} (h : ∀ n ∈ st, 1 ≤ n) {v : Nat} (hv : ¬ fw st v < stNone) : pf st v = 0 ∧ pc st v = 0 := by
  refine ⟨by unfold pf; rw [if_neg hv], bitN_none 9 fun k hk hm => ?_⟩
  have := fw_least h k v hm
  have e : stNone = 1000000 := rfl
  omega
theorem pf_some {st : List Int} (h : ∀ n ∈ st, 1 ≤ n) {v : Nat} (hv : fw st v < stNone) : pf st v = fw st v ∧ (pf st v = 0 → ¬ pc st v = 0) := by
  have e : pf st v = fw st v := by unfold pf; rw [if_pos hv]
  refine ⟨e, fun h0 hc => ?_⟩
  have h1 := fw_mk h v hv
  rw [← e, h0] at h1
  have h2 : (pc st v).testBit 0 = true := by
    unfold pc
    rw [bitN_test]
    simpa using h1
  rw [hc, Nat.zero_testBit] at h2
  cases h2
theorem pfK_none {st : List Int} (h : ∀ n ∈ st, 1 ≤ n) {v k : Nat} (hv : ¬ fwStep (fw st) v (st.take k) stNone < stNone) : pfK st v k = 0 ∧ pcK st v k = 0 := by
  refine ⟨by unfold pfK; rw [if_neg hv], bitN_none 9 fun i hi => ?_⟩
  rintro ⟨n, hn, hnv, j, rfl, hm⟩
  have h1 := (fwStep_le (fw st) v (st.take k) stNone).2 n hn hnv
  have hn1 := h n (List.mem_of_mem_take hn)
  have e3 : (v : Int) - n = ((v - n.toNat : Nat) : Int) := by omega
  rw [e3] at hm
  have h2 := fw_least h j _ hm
  have e : stNone = 1000000 := rfl
  omega
theorem pfK_some {st : List Int} (h : ∀ n ∈ st, 1 ≤ n) {v k : Nat} (hv : fwStep (fw st) v (st.take k) stNone < stNone) : pfK st v k = fwStep (fw st) v (st.take k) stNone ∧ 1 ≤ pfK st v k := by
  have e : pfK st v k = fwStep (fw st) v (st.take k) stNone := by unfold pfK; rw [if_pos hv]
  refine ⟨e, ?_⟩
  rw [e]
  rcases fwStep_is (fw st) v (st.take k) stNone with h1 | ⟨n, hn, hnv, h1⟩
  · omega
  · have := (fw_bd h (v - n.toNat)).1
    omega
theorem pcK_skip {st : List Int} {v k : Nat} {n : Int} (hk : k < st.length) (hn : st.getD k 0 = n) (h : ¬ n ≤ (v : Int)) : pcK st v (k + 1) = pcK st v k := by
  refine bitN_congr 9 fun i hi => ?_
  rw [take_snoc hk hn]
  constructor
  · rintro ⟨m, hm, hmv, r⟩
    rcases List.mem_append.1 hm with hm | hm
    · exact ⟨m, hm, hmv, r⟩
    · simp only [List.mem_singleton] at hm; subst hm; exact (h hmv).elim
  · rintro ⟨m, hm, r⟩
    exact ⟨m, List.mem_append_left _ hm, r⟩
theorem pcK_next {st : List Int} {v k : Nat} {n : Int} (hk : k < st.length) (hn : st.getD k 0 = n) (h1 : 1 ≤ n) (h : n ≤ (v : Int)) : pcK st v (k + 1) = pcK st v k ||| shN (pc st (v - n.toNat)) := by
  apply Nat.eq_of_testBit_eq
  intro i
  have e3 : (v : Int) - n = ((v - n.toNat : Nat) : Int) := by omega
  rw [Nat.testBit_or, shN_test]
  unfold pcK pc
  rw [bitN_test, bitN_test, bitN_test]
  by_cases hi : i < 9
  · have hd : decide (i < 9) = true := by simpa using hi
    have hd2 : decide (i - 1 < 9) = true := by simp; omega
    rw [hd, hd2]
    simp only [Bool.true_and, Bool.and_true]
    rw [Bool.eq_iff_iff]
    simp only [Bool.or_eq_true, Bool.and_eq_true, decide_eq_true_eq]
    rw [take_snoc hk hn]
    constructor
    · rintro ⟨m, hm, hmv, j, rfl, hj⟩
      rcases List.mem_append.1 hm with hm | hm
      · exact .inl ⟨m, hm, hmv, j, rfl, hj⟩
      · simp only [List.mem_singleton] at hm
        subst hm
        exact .inr ⟨by omega, by rw [← e3]; exact hj⟩
    · rintro (⟨m, hm, hmv, r⟩ | ⟨h1, hj⟩)
      · exact ⟨m, List.mem_append_left _ hm, hmv, r⟩
      · refine ⟨n, by simp, h, i - 1, by omega, ?_⟩
        rw [e3]; exact hj
  · have hd : decide (i < 9) = false := by simpa using hi
    rw [hd]
    simp
theorem pK_start (st : List Int) (v : Nat) : pfK st v 0 = 0 ∧ pcK st v 0 = 0 := by
  refine ⟨by simp [pfK, fwStep], bitN_none 9 fun i hi => ?_⟩
  rintro ⟨n, hn, _⟩
  simp at hn
theorem pK_end {st : List Int} (h : ∀ n ∈ st, 1 ≤ n) (v : Nat) : pfK st (v + 1) st.length = pf st (v + 1) ∧ pcK st (v + 1) st.length = pc st (v + 1) := by
  refine ⟨?_, bitN_congr 9 fun i hi => ?_⟩
  · unfold pfK pf
    rw [List.take_length, fw_step h]
  · rw [List.take_length]
    constructor
    · rintro ⟨n, hn, _, j, rfl, hj⟩
      exact ⟨n, hn, hj⟩
    · intro hm
      cases i with
      | zero => simp only [Mk] at hm; omega
      | succ j =>
        obtain ⟨n, hn, hj⟩ := hm
        have := mk_low h j hj
        exact ⟨n, hn, by omega, j, rfl, hj⟩
theorem p_zero {st : List Int} (h : ∀ n ∈ st, 1 ≤ n) : pf st 0 = 0 ∧ pc st 0 = 1 := by
  refine ⟨by unfold pf; rw [fw_zero]; simp, ?_⟩
  have e : pc st 0 = bitN (fun i => i = 0) 9 := bitN_congr 9 fun i hi => by
    constructor
    · intro hm; have := mk_low h i hm; simp at this; omega
    · rintro rfl; rfl
  rw [e]
  apply Nat.eq_of_testBit_eq
  intro i
  rw [bitN_test]
  by_cases hi : i = 0
  · subst hi; simp
  · have e1 : (1 : Nat) = 2 ^ 0 := rfl
    rw [e1, Nat.testBit_two_pow_of_ne fun h => hi h.symm]
    simp [hi]

/-- The table's cells while value v is being told, k kinds of which are done. -/
def tA (st : List Int) (v k j : Nat) : Int := if j < v ∨ j = 0 then pf st j else if j = v then pfK st v k else 0
noncomputable def tC (st : List Int) (v k j : Nat) : Nat := if j < v ∨ j = 0 then pc st j else if j = v then pcK st v k else 0
theorem t_low {st : List Int} {v k j : Nat} (h : j < v) : tA st v k j = pf st j ∧ tC st v k j = pc st j := by simp [tA, tC, h]
theorem t_self (st : List Int) (v k : Nat) (hv : 0 < v) : tA st v k v = pfK st v k ∧ tC st v k v = pcK st v k := by
  have h0 : ¬ v = 0 := by omega
  simp [tA, tC, h0]
theorem t_skip {st : List Int} {v k : Nat} {n : Int} (hk : k < st.length) (hn : st.getD k 0 = n) (h : ¬ n ≤ (v : Int)) (j : Nat) : tA st v (k + 1) j = tA st v k j ∧ tC st v (k + 1) j = tC st v k j := by
  unfold tA tC pfK
  rw [fwAt_skip hk hn h, pcK_skip hk hn h]
  exact ⟨rfl, rfl⟩
theorem t_next {st : List Int} {v k j : Nat} {a : Int} {c : Nat} (ha : pfK st v (k + 1) = a) (hc : pcK st v (k + 1) = c) (hv : 0 < v) : (if j = v then a else tA st v k j) = tA st v (k + 1) j ∧ (if j = v then c else tC st v k j) = tC st v (k + 1) j := by
  by_cases e : j = v
  · subst e
    rw [if_pos rfl, if_pos rfl, (t_self st j (k + 1) hv).1, (t_self st j (k + 1) hv).2, ha, hc]
    exact ⟨rfl, rfl⟩
  · unfold tA tC
    rw [if_neg e, if_neg e, if_neg e, if_neg e, if_neg e, if_neg e]
    exact ⟨rfl, rfl⟩
theorem t_enter (st : List Int) (v j : Nat) : (tA st v 0 j = if j < v ∨ j = 0 then pf st j else 0) ∧ (tC st v 0 j = if j < v ∨ j = 0 then pc st j else 0) := by
  have h := pK_start st v
  unfold tA tC
  rw [h.1, h.2]
  constructor <;> (split <;> simp)
theorem t_leave {st : List Int} (h : ∀ n ∈ st, 1 ≤ n) (v j : Nat) : (tA st v st.length j = if j < v + 1 ∨ j = 0 then pf st j else 0) ∧ (tC st v st.length j = if j < v + 1 ∨ j = 0 then pc st j else 0) := by
  unfold tA tC
  by_cases h1 : j < v ∨ j = 0
  · have h2 : j < v + 1 ∨ j = 0 := by omega
    rw [if_pos h1, if_pos h1, if_pos h2, if_pos h2]
    exact ⟨rfl, rfl⟩
  · rw [if_neg h1, if_neg h1]
    by_cases e : j = v
    · subst e
      have h2 : j < j + 1 ∨ j = 0 := by omega
      rw [if_pos rfl, if_pos rfl, if_pos h2, if_pos h2]
      obtain ⟨u, rfl⟩ : ∃ u, j = u + 1 := ⟨j - 1, by omega⟩
      exact pK_end h u
    · have h2 : ¬ (j < v + 1 ∨ j = 0) := by omega
      rw [if_neg e, if_neg e, if_neg h2, if_neg h2]
      exact ⟨rfl, rfl⟩
theorem fw_small {st : List Int} (h : ∀ n ∈ st, 1 ≤ n) {v : Nat} (hv : fw st v < stNone) : fw st v ≤ v := by
  have h1 := mk_low h _ (fw_mk h v hv)
  have h2 := (fw_bd h v).1
  omega
theorem t_step_skip {st : List Int} (h1 : ∀ n ∈ st, 1 ≤ n) {v k q : Nat} (hk : k < st.length) (hn : st.getD k 0 = (q : Int)) (hq : 1 ≤ q) (h : q ≤ v) (hr : ¬ fw st (v - q) < stNone) : pfK st v (k + 1) = pfK st v k ∧ pcK st v (k + 1) = pcK st v k := by
  have hb := fw_bd h1 (v - q)
  have hb2 := fwStep_bd h1 v (st.take k) stNone (by decide) (by decide)
  have e : fw st (v - q) = stNone := by omega
  have e1 := fwAt_next hk hn (by omega : (q : Int) ≤ (v : Int))
  have e2 := pcK_next hk hn (by omega) (by omega : (q : Int) ≤ (v : Int))
  rw [Int.toNat_natCast] at e1 e2
  rw [(pf_none h1 hr).2] at e2
  constructor
  · unfold pfK
    rw [e1, e, Int.min_eq_left (by omega)]
  · rw [e2]
    simp [shN]
theorem t_step_first {st : List Int} (h1 : ∀ n ∈ st, 1 ≤ n) {v k q : Nat} (hk : k < st.length) (hn : st.getD k 0 = (q : Int)) (hq : 1 ≤ q) (h : q ≤ v) (hv : v ≤ 4000) (hr : fw st (v - q) < stNone) (ha : ¬ fwStep (fw st) v (st.take k) stNone < stNone) :
    pfK st v (k + 1) = pf st (v - q) + 1 ∧ pcK st v (k + 1) = shN (pc st (v - q)) := by
  have hb := fw_small h1 hr
  have hb2 := fwStep_bd h1 v (st.take k) stNone (by decide) (by decide)
  have e0 : stNone = 1000000 := rfl
  have e1 := fwAt_next hk hn (by omega : (q : Int) ≤ (v : Int))
  have e2 := pcK_next hk hn (by omega) (by omega : (q : Int) ≤ (v : Int))
  rw [Int.toNat_natCast] at e1 e2
  rw [(pfK_none h1 ha).2] at e2
  rw [(pf_some h1 hr).1]
  constructor
  · unfold pfK
    rw [e1, Int.min_eq_right (by omega), if_pos (by omega)]
  · rw [e2]
    simp
theorem t_step_both {st : List Int} (h1 : ∀ n ∈ st, 1 ≤ n) {v k q : Nat} (hk : k < st.length) (hn : st.getD k 0 = (q : Int)) (hq : 1 ≤ q) (h : q ≤ v) (_hv : v ≤ 4000) (hr : fw st (v - q) < stNone) (ha : fwStep (fw st) v (st.take k) stNone < stNone) :
    pfK st v (k + 1) = min (pf st (v - q) + 1) (pfK st v k) ∧ pcK st v (k + 1) = (pcK st v k ||| shN (pc st (v - q))) := by
  have hb := fw_small h1 hr
  have e0 : stNone = 1000000 := rfl
  have e1 := fwAt_next hk hn (by omega : (q : Int) ≤ (v : Int))
  have e2 := pcK_next hk hn (by omega) (by omega : (q : Int) ≤ (v : Int))
  rw [Int.toNat_natCast] at e1 e2
  rw [(pf_some h1 hr).1, (pfK_some h1 ha).1]
  refine ⟨?_, e2⟩
  unfold pfK
  rw [e1, if_pos (by omega), Int.min_comm]
end Go.Proofs.Ytmllokooceghiaa
