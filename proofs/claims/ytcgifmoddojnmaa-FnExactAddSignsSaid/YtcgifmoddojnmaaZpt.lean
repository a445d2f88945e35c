/-
  Texts of signs and balanced digits, in plain lists of bytes. No condition; no program is spoken of here.
-/
namespace Go.Proofs.Ytcgifmoddojnmaa

/-- How many times a sign takes what it stands for, and the sign of so many times. -/
def tv (b : UInt8) : Int := if b = 43 then 1 else if b = 45 then -1 else 0
def sc (d : Int) : UInt8 := if d = 1 then 43 else if d = -1 then 45 else 48
def isSg (b : UInt8) : Prop := b = 43 ∨ b = 45 ∨ b = 48
theorem tv_bd (b : UInt8) : -1 ≤ tv b ∧ tv b ≤ 1 := by
  unfold tv
  repeat' split
  all_goals omega
theorem sc_tv {b : UInt8} (h : isSg b) : sc (tv b) = b := by rcases h with rfl | rfl | rfl <;> rfl
theorem tv_sc {d : Int} (h : -1 ≤ d ∧ d ≤ 1) : tv (sc d) = d := by
  have : d = -1 ∨ d = 0 ∨ d = 1 := by omega
  rcases this with rfl | rfl | rfl <;> rfl
theorem sc_sg (d : Int) : isSg (sc d) := by
  unfold sc isSg
  repeat' split
  all_goals simp
/-- Signs up to k. -/
def SgTo (a : List UInt8) (k : Nat) : Prop := ∀ j, j < k → isSg (a.getD j 0)
theorem SgTo.zero (a : List UInt8) : SgTo a 0 := fun j h => by omega
theorem SgTo.succ {a : List UInt8} {k : Nat} (h : SgTo a k) (hk : isSg (a.getD k 0)) : SgTo a (k + 1) := fun j hj => by
  by_cases e : j = k
  · subst e; exact hk
  · exact h j (by omega)
theorem SgTo.mem {a : List UInt8} (h : SgTo a a.length) : ∀ b ∈ a, isSg b := by
  intro b hb
  obtain ⟨k, hk, rfl⟩ := List.getElem_of_mem hb
  have := h k hk
  rwa [List.getD_eq_getElem?_getD, List.getElem?_eq_getElem hk] at this
/-- The signs exchanged. -/
def otL (a : List UInt8) : List UInt8 := a.map fun b => sc (-(tv b))
theorem otL_len (a : List UInt8) : (otL a).length = a.length := by simp [otL]
theorem otL_take {a : List UInt8} {k : Nat} {b : UInt8} (hk : k < a.length) (hb : a.getD k 0 = b) : otL (a.take (k + 1)) = otL (a.take k) ++ [sc (-(tv b))] := by
  rw [List.take_add_one, List.getElem?_eq_getElem hk]
  rw [List.getD_eq_getElem?_getD, List.getElem?_eq_getElem hk] at hb
  simp only [Option.getD_some] at hb
  simp [otL, hb]
/-- The value of signs: the first k pieces. -/
def vsK (xs : List Int) (a : List UInt8) : Nat → Int
  | 0 => 0
  | k + 1 => vsK xs a k + tv (a.getD k 0) * xs.getD k 0
theorem vsK_bd {xs : List Int} {a : List UInt8} (h : ∀ j, j < xs.length → 1 ≤ xs.getD j 0 ∧ xs.getD j 0 ≤ 10000) : ∀ k, k ≤ xs.length → -(10000 * (k : Int)) ≤ vsK xs a k ∧ vsK xs a k ≤ 10000 * k := by
  intro k
  induction k with
  | zero => intro _; simp [vsK]
  | succ k ih =>
    intro hk
    have h1 := ih (by omega)
    have h2 := h k (by omega)
    have h3 := tv_bd (a.getD k 0)
    have h4 : tv (a.getD k 0) = -1 ∨ tv (a.getD k 0) = 0 ∨ tv (a.getD k 0) = 1 := by omega
    simp only [vsK]
    rcases h4 with h4 | h4 | h4 <;> rw [h4] <;> omega

/-- The number of digits. -/
def nf : Int → List UInt8 → Int
  | n, [] => n
  | n, b :: l => nf (3 * n + tv b) l
theorem nf_snoc : ∀ (l : List UInt8) (n : Int) (b : UInt8), nf n (l ++ [b]) = 3 * nf n l + tv b := by
  intro l
  induction l with
  | nil => intro n b; rfl
  | cons c l ih => intro n b; simp only [List.cons_append, nf, ih]
theorem nf_drop {a : List UInt8} {k : Nat} {b : UInt8} (hk : k < a.length) (hb : a.getD k 0 = b) (n : Int) : nf n (a.drop k) = nf (3 * n + tv b) (a.drop (k + 1)) := by
  rw [List.drop_eq_getElem_cons hk, nf]
  rw [List.getD_eq_getElem?_getD, List.getElem?_eq_getElem hk] at hb
  simp only [Option.getD_some] at hb
  rw [hb]
theorem nf_take {a : List UInt8} {k : Nat} {b : UInt8} (hk : k < a.length) (hb : a.getD k 0 = b) (n : Int) : nf n (a.take (k + 1)) = 3 * nf n (a.take k) + tv b := by
  rw [List.take_add_one, List.getElem?_eq_getElem hk]
  rw [List.getD_eq_getElem?_getD, List.getElem?_eq_getElem hk] at hb
  simp only [Option.getD_some] at hb
  rw [hb]
  exact nf_snoc _ _ _
def p3 (k : Nat) : Int := 3 ^ k
theorem p3_succ (k : Nat) : p3 (k + 1) = 3 * p3 k := by unfold p3; rw [Int.pow_succ]; omega
theorem p3_pos (k : Nat) : 1 ≤ p3 k := by
  induction k with
  | zero => simp [p3]
  | succ k ih => rw [p3_succ]; omega
theorem nf_bd (a : List UInt8) : ∀ k, k ≤ a.length → -(p3 k) < 2 * nf 0 (a.take k) ∧ 2 * nf 0 (a.take k) < p3 k := by
  intro k
  induction k with
  | zero => intro _; simp [nf, p3]
  | succ k ih =>
    intro hk
    have h1 := ih (by omega)
    have h2 := tv_bd (a.getD k 0)
    rw [nf_take (by omega) rfl, p3_succ]
    omega
theorem p3_mono {j k : Nat} (h : j ≤ k) : p3 j ≤ p3 k := by
  induction k with
  | zero => obtain rfl : j = 0 := by omega
            exact Int.le_refl _
  | succ k ih =>
    by_cases e : j = k + 1
    · subst e; exact Int.le_refl _
    · have := ih (by omega); have := p3_pos k; rw [p3_succ]; omega
theorem nf_small (a : List UInt8) (k : Nat) (hk : k ≤ a.length) (h13 : k ≤ 13) : -797161 ≤ nf 0 (a.take k) ∧ nf 0 (a.take k) ≤ 797161 := by
  have h1 := nf_bd a k hk
  have h2 := p3_mono h13
  have h3 : p3 13 = 1594323 := by decide
  omega

/-- The units: -1, 0 or 1, so that threes are left. -/
def un (n : Int) : Int := (n + 1) % 3 - 1
theorem un_bd (n : Int) : -1 ≤ un n ∧ un n ≤ 1 := by unfold un; omega
def qn (n : Int) : Int := (n - un n) / 3
theorem qn_mul (n : Int) : n - un n = 3 * qn n := by unfold qn un; omega
theorem un_of {m t : Int} (h : -1 ≤ t ∧ t ≤ 1) : un (3 * m + t) = t ∧ qn (3 * m + t) = m := by
  have e : un (3 * m + t) = t := by unfold un; omega
  refine ⟨e, ?_⟩
  unfold qn
  rw [e]
  omega
theorem qn_small {n : Int} (h : n ≠ 0) : (qn n).natAbs < n.natAbs := by unfold qn un; omega
theorem tmod3 (n : Int) : n.tmod 3 = if 0 ≤ n then n % 3 else -((-n) % 3) := by
  split
  · rename_i h; rw [Int.tmod_eq_emod_of_nonneg h]
  · rename_i h
    have : n = -(-n) := by omega
    conv => lhs; rw [this]
    rw [Int.neg_tmod, Int.tmod_eq_emod_of_nonneg (by omega)]
theorem un_go (n : Int) : (n.tmod 3 + 4).tmod 3 - 1 = un n := by
  have h1 := tmod3 n
  have h2 := tmod3 (n.tmod 3 + 4)
  unfold un
  split at h1 <;> split at h2 <;> omega
theorem md_go (n : Int) : (n.tmod 3 + 3).tmod 3 = n % 3 := by
  have h1 := tmod3 n
  have h2 := tmod3 (n.tmod 3 + 3)
  split at h1 <;> split at h2 <;> omega
theorem tdiv3 (q : Int) : (3 * q).tdiv 3 = q := Int.mul_tdiv_cancel_left q (by decide)
theorem qn_go (n : Int) : (n - un n).tdiv 3 = qn n := by rw [qn_mul]; exact tdiv3 _

/-- The balanced digits of a number; none of 0. -/
def bal (n : Int) : List UInt8 := if _h : n = 0 then [] else bal (qn n) ++ [sc (un n)]
termination_by n.natAbs
decreasing_by exact qn_small _h
theorem bal_zero : bal 0 = [] := by rw [bal]; simp
theorem bal_step {n : Int} (h : n ≠ 0) : bal n = bal (qn n) ++ [sc (un n)] := by rw [bal, dif_neg h]
theorem bal_len (n : Int) : (bal n).length ≤ n.natAbs := by
  induction h : n.natAbs using Nat.strongRecOn generalizing n with
  | ind m ih =>
    by_cases e : n = 0
    · subst e; rw [bal_zero]; simp
    · have h1 := qn_small e
      have h2 := ih _ (by omega) (qn n) rfl
      rw [bal_step e, List.length_append, List.length_singleton]
      omega
def balT (n : Int) : List UInt8 := if n = 0 then [48] else bal n
theorem balT_len (n : Int) : (balT n).length ≤ n.natAbs + 1 := by
  unfold balT; split
  · simp
  · have := bal_len n; omega

/-- Digits that begin with no 0 are those of their number. -/
theorem bal_nf : ∀ (k : Nat) (a : List UInt8), a.length = k + 1 → (∀ b ∈ a, isSg b) → a.getD 0 0 ≠ 48 → nf 0 a ≠ 0 ∧ bal (nf 0 a) = a := by
  intro k
  induction k with
  | zero =>
    intro a ha hs h0
    obtain ⟨b, rfl⟩ : ∃ b, a = [b] := by
      match a, ha with
      | [b], _ => exact ⟨b, rfl⟩
    have hb := hs b (by simp)
    simp only [List.getD, List.getElem?_cons_zero, Option.getD_some] at h0
    rcases hb with rfl | rfl | rfl
    · refine ⟨by decide, ?_⟩
      show bal 1 = [43]
      rw [bal_step (by decide), show qn 1 = 0 by decide, bal_zero]; rfl
    · refine ⟨by decide, ?_⟩
      show bal (-1) = [45]
      rw [bal_step (by decide), show qn (-1) = 0 by decide, bal_zero]; rfl
    · exact absurd rfl h0
  | succ k ih =>
    intro a ha hs h0
    have hne : a ≠ [] := by intro e; rw [e] at ha; simp at ha
    have e := (List.dropLast_concat_getLast hne).symm
    obtain ⟨l, eL⟩ : ∃ l, a.dropLast = l := ⟨_, rfl⟩
    obtain ⟨b, eB⟩ : ∃ b, a.getLast hne = b := ⟨_, rfl⟩
    rw [eL, eB] at e
    subst e
    have hl : l.length = k + 1 := by simpa using ha
    have h1 := ih l hl (fun x hx => hs x (by simp [hx])) (by
      have : (l ++ [b]).getD 0 0 = l.getD 0 0 := by
        simp only [List.getD]
        rw [List.getElem?_append_left (by omega)]
      rw [← this]; exact h0)
    have hb := hs b (by simp)
    have ht := tv_bd b
    rw [nf_snoc]
    obtain ⟨u1, u2⟩ := un_of (m := nf 0 l) ht
    have hz : 3 * nf 0 l + tv b ≠ 0 := by have := h1.1; omega
    refine ⟨hz, ?_⟩
    rw [bal_step hz, u1, u2, h1.2, sc_tv hb]
theorem nf_ot : ∀ (l : List UInt8) (n : Int), (∀ b ∈ l, isSg b) → nf (-n) (otL l) = -(nf n l) := by
  intro l
  induction l with
  | nil => intro n _; rfl
  | cons b l ih =>
    intro n hs
    have hb := tv_bd b
    simp only [otL, List.map_cons, nf]
    rw [tv_sc (by omega)]
    have := ih (3 * n + tv b) (fun x hx => hs x (by simp [hx]))
    rw [show 3 * -n + -(tv b) = -(3 * n + tv b) by omega]
    exact this
theorem otL_sg (a : List UInt8) : ∀ b ∈ otL a, isSg b := by
  intro b hb
  simp only [otL, List.mem_map] at hb
  obtain ⟨c, _, rfl⟩ := hb
  exact sc_sg _
theorem otL_head {a : List UInt8} (h : 0 < a.length) (hs : isSg (a.getD 0 0)) (h0 : a.getD 0 0 ≠ 48) : (otL a).getD 0 0 ≠ 48 := by
  match a, h with
  | b :: l, _ =>
    simp only [List.getD, List.getElem?_cons_zero, Option.getD_some] at hs h0
    simp only [otL, List.map_cons, List.getD, List.getElem?_cons_zero, Option.getD_some]
    rcases hs with rfl | rfl | rfl
    · decide
    · decide
    · exact absurd rfl h0
/-- A text of at most 13 balanced digits. -/
def DgOk (a : List UInt8) : Prop := (1 ≤ a.length ∧ a.length ≤ 13) ∧ SgTo a a.length ∧ (a.getD 0 0 ≠ 48 ∨ a.length = 1)
theorem dg_zero {a : List UInt8} (h : DgOk a) (h0 : a.getD 0 0 = 48) : a = [48] := by
  rcases h.2.2 with h2 | h2
  · exact absurd h0 h2
  · match a, h2 with
    | [b], _ =>
      simp only [List.getD, List.getElem?_cons_zero, Option.getD_some] at h0
      rw [h0]
theorem balT_nf {a : List UInt8} (h : DgOk a) : balT (nf 0 a) = a := by
  by_cases h0 : a.getD 0 0 = 48
  · rw [dg_zero h h0]; rfl
  · have R := bal_nf (a.length - 1) a (by have := h.1.1; omega) h.2.1.mem h0
    unfold balT
    rw [if_neg R.1, R.2]
theorem balT_neg {a : List UInt8} (h : DgOk a) : balT (-(nf 0 a)) = otL a := by
  have e := nf_ot a 0 h.2.1.mem
  rw [show -(0 : Int) = 0 by rfl] at e
  by_cases h0 : a.getD 0 0 = 48
  · rw [dg_zero h h0]; rfl
  · have R := bal_nf (a.length - 1) (otL a) (by rw [otL_len]; have := h.1.1; omega) (otL_sg a) (otL_head (by have := h.1.1; omega) (h.2.1 0 (by have := h.1.1; omega)) h0)
    rw [e] at R
    unfold balT
    rw [if_neg R.1, R.2]
end Go.Proofs.Ytcgifmoddojnmaa
