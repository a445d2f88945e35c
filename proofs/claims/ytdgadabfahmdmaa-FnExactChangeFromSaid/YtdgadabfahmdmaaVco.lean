/-
  Coins as integers and as plain numbers. No condition; no program is spoken of here.
-/
import Derived.Test.YtdgadabfahmdmaaVpu
import Derived.Test.YtdgadabfahmdmaaCpure
namespace Go.Proofs.Ytdgadabfahmdmaa

def iL (cs : List Nat) : List Int := cs.map (fun (n : Nat) => (n : Int))
theorem iL_len (cs : List Nat) : (iL cs).length = cs.length := by simp [iL]
theorem iL_at (cs : List Nat) (k : Nat) : (iL cs).getD k 0 = ((cs.getD k 0 : Nat) : Int) := by
  simp only [iL, List.getD_eq_getElem?_getD, List.getElem?_map]
  cases cs[k]? <;> simp
theorem iL_take (cs : List Nat) (k : Nat) : (iL cs).take k = iL (cs.take k) := by simp [iL, List.map_take]
theorem iL_drop (cs : List Nat) (k : Nat) : (iL cs).drop k = iL (cs.drop k) := by simp [iL, List.map_drop]
theorem iL_app (cs ds : List Nat) : iL cs ++ iL ds = iL (cs ++ ds) := by simp [iL]

/-- Coins: 1 to 8 kinds, increasing, each 1..1000. -/
structure Cn (cs : List Nat) : Prop where
  one : 1 ≤ cs.length
  eight : cs.length ≤ 8
  bd : ∀ j, j < cs.length → 1 ≤ cs.getD j 0 ∧ cs.getD j 0 ≤ 1000
  ris : ∀ j, j + 1 < cs.length → cs.getD j 0 < cs.getD (j + 1) 0
noncomputable def cnsB (xs : List Int) : Bool := @decide (1 ≤ xs.length ∧ xs.length ≤ 8 ∧ RisTo xs 1 1000 xs.length) (Classical.propDecidable _)
theorem cnsB_iff {xs : List Int} : cnsB xs = true ↔ (1 ≤ xs.length ∧ xs.length ≤ 8 ∧ RisTo xs 1 1000 xs.length) := by simp [cnsB]
theorem cnsB_no {xs : List Int} (h : ¬ (1 ≤ xs.length ∧ xs.length ≤ 8 ∧ RisTo xs 1 1000 xs.length)) : cnsB xs = false := by simp only [cnsB, decide_eq_false_iff_not]; exact h
theorem cnsB_ris {xs : List Int} (h1 : 1 ≤ xs.length) (h2 : xs.length ≤ 8) : cnsB xs = risB xs 1 1000 := by
  by_cases h : RisTo xs 1 1000 xs.length
  · rw [cnsB_iff.2 ⟨h1, h2, h⟩, risB_yes h]
  · rw [cnsB_no fun g => h g.2.2, risB_no h]
theorem cn_of {xs : List Int} (h : cnsB xs = true) : ∃ cs, xs = iL cs ∧ Cn cs := by
  obtain ⟨h1, h2, h3, h4⟩ := cnsB_iff.1 h
  refine ⟨xs.map Int.toNat, ?_, ?_⟩
  · apply List.ext_getElem?
    intro j
    simp only [iL, List.getElem?_map, List.map_map]
    by_cases hj : j < xs.length
    · have := h3 j hj
      rw [List.getD_eq_getElem?_getD] at this
      rw [List.getElem?_eq_getElem hj] at this ⊢
      simp at this ⊢
      omega
    · rw [List.getElem?_eq_none (by omega)]; rfl
  · have e : ∀ j, j < xs.length → ((xs.map Int.toNat).getD j 0 : Nat) = (xs.getD j 0).toNat := by
      intro j hj
      simp [List.getD_eq_getElem?_getD, List.getElem?_map, List.getElem?_eq_getElem hj]
    refine ⟨by simpa using h1, by simpa using h2, fun j hj => ?_, fun j hj => ?_⟩
    · rw [List.length_map] at hj
      rw [e j hj]; have := h3 j hj; omega
    · rw [List.length_map] at hj
      rw [e j (by omega), e (j + 1) hj]
      have := h4 j hj; have := h3 j (by omega); omega
theorem cns_of {cs : List Nat} (h : Cn cs) : cnsB (iL cs) = true := by
  refine cnsB_iff.2 ⟨by rw [iL_len]; exact h.one, by rw [iL_len]; exact h.eight, fun j hj => ?_, fun j hj => ?_⟩
  · rw [iL_len] at hj; rw [iL_at]; have := h.bd j hj; omega
  · rw [iL_len] at hj; rw [iL_at, iL_at]; have := h.ris j hj; omega
theorem mem_at {cs : List Nat} {n : Nat} (h : n ∈ cs) : ∃ j, j < cs.length ∧ cs.getD j 0 = n := by
  obtain ⟨j, hj, rfl⟩ := List.getElem_of_mem h
  exact ⟨j, hj, by simp [List.getD_eq_getElem?_getD, List.getElem?_eq_getElem hj]⟩
theorem at_mem {cs : List Nat} {j : Nat} (hj : j < cs.length) : cs.getD j 0 ∈ cs := by
  rw [List.getD_eq_getElem?_getD, List.getElem?_eq_getElem hj]; exact List.getElem_mem hj
theorem Cn.mem {cs : List Nat} (h : Cn cs) : ∀ n ∈ cs, 1 ≤ n ∧ n ≤ 1000 := by
  intro n hn
  obtain ⟨j, hj, rfl⟩ := mem_at hn
  exact h.bd j hj
theorem Cn.pos {cs : List Nat} (h : Cn cs) : Pos cs := fun n hn => (h.mem n hn).1
theorem Cn.ne {cs : List Nat} (h : Cn cs) : cs ≠ [] := by intro e; have := h.one; rw [e] at this; simp at this
theorem Cn.lt {cs : List Nat} (h : Cn cs) : ∀ (d i : Nat), i + d + 1 < cs.length → cs.getD i 0 < cs.getD (i + d + 1) 0 := by
  intro d
  induction d with
  | zero => intro i hi; exact h.ris i hi
  | succ d ih => intro i hi; have h1 := ih i (by omega); have h2 := h.ris (i + d + 1) hi; exact Nat.lt_trans h1 h2
theorem Cn.lt' {cs : List Nat} (h : Cn cs) {i j : Nat} (hij : i < j) (hj : j < cs.length) : cs.getD i 0 < cs.getD j 0 := by
  have := h.lt (j - i - 1) i (by omega)
  have e : i + (j - i - 1) + 1 = j := by omega
  rwa [e] at this
theorem lastC_at : ∀ (cs : List Nat), cs ≠ [] → lastC cs = cs.getD (cs.length - 1) 0 := by
  intro cs
  induction cs with
  | nil => intro h; exact (h rfl).elim
  | cons c cs ih =>
    intro _
    cases cs with
    | nil => rfl
    | cons d cs => simp only [lastC]; rw [ih (by simp)]; simp [List.getD_eq_getElem?_getD]
theorem Cn.le_last {cs : List Nat} (h : Cn cs) : ∀ n ∈ cs, n ≤ lastC cs := by
  intro n hn
  obtain ⟨j, hj, rfl⟩ := mem_at hn
  rw [lastC_at cs h.ne]
  by_cases e : j = cs.length - 1
  · rw [e]; exact Nat.le_refl _
  · exact Nat.le_of_lt (h.lt' (by omega) (by omega))
theorem Cn.last_bd {cs : List Nat} (h : Cn cs) : 1 ≤ lastC cs ∧ lastC cs ≤ 1000 := by
  rw [lastC_at cs h.ne]; exact h.bd _ (by have := h.one; omega)
/-- The coin before. -/
def prevC (xs : List Int) : Nat → Int
  | 0 => 0
  | k + 1 => xs.getD k 0
theorem prev_low {xs : List Int} {k : Nat} (hk : k < xs.length) (h : xs.getD k 0 ≤ prevC xs k) : cnsB xs = false := by
  refine cnsB_no fun g => ?_
  cases k with
  | zero => have := g.2.2.1 0 hk; simp only [prevC] at h; omega
  | succ k => have := g.2.2.2 k hk; simp only [prevC] at h; omega
theorem prev_high {xs : List Int} {k : Nat} (hk : k < xs.length) (h : 1000 < xs.getD k 0) : cnsB xs = false :=
  cnsB_no fun g => by have := g.2.2.1 k hk; omega
theorem prev_succ {xs : List Int} {k : Nat} (h : RisTo xs 1 1000 k) (h0 : 0 ≤ prevC xs k) (h1 : ¬ xs.getD k 0 ≤ prevC xs k) (h2 : ¬ 1000 < xs.getD k 0) : RisTo xs 1 1000 (k + 1) :=
  h.succ (by omega) fun m e => by subst e; simp only [prevC] at h1; omega
def amB (n : Int) : Bool := decide (0 ≤ n) && decide (n ≤ 20000)
noncomputable def askC (xs : List Int) (a : Int) : Bool := cnsB xs && amB a
theorem askC_no {xs : List Int} {a : Int} (h : cnsB xs = false) : askC xs a = false := by simp [askC, h]
theorem askC_out {xs : List Int} {a : Int} (h : amB a = false) : askC xs a = false := by simp [askC, h]
theorem amB_iff {a : Int} : amB a = true ↔ 0 ≤ a ∧ a ≤ 20000 := by simp [amB]
theorem askC_yes {xs : List Int} {a : Int} (h : askC xs a = true) : ∃ (cs : List Nat) (n : Nat), xs = iL cs ∧ Cn cs ∧ a = n ∧ n ≤ 20000 := by
  simp only [askC, Bool.and_eq_true] at h
  obtain ⟨cs, h1, h2⟩ := cn_of h.1
  have := amB_iff.1 h.2
  exact ⟨cs, a.toNat, h1, h2, by omega, by omega⟩
theorem askC_of {cs : List Nat} {n : Nat} (h : Cn cs) (hn : n ≤ 20000) : askC (iL cs) n = true := by
  simp only [askC, Bool.and_eq_true]; exact ⟨cns_of h, amB_iff.2 (by omega)⟩
end Go.Proofs.Ytdgadabfahmdmaa
