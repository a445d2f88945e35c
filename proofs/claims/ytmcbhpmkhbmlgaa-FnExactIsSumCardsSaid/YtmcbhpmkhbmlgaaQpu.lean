/-
  Cards as the program looks at them, plainly: sets of numbers, answers, what is left, what tells all. No condition; no program is spoken of here.
-/
import Derived.Test.YtmcbhpmkhbmlgaaKpu
namespace Go.Proofs.Ytmcbhpmkhbmlgaa

theorem inc_ext {a b : List Int} (ha : a.Pairwise (fun x y => x < y)) (hb : b.Pairwise (fun x y => x < y)) (h : ∀ x, x ∈ a ↔ x ∈ b) : a = b := by
  have na : a.Nodup := ha.imp fun h => by omega
  have nb : b.Nodup := hb.imp fun h => by omega
  exact sorted_eq (ha.imp fun h => by omega) (hb.imp fun h => by omega) ((List.perm_ext_iff_of_nodup na nb).2 h)
theorem ris_pwC {lo hi : Int} {xs : List Int} (h : RisTo xs lo hi xs.length) : xs.Pairwise (fun x y => x < y) := by
  have key : ∀ d i, i + d + 1 < xs.length → xs.getD i 0 < xs.getD (i + d + 1) 0 := by
    intro d
    induction d with
    | zero => intro i hi; have := h.2 i hi; simpa using this
    | succ d ih => intro i hi; have h1 := ih i (by omega); have h2 := h.2 (i + d + 1) (by omega); rw [show i + (d + 1) + 1 = i + d + 1 + 1 by omega]; omega
  rw [List.pairwise_iff_getElem]
  intro i j hi hj hij
  have := key (j - i - 1) i (by omega)
  rw [show i + (j - i - 1) + 1 = j by omega] at this
  simpa [List.getD_eq_getElem?_getD, List.getElem?_eq_getElem hi, List.getElem?_eq_getElem hj] using this
theorem ris_memC {lo hi : Int} {xs : List Int} (h : RisTo xs lo hi xs.length) {x : Int} (hx : x ∈ xs) : lo ≤ x ∧ x ≤ hi := by
  obtain ⟨j, hj, rfl⟩ := List.getElem_of_mem hx
  have := h.1 j hj
  simpa [List.getD_eq_getElem?_getD, List.getElem?_eq_getElem hj] using this

/-- The numbers below k of a set, increasing. -/
def sLK (p : Int → Bool) (k : Nat) : List Int := ((List.range k).filter fun (j : Nat) => p (j : Int)).map fun (j : Nat) => (j : Int)
def sL (p : Int → Bool) : List Int := sLK p 128
theorem sLK_yes {p : Int → Bool} {k : Nat} (h : p k = true) : sLK p (k + 1) = sLK p k ++ [(k : Int)] := by
  unfold sLK; rw [List.range_succ, List.filter_append]; simp [h]
theorem sLK_no {p : Int → Bool} {k : Nat} (h : p k = false) : sLK p (k + 1) = sLK p k := by
  unfold sLK; rw [List.range_succ, List.filter_append]; simp [h]
theorem sLK_len (p : Int → Bool) (k : Nat) : (sLK p k).length ≤ k := by
  unfold sLK; rw [List.length_map]; exact Nat.le_trans (List.length_filter_le _ _) (by simp)
theorem mem_sLK {p : Int → Bool} {k : Nat} {x : Int} : x ∈ sLK p k ↔ 0 ≤ x ∧ x < k ∧ p x = true := by
  unfold sLK
  rw [List.mem_map]
  constructor
  · rintro ⟨j, hj, rfl⟩
    rw [List.mem_filter, List.mem_range] at hj
    exact ⟨by omega, by omega, hj.2⟩
  · rintro ⟨h0, h1, h2⟩
    refine ⟨x.toNat, ?_, by omega⟩
    rw [List.mem_filter, List.mem_range]
    exact ⟨by omega, by rw [show ((x.toNat : Nat) : Int) = x by omega]; exact h2⟩
theorem sLK_pw (p : Int → Bool) (k : Nat) : (sLK p k).Pairwise (fun x y => x < y) := by
  unfold sLK
  rw [List.pairwise_map]
  exact (List.pairwise_lt_range.filter _).imp fun h => by omega
theorem mem_sL {p : Int → Bool} {x : Int} : x ∈ sL p ↔ 0 ≤ x ∧ x ≤ 127 ∧ p x = true := by
  unfold sL; rw [mem_sLK]; constructor <;> rintro ⟨a, b, c⟩ <;> exact ⟨a, by omega, c⟩
theorem sL_eq {l : List Int} {p : Int → Bool} (h : l.Pairwise (fun x y => x < y)) (g : ∀ x, x ∈ l ↔ 0 ≤ x ∧ x ≤ 127 ∧ p x = true) : sL p = l :=
  inc_ext (sLK_pw p 128) h fun x => mem_sL.trans (g x).symm
/-- A set of the numbers less than m only. -/
theorem sL_low {p q : Int → Bool} {m : Nat} (hm : m ≤ 128) (h : ∀ x, 0 ≤ x → x ≤ 127 → p x = (decide (x < m) && q x)) : sL p = sLK q m :=
  sL_eq (sLK_pw q m) fun x => mem_sLK.trans (by
    constructor
    · rintro ⟨h0, h1, h2⟩
      exact ⟨h0, by omega, by rw [h x h0 (by omega)]; simp [h1, h2]⟩
    · rintro ⟨h0, h1, h2⟩
      rw [h x h0 h1] at h2
      simp only [Bool.and_eq_true, decide_eq_true_eq] at h2
      exact ⟨h0, h2.1, h2.2⟩)

/-- The set of a list. -/
def inL (L : List Int) (x : Int) : Bool := decide (x ∈ L)
theorem sL_inL {L : List Int} {hi : Int} (h : RisTo L 0 hi L.length) (hh : hi ≤ 127) : sL (inL L) = L :=
  sL_eq (ris_pwC h) fun x => ⟨fun hx => by have := ris_memC h hx; exact ⟨this.1, by omega, by simp [inL, hx]⟩, fun hx => by simpa [inL] using hx.2.2⟩
theorem CaG.lists {n : Int} {Ls : List (List Int)} (g : CaG n Ls) : (Ls.map inL).map sL = Ls := by
  rw [List.map_map]
  refine List.ext_getElem (by simp) fun j h1 h2 => ?_
  rw [List.getElem_map]
  have h := g.ris j h2
  rw [List.getD_eq_getElem?_getD, List.getElem?_eq_getElem h2] at h
  exact sL_inL h (by have := g.hi; omega)

/-- The answers that cards, told as sets, give of a number. -/
def anP (ps : List (Int → Bool)) (x : Int) : List UInt8 := ps.map fun p => if p x = true then 121 else 110
theorem anP_len (ps : List (Int → Bool)) (x : Int) : (anP ps x).length = ps.length := by simp [anP]
theorem anP_in (Ls : List (List Int)) (x : Int) : anP (Ls.map inL) x = anW Ls x := by simp [anP, anW, inL, List.map_map, Function.comp_def]
theorem anP_at {ps : List (Int → Bool)} {x : Int} {k : Nat} {p : Int → Bool} (h : ps[k]? = some p) : (anP ps x).getD k 0 = if p x = true then 121 else 110 := by
  rw [List.getD_eq_getElem?_getD, anP, List.getElem?_map, h]; rfl
theorem anP_yn (ps : List (Int → Bool)) (x : Int) : YnTo (anP ps x) (anP ps x).length := fun j hj => by
  rw [anP_len] at hj
  rw [anP_at (List.getElem?_eq_getElem hj)]
  split <;> simp
def anPK (ps : List (Int → Bool)) (x : Int) (k : Nat) : List UInt8 := (anP ps x).take k
theorem anPK_all (ps : List (Int → Bool)) (x : Int) : anPK ps x ps.length = anP ps x := by unfold anPK; rw [List.take_of_length_le (by rw [anP_len]; omega)]
theorem anPK_yes {ps : List (Int → Bool)} {x : Int} {k : Nat} {p : Int → Bool} (h : ps[k]? = some p) (hp : p x = true) : anPK ps x (k + 1) = anPK ps x k ++ [121] := by
  unfold anPK anP; rw [List.take_add_one, List.getElem?_map, h]; simp [hp]
theorem anPK_no {ps : List (Int → Bool)} {x : Int} {k : Nat} {p : Int → Bool} (h : ps[k]? = some p) (hp : p x = false) : anPK ps x (k + 1) = anPK ps x k ++ [110] := by
  unfold anPK anP; rw [List.take_add_one, List.getElem?_map, h]; simp [hp]
theorem anW_yn (Ls : List (List Int)) (x : Int) : YnTo (anW Ls x) (anW Ls x).length := by rw [← anP_in]; exact anP_yn _ _

/-- The numbers less than n that answers leave. -/
def wlP (ps : List (Int → Bool)) (n : Int) (a : List UInt8) (most : Int) (y : Int) : Bool := decide (0 ≤ y ∧ y < n) && decide ((apK (anP ps y) a ps.length : Int) ≤ most)
theorem cwK_eq (Ls : List (List Int)) (a : List UInt8) (lies : Int) (k : Nat) : cwK Ls a lies k = sLK (fun x => decide ((farN Ls x a : Int) ≤ lies)) k := rfl
theorem sL_wl {Ls : List (List Int)} {n : Int} {a : List UInt8} {lies : Int} (h0 : 0 ≤ n) (h1 : n ≤ 128) : sL (wlP (Ls.map inL) n a lies) = cwK Ls a lies n.toNat := by
  rw [cwK_eq]
  refine sL_low (by omega) fun x h2 h3 => ?_
  have e : ((n.toNat : Nat) : Int) = n := by omega
  unfold wlP farN
  rw [anP_in, List.length_map, e]
  have e2 : decide (0 ≤ x ∧ x < n) = decide (x < n) := by rw [decide_eq_decide]; omega
  rw [e2]
/-- What is left behind the first k numbers. -/
def wlK (ps : List (Int → Bool)) (a : List UInt8) (most : Int) (k : Nat) (y : Int) : Bool := decide (0 ≤ y ∧ y < k) && decide ((apK (anP ps y) a ps.length : Int) ≤ most)
theorem wlK_zero (ps : List (Int → Bool)) (a : List UInt8) (most : Int) (y : Int) : wlK ps a most 0 y = false := by
  have : ¬ (0 ≤ y ∧ y < ((0 : Nat) : Int)) := by omega
  simp only [wlK, this, decide_false, Bool.false_and]
theorem wlK_step (ps : List (Int → Bool)) (a : List UInt8) (most : Int) (k : Nat) (y : Int) : wlK ps a most (k + 1) y = if y = (k : Int) then decide ((apK (anP ps k) a ps.length : Int) ≤ most) else wlK ps a most k y := by
  unfold wlK
  by_cases e : y = (k : Int)
  · subst e
    have : (0 : Int) ≤ (k : Int) ∧ (k : Int) < ((k + 1 : Nat) : Int) := by omega
    simp only [this, and_self, decide_true, Bool.true_and, if_true]
  · rw [if_neg e]
    have : decide (0 ≤ y ∧ y < ((k + 1 : Nat) : Int)) = decide (0 ≤ y ∧ y < ((k : Nat) : Int)) := by rw [decide_eq_decide]; omega
    rw [this]
theorem wlK_all (ps : List (Int → Bool)) (a : List UInt8) (most : Int) {n : Int} (h : 0 ≤ n) : wlK ps a most n.toNat = wlP ps n a most := by
  funext y
  unfold wlK wlP
  rw [show ((n.toNat : Nat) : Int) = n by omega]

end Go.Proofs.Ytmcbhpmkhbmlgaa
