/-
  Cards as the program looks at them, plainly: sets of numbers, answers, what is left, what tells all. No condition; no program is spoken of here.
-/
import Derived.Test.YtgojlabkngnkdaaKpu
namespace Go.Proofs.Ytgojlabkngnkdaa

theorem inc_ext {a b : List Int} (ha : a.Pairwise (fun x y => x < y)) (hb : b.Pairwise (fun x y => x < y)) (h : ∀ x, x ∈ a ↔ x ∈ b) : a = b := by
  have na : a.Nodup := ha.imp fun h => by omega
  have nb : b.Nodup := hb.imp fun h => by omega
  exact sorted_eq (ha.imp fun h => by omega) (hb.imp fun h => by omega) ((List.perm_ext_iff_of_nodup na nb).2 h)
theorem ris_pwC {lo hi : Int} {xs : List Int} (h : RisTo xs lo hi xs.length) : xs.Pairwise (fun x y => x < y) := by
  have key : ∀ d i, i + d + 1 < xs.length → xs.getD i 0 < xs.getD (i + d + 1) 0 := by
    intro d
    induction d with
    | zero => intro i hi; have := h.2 i hi; simpa using this
    | succ d ih => intro i hi; have h1 := ih i (by omega); have h2 := h.2 (i + d + 1) (by omega); rw [show i + (d + 1) + 1 = i + d + 1 + 1 by omega]; omega
  rw [List.pairwise_iff_getElem]
  intro i j hi hj hij
  have := key (j - i - 1) i (by omega)
  rw [show i + (j - i - 1) + 1 = j by omega] at this
  simpa [List.getD_eq_getElem?_getD, List.getElem?_eq_getElem hi, List.getElem?_eq_getElem hj] using this
theorem ris_memC {lo hi : Int} {xs : List Int} (h : RisTo xs lo hi xs.length) {x : Int} (hx : x ∈ xs) : lo ≤ x ∧ x ≤ hi := by
  obtain ⟨j, hj, rfl⟩ := List.getElem_of_mem hx
  have := h.1 j hj
  simpa [List.getD_eq_getElem?_getD, List.getElem?_eq_getElem hj] using this

/-- The numbers below k of a set, increasing. -/
def sLK (p : Int → Bool) (k : Nat) : List Int := ((List.range k).filter fun (j : Nat) => p (j : Int)).map fun (j : Nat) => (j : Int)
def sL (p : Int → Bool) : List Int := sLK p 128
theorem sLK_yes {p : Int → Bool} {k : Nat} (h : p k = true) : sLK p (k + 1) = sLK p k ++ [(k : Int)] := by
  unfold sLK; rw [List.range_succ, List.filter_append]; simp [h]
theorem sLK_no {p : Int → Bool} {k : Nat} (h : p k = false) : sLK p (k + 1) = sLK p k := by
  unfold sLK; rw [List.range_succ, List.filter_append]; simp [h]
theorem sLK_len (p : Int → Bool) (k : Nat) : (sLK p k).length ≤ k := by
  unfold sLK; rw [List.length_map]; exact Nat.le_trans (List.length_filter_le _ _) (by simp)
theorem mem_sLK {p : Int → Bool} {k : Nat} {x : Int} : x ∈ sLK p k ↔ 0 ≤ x ∧ x < k ∧ p x = true := by
  unfold sLK
  rw [List.mem_map]
  constructor
  · rintro ⟨j, hj, rfl⟩
    rw [List.mem_filter, List.mem_range] at hj
    exact ⟨by omega, by omega, hj.2⟩
  · rintro ⟨h0, h1, h2⟩
    refine ⟨x.toNat, ?_, by omega⟩
    rw [List.mem_filter, List.mem_range]
    exact ⟨by omega, by rw [show ((x.toNat : Nat) : Int) = x by omega]; exact h2⟩
theorem sLK_pw (p : Int → Bool) (k : Nat) : (sLK p k).Pairwise (fun x y => x < y) := by
  unfold sLK
  rw [List.pairwise_map]
  exact (List.pairwise_lt_range.filter _).imp fun h => by omega
theorem mem_sL {p : Int → Bool} {x : Int} : x ∈ sL p ↔ 0 ≤ x ∧ x ≤ 127 ∧ p x = true := by
  unfold sL; rw [mem_sLK]; constructor <;> rintro ⟨a, b, c⟩ <;> exact ⟨a, by omega, c⟩
theorem sL_eq {l : List Int} {p : Int → Bool} (h : l.Pairwise (fun x y => x < y)) (g : ∀ x, x ∈ l ↔ 0 ≤ x ∧ x ≤ 127 ∧ p x = true) : sL p = l :=
  inc_ext (sLK_pw p 128) h fun x => mem_sL.trans (g x).symm
/-- The set of a list. -/
def inL (L : List Int) (x : Int) : Bool := decide (x ∈ L)
theorem sL_inL {L : List Int} {hi : Int} (h : RisTo L 0 hi L.length) (hh : hi ≤ 127) : sL (inL L) = L :=
  sL_eq (ris_pwC h) fun x => ⟨fun hx => by have := ris_memC h hx; exact ⟨this.1, by omega, by simp [inL, hx]⟩, fun hx => by simpa [inL] using hx.2.2⟩
theorem CaG.lists {n : Int} {Ls : List (List Int)} (g : CaG n Ls) : (Ls.map inL).map sL = Ls := by
  rw [List.map_map]
  refine List.ext_getElem (by simp) fun j h1 h2 => ?_
  rw [List.getElem_map]
  have h := g.ris j h2
  rw [List.getD_eq_getElem?_getD, List.getElem?_eq_getElem h2] at h
  exact sL_inL h (by have := g.hi; omega)

end Go.Proofs.Ytgojlabkngnkdaa
