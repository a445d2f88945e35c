/-
  The program's step from one list of cuts to the next one, by its contract. Condition: cuts of a chain.
-/
import Derived.Test.YtnbbfpanidmpgaaSlr
import Derived.Test.YtnbbfpanidmpgaaJoin
namespace Go.Proofs.Ytnbbfpanidmpgaa
open Go.RowKit

theorem seqC_snoc : ∀ (n : Nat) (lo : Int), seqC lo (n + 1) = seqC lo n ++ [lo + n] := by
  intro n
  induction n with
  | zero => intro lo; simp [seqC]
  | succ n ih =>
    intro lo
    rw [seqC, ih (lo + 1)]
    simp only [seqC, List.cons_append]
    congr 3
    omega
/-- Behind j steps: the numbers ahead of i as they were, from there on side by side. -/
structure MvTo (c : List Int) (x : Int) (i j : Nat) (zs : List Int) : Prop where
  len : zs.length = c.length
  low : ∀ k, k < i → zs.getD k 0 = c.getD k 0
  seq : ∀ k, k < j → zs.getD (i + k) 0 = x + k
theorem MvTo.zero (c : List Int) (x : Int) (i : Nat) : MvTo c x i 0 c := ⟨rfl, fun _ _ => rfl, fun k hk => by omega⟩
theorem MvTo.set {c zs : List Int} {x : Int} {i j : Nat} (h : MvTo c x i j zs) (hj : i + j < c.length) : MvTo c x i (j + 1) (zs.set (i + j) (x + j)) := by
  have hl := h.len
  have hat : ∀ k, (zs.set (i + j) (x + j)).getD k 0 = if k = i + j then x + j else zs.getD k 0 := fun k => by
    simp only [List.getD_eq_getElem?_getD, List.getElem?_set]
    by_cases e : i + j = k
    · subst e; simp [hl, hj]
    · rw [if_neg e, if_neg (fun h => e h.symm)]
  refine ⟨by simp [hl], fun k hk => ?_, fun k hk => ?_⟩
  · rw [hat, if_neg (by omega)]; exact h.low k hk
  · rw [hat]
    by_cases e : k = j
    · subst e; rw [if_pos rfl]
    · rw [if_neg (by omega)]; exact h.seq k (by omega)
theorem MvTo.done {c zs : List Int} {x : Int} {i : Nat} (h : MvTo c x i (c.length - i) zs) (hi : i < c.length) : zs = c.take i ++ seqC x (c.length - i) := by
  apply List.ext_getElem?
  intro k
  by_cases hk : k < c.length
  · have hz : zs[k]? = some (zs.getD k 0) := by rw [List.getD_eq_getElem?_getD, List.getElem?_eq_getElem (by rw [h.len]; exact hk)]; rfl
    rw [hz]
    by_cases h1 : k < i
    · rw [List.getElem?_append_left (by rw [List.length_take]; omega), List.getElem?_take, if_pos h1, h.low k h1, List.getD_eq_getElem?_getD, List.getElem?_eq_getElem hk]; rfl
    · rw [List.getElem?_append_right (by rw [List.length_take]; omega), List.length_take, show min i c.length = i by omega]
      have h2 := h.seq (k - i) (by omega)
      rw [show i + (k - i) = k by omega] at h2
      have h3 := seqC_at (c.length - i) x (k - i) (by omega)
      rw [h2, ← h3, List.getD_eq_getElem?_getD, List.getElem?_eq_getElem (by rw [seqC_len]; omega)]; rfl
  · rw [List.getElem?_eq_none (by rw [h.len]; omega), List.getElem?_eq_none (by rw [List.length_append, List.length_take, seqC_len]; omega)]

set_option maxHeartbeats 4000000 in
theorem moveCuts_any (B g n cap i d cc : Nat) (c : List Int) (w : World) (ho : Ow w B (.slice (some ⟨g, 0, none⟩) n cap) c) (hn : c.length = n) (hd : n = i + d) (hd0 : 0 < d) (h9 : n ≤ 9) (hx : 0 ≤ c.getD i 0 ∧ c.getD i 0 ≤ 1000) :
    Calls Try.prog 95 #[.slice (some ⟨g, i, none⟩) d cc] w fun e w' => e = .returned (.tuple #[]) ∧ Ow w' B (.slice (some ⟨g, 0, none⟩) n cap) (c.take i ++ seqC (c.getD i 0 + 1) (n - i)) ∧ w.grownBy w' (some g) := by
  have hc0 := ho.cellAt hn (j := i) (by omega)
  obtain ⟨x, ex⟩ : ∃ x, c.getD i 0 = x := ⟨_, rfl⟩
  rw [ex] at hc0 hx ⊢
  have HN := Lib.hid hn
  have HD := Lib.hid hd
  have hin : i < n := by omega
  have hdn : i + d ≤ n := by omega
  clear ex hn hd
  go_enter Try.func95, Try.ntmps95
  go_wp2
  go_loopw [10] (fun a wr => ∃ (j : Nat) (zs : List Int), j ≤ d ∧ a = .int .i64 j ∧ MvTo c (x + 1) i j zs ∧ Ow wr B (.slice (some ⟨g, 0, none⟩) n cap) zs ∧ w.grownBy wr (some g)) (fun a _ => d - (intOf a).toNat)
  case atStart => exact ⟨0, c, Nat.zero_le _, rfl, MvTo.zero _ _ _, ho, grown_refl _ _⟩
  case round =>
    clear ho hc0
    obtain ⟨j, zs, hj, rfl, hm, ho, hg⟩ := hrel
    have hzl : zs.length = n := by rw [hm.len, HN.out]
    have HZ := Lib.hid hzl
    by_cases hlt : j < d
    · have c1 := ho.cellAt hzl (j := i + j) (by omega)
      have f1 := ho.frozenAt hzl (i + j)
      obtain ⟨y, ey⟩ : ∃ y, zs.getD (i + j) 0 = y := ⟨_, rfl⟩
      rw [ey] at c1
      clear ey hzl
      go_wp2
      go_roundw
      case rel =>
        have R := ho.set HZ.out (i + j) (x + 1 + j)
        exact ⟨j + 1, zs.set (i + j) (x + 1 + j), by omega, by go_num, hm.set (by rw [HN.out]; omega), R.1, grown_trans hg R.2⟩
      case measure => simp [intOf]; omega
    · have hjd : j = d := by omega
      subst hjd
      have e : zs = c.take i ++ seqC (x + 1) (n - i) := by
        have := MvTo.done (c := c) (zs := zs) (x := x + 1) (i := i) (by rw [HN.out, show n - i = j by have := HD.out; omega]; exact hm) (by rw [HN.out]; exact hin)
        rw [HN.out] at this; exact this
      rw [e] at ho
      clear e hzl hm
      go_wp2
      go_end0
      exact ⟨rfl, ho, hg⟩
end Go.Proofs.Ytnbbfpanidmpgaa
