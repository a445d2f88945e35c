/-
  The best sets of stamps, plainly: the model's search is a fold over all sets, kind by kind. No condition; no program is spoken of here.
-/
import Derived.Test.YtmllokooceghiaaSty
namespace Go.Proofs.Ytmllokooceghiaa

/-- The sets with one more stamp. -/
def nxS (R : Nat) (st : List Int) : List (List Int) := (List.range (min (R + 1) 500 - (lastS st).toNat)).map fun j => st ++ [(((lastS st).toNat + 1 + j : Nat) : Int)]
def lev (r : Nat) : Nat → List (List Int) → List (List Int)
  | 0, L => L
  | d + 1, L => lev r d (L.flatMap fun x => nxS (rch x r) x)
def stp (r : Nat) (a : BsR) (x : List Int) : BsR := bsS a (x, (rch x r : Int), 1)

theorem bsS_lt {a f : BsR} (h : a.2.1 < f.2.1) : bsS a f = f := by unfold bsS; rw [if_pos h]
theorem bsS_eq {a f : BsR} (h : f.2.1 = a.2.1) : bsS a f = (a.1, a.2.1, a.2.2 + f.2.2) := by unfold bsS; rw [if_neg (by omega), if_pos h]
theorem bsS_gt {a f : BsR} (h : f.2.1 < a.2.1) : bsS a f = a := by unfold bsS; rw [if_neg (by omega), if_neg (by omega)]
theorem bsS_assoc (a b c : BsR) : bsS (bsS a b) c = bsS a (bsS b c) := by
  rcases Int.lt_trichotomy a.2.1 b.2.1 with h | h | h <;> rcases Int.lt_trichotomy b.2.1 c.2.1 with g | g | g
  · rw [bsS_lt h, bsS_lt g, bsS_lt (by omega)]
  · rw [bsS_lt h, bsS_eq g.symm, bsS_lt (by simpa using h)]
  · rw [bsS_lt h, bsS_gt g, bsS_lt h]
  · rw [bsS_eq h.symm, bsS_lt g, bsS_lt (by simp only; omega), bsS_lt (by omega)]
  · rw [bsS_eq h.symm, bsS_eq g.symm, bsS_eq (by simp only; omega), bsS_eq (by simp only; omega)]
    simp only [Int.add_assoc]
  · rw [bsS_eq h.symm, bsS_gt g, bsS_gt (by simp only; omega), bsS_eq h.symm]
  · rw [bsS_gt h, bsS_lt g]
  · rw [bsS_gt h, bsS_eq g.symm, bsS_gt (by omega), bsS_gt (by simp only; omega)]
  · rw [bsS_gt h, bsS_gt g, bsS_gt (by omega), bsS_gt h]
theorem bsS_none {a : BsR} (h : -1 ≤ a.2.1) : bsS a ([], -1, 0) = a := by
  obtain ⟨a1, a2, a3⟩ := a
  simp only at h
  unfold bsS
  simp only
  by_cases h2 : -1 = a2
  · subst h2; simp
  · rw [if_neg (by omega), if_neg h2]
theorem none_bsS {a : BsR} (h : 0 ≤ a.2.1) : bsS ([], -1, 0) a = a := by
  unfold bsS
  simp only
  rw [if_pos (by omega)]
theorem bsS_le (a f : BsR) : a.2.1 ≤ (bsS a f).2.1 ∧ f.2.1 ≤ (bsS a f).2.1 := by
  unfold bsS
  split
  · omega
  · split
    · simp only; omega
    · omega
theorem bsG_merge (F : List Int → BsR) (st : List Int) (a : BsR) : ∀ (f n : Nat) (b : BsR), bsS a (bsG F st f n b) = bsG F st f n (bsS a b) := by
  intro f
  induction f with
  | zero => intro n b; rfl
  | succ f ih => intro n b; rw [bsG, ih, bsG, bsS_assoc]
theorem bsG_le (F : List Int → BsR) (st : List Int) : ∀ (f n : Nat) (a : BsR), a.2.1 ≤ (bsG F st f n a).2.1 := by
  intro f
  induction f with
  | zero => intro n a; exact Int.le_refl _
  | succ f ih => intro n a; rw [bsG]; exact Int.le_trans (bsS_le a _).1 (ih _ _)
theorem bsG_fold (F : List Int → BsR) (st : List Int) : ∀ (f n : Nat) (a : BsR), bsG F st f n a = ((List.range f).map fun j => st ++ [((n + j : Nat) : Int)]).foldl (fun a x => bsS a (F x)) a := by
  intro f
  induction f with
  | zero => intro n a; rfl
  | succ f ih =>
    intro n a
    rw [bsG, ih, List.range_succ_eq_map, List.map_cons, List.foldl_cons, List.map_map]
    congr 1
    apply List.map_congr_left
    intro j _
    simp only [Function.comp]
    rw [show n + 1 + j = n + j.succ by omega]

/-- Sets that the search comes by, d kinds being still to come. -/
structure GdS (d : Nat) (x : List Int) : Prop where
  st : x = [] ∨ Stm x
  pw : lastS x * 6 ^ d ≤ 500
  ln : x.length + d ≤ 3
theorem fw_nil (v : Nat) : fw [] (v + 1) = stNone := by rw [fw_step (by simp)]; rfl
theorem rch_nil (r : Nat) (hr : r ≤ 8) : rch [] r = 0 := by
  have e : ((r : Int) * lastS [] + 1).toNat = 1 := by simp [lastS]
  have h : ¬ fw [] 1 ≤ (r : Int) := by rw [fw_nil 0]; unfold stNone; omega
  unfold rch
  rw [e, rchG, if_neg h]
theorem GdS.rch {r d : Nat} {x : List Int} (h : GdS (d + 1) x) (hr : r ≤ 5) : rch x r ≤ 5 * (lastS x).toNat ∧ 0 ≤ lastS x ∧ lastS x * 6 ≤ 500 ∧ rch x r + 1 ≤ 500 := by
  rcases h.st with rfl | S
  · rw [rch_nil r (by omega)]
    refine ⟨by omega, by simp [lastS], by simp [lastS], by omega⟩
  · have h1 := rch5 S hr
    have h2 := S.last_bd
    have h3 := pow6_one (by omega) h.pw
    refine ⟨by omega, by omega, h3, by omega⟩
theorem GdS.next {r d : Nat} {x y : List Int} (h : GdS (d + 1) x) (hr : r ≤ 5) (hy : y ∈ nxS (Go.Proofs.Ytmllokooceghiaa.rch x r) x) : GdS d y := by
  obtain ⟨h1, h2, h3, h4⟩ := h.rch hr
  unfold nxS at hy
  rw [List.mem_map] at hy
  obtain ⟨j, hj, rfl⟩ := hy
  rw [List.mem_range] at hj
  have hl := h.ln
  rcases h.st with rfl | S
  · rw [rch_nil r (by omega)] at hj
    have e : (lastS []).toNat = 0 := by simp [lastS]
    rw [e] at hj ⊢
    obtain rfl : j = 0 := by omega
    refine ⟨.inr stm_one, ?_, by simpa using (show 1 + d ≤ 3 by simp at hl; omega)⟩
    have h5 : d = 0 ∨ d = 1 ∨ d = 2 := by simp at hl; omega
    rcases h5 with rfl | rfl | rfl <;> decide
  · have h5 := S.last_bd
    refine ⟨.inr (S.push (by omega) (by omega) (by omega)), ?_, by simp; omega⟩
    rw [lastS_push]
    exact pow6_step (by omega) h.pw
theorem nx_step {r d : Nat} (hr : r ≤ 5) {x : List Int} (h : GdS (d + 1) x) (a : BsR) (ha : -1 ≤ a.2.1) : (nxS (rch x r) x).foldl (fun a y => bsS a (bs r d y)) a = bsS a (bs r (d + 1) x) := by
  obtain ⟨h1, h2, h3, h4⟩ := h.rch hr
  rw [bs, bsG_merge, bsS_none ha, bsG_fold]
  unfold nxS
  rw [show min (rch x r + 1) 500 - (lastS x).toNat = rch x r + 2 - ((lastS x).toNat + 1) by omega]
theorem lev_fold {r : Nat} (hr : r ≤ 5) : ∀ (d : Nat) (L : List (List Int)) (a : BsR), -1 ≤ a.2.1 → (∀ x ∈ L, GdS d x) → (lev r d L).foldl (stp r) a = L.foldl (fun a x => bsS a (bs r d x)) a := by
  intro d
  induction d with
  | zero => intro L a _ _; rfl
  | succ d ih =>
    intro L a ha hL
    rw [lev, ih _ a ha (by
      intro y hy
      rw [List.mem_flatMap] at hy
      obtain ⟨x, hx, hy⟩ := hy
      exact (hL x hx).next hr hy)]
    rw [List.foldl_flatMap]
    induction L generalizing a with
    | nil => rfl
    | cons x L ihL =>
      rw [List.foldl_cons, List.foldl_cons, nx_step hr (hL x (by simp)) a ha]
      exact ihL _ (Int.le_trans ha (bsS_le _ _).1) (fun y hy => hL y (by simp [hy]))

theorem mk_mono {st sn : List Int} (h : ∀ a ∈ st, a ∈ sn) : ∀ (k : Nat) (v : Int), Mk st k v → Mk sn k v := by
  intro k
  induction k with
  | zero => intro v hv; exact hv
  | succ k ih => intro v ⟨n, hn, hk⟩; exact ⟨n, h n hn, ih _ hk⟩
theorem fw_mono {st sn : List Int} (h1 : ∀ n ∈ st, 1 ≤ n) (h2 : ∀ n ∈ sn, 1 ≤ n) (h : ∀ a ∈ st, a ∈ sn) {r : Nat} (hr : r ≤ 8) {v : Nat} (hv : fw st v ≤ (r : Int)) : fw sn v ≤ (r : Int) := by
  have e : (r : Int) < stNone := by unfold stNone; omega
  obtain ⟨k, hk, hm⟩ := (fw_iff h1 e v).1 hv
  exact (fw_iff h2 e v).2 ⟨k, hk, mk_mono h k _ hm⟩
theorem rch_push {st : List Int} {n : Nat} {r : Nat} (S : Stm st) (S2 : Stm (st ++ [(n : Int)])) (r1 : 1 ≤ r) (r8 : r ≤ 8) (hn : n ≤ rch st r + 1) : n ≤ rch (st ++ [(n : Int)]) r ∧ rch st r ≤ rch (st ++ [(n : Int)]) r := by
  have m1 : ∀ x ∈ st, (1 : Int) ≤ x := fun x hx => (S.mem x hx).1
  have m2 : ∀ x ∈ st ++ [(n : Int)], (1 : Int) ≤ x := fun x hx => (S2.mem x hx).1
  have hs := (rch_spec S r8).2.1
  have ht := (rch_spec S2 r8).2.2
  have e : (r : Int) < stNone := by unfold stNone; omega
  have key : ∀ j, j ≤ rch st r → fw (st ++ [(n : Int)]) j ≤ (r : Int) := fun j hj => fw_mono m1 m2 (fun a ha => List.mem_append_left _ ha) r8 (hs j hj)
  have k2 : fw (st ++ [(n : Int)]) n ≤ (r : Int) := (fw_iff m2 e n).2 ⟨1, r1, (n : Int), by simp, by simp [Mk]⟩
  have c1 : ¬ rch (st ++ [(n : Int)]) r + 1 ≤ rch st r := fun h => ht (key _ h)
  refine ⟨?_, by omega⟩
  by_cases h : rch (st ++ [(n : Int)]) r + 1 = n
  · rw [h] at ht; exact (ht k2).elim
  · omega
theorem bs_pos {r : Nat} (r1 : 1 ≤ r) (hr : r ≤ 5) : ∀ (d : Nat) (x : List Int), GdS d x → Stm x → (lastS x).toNat ≤ rch x r → 1 ≤ (bs r d x).2.1 := by
  intro d
  induction d with
  | zero =>
    intro x _ S h
    have := S.last_bd
    show (1 : Int) ≤ (rch x r : Int)
    omega
  | succ d ih =>
    intro x g S h
    have hl := S.last_bd
    obtain ⟨h1, h2, h3, h4⟩ := g.rch hr
    obtain ⟨f, hf⟩ : ∃ f, rch x r + 2 - ((lastS x).toNat + 1) = f + 1 := ⟨rch x r + 2 - ((lastS x).toNat + 1) - 1, by omega⟩
    have hy : x ++ [(((lastS x).toNat + 1 : Nat) : Int)] ∈ nxS (rch x r) x := by
      unfold nxS
      rw [List.mem_map]
      exact ⟨0, by rw [List.mem_range]; omega, rfl⟩
    have g2 := g.next hr hy
    have S2 : Stm (x ++ [(((lastS x).toNat + 1 : Nat) : Int)]) := by
      rcases g2.st with e | e
      · simp at e
      · exact e
    have p := rch_push S S2 r1 (by omega) (by omega)
    have i := ih _ g2 S2 (by rw [lastS_push, Int.toNat_natCast]; exact p.1)
    rw [bs, hf, bsG]
    exact Int.le_trans i (Int.le_trans (bsS_le _ _).2 (bsG_le _ _ _ _ _))
/-- The fold over all sets is what the model finds. -/
theorem best_fold {r k : Nat} (r1 : 1 ≤ r) (hr : r ≤ 5) (k1 : 1 ≤ k) (k3 : k ≤ 3) : (lev r k [[]]).foldl (stp r) ([], 0, 0) = bs r (k - 1) [1] := by
  obtain ⟨d, rfl⟩ : ∃ d, k = d + 1 := ⟨k - 1, by omega⟩
  have G0 : GdS (d + 1) [] := ⟨.inl rfl, by simp [lastS], by simpa using k3⟩
  have hy : [(1 : Int)] ∈ nxS (rch [] r) [] := by
    rw [rch_nil r (by omega)]
    decide
  have G1 := G0.next hr hy
  have p0 := bs_pos r1 hr d [1] G1 stm_one (by
    have e : rch [1] r = rch ([] ++ [((1 : Nat) : Int)]) r := rfl
    have hs := (rch_spec stm_one (show r ≤ 8 by omega)).2.2
    show 1 ≤ rch [1] r
    by_cases h : rch [1] r = 0
    · rw [h] at hs
      exact (hs ((fw_iff (by simp) (by unfold stNone; omega) 1).2 ⟨1, r1, 1, by simp, by simp [Mk]⟩)).elim
    · omega)
  rw [lev_fold hr (d + 1) [[]] ([], 0, 0) (by decide) (fun x hx => by rw [List.mem_singleton] at hx; subst hx; exact G0)]
  show bsS ([], 0, 0) (bs r (d + 1) []) = bs r d [1]
  have e : bs r (d + 1) [] = bs r d [1] := by
    rw [bs, rch_nil r (by omega)]
    show bsS ([], -1, 0) (bs r d [1]) = bs r d [1]
    exact none_bsS (by omega)
  rw [e]
  generalize bs r d [1] = B at p0 ⊢
  unfold bsS
  simp only
  rw [if_pos (by omega)]

/-- The next stamp, as a fold over the sets with one more. -/
def nfS (r k : Nat) (a : Int × Int) (x : List Int) : Int × Int := if a.2 < (rch x r : Int) then (x.getD k 0, (rch x r : Int)) else a
theorem nxG_fold (st : List Int) (r : Nat) : ∀ (f n : Nat) (b fr : Int), (((List.range f).map fun j => st ++ [((n + j : Nat) : Int)]).foldl (nfS r st.length) (b, fr)).1 = nxG st r f n b fr := by
  intro f
  induction f with
  | zero => intro n b fr; rfl
  | succ f ih =>
    intro n b fr
    have e : ((List.range f).map ((fun j => st ++ [((n + j : Nat) : Int)]) ∘ Nat.succ)) = ((List.range f).map fun j => st ++ [((n + 1 + j : Nat) : Int)]) := by
      apply List.map_congr_left
      intro j _
      simp only [Function.comp]
      rw [show n + 1 + j = n + j.succ by omega]
    have e2 : (st ++ [(n : Int)]).getD st.length 0 = n := by simp
    rw [List.range_succ_eq_map, List.map_cons, List.foldl_cons, List.map_map, e, nxG]
    by_cases h : fr < (rch (st ++ [(n : Int)]) r : Int)
    · rw [if_pos h]
      have : nfS r st.length (b, fr) (st ++ [((n + 0 : Nat) : Int)]) = ((n : Int), (rch (st ++ [(n : Int)]) r : Int)) := by
        unfold nfS
        rw [Nat.add_zero, if_pos h, e2]
      rw [this]
      exact ih _ _ _
    · rw [if_neg h]
      have : nfS r st.length (b, fr) (st ++ [((n + 0 : Nat) : Int)]) = (b, fr) := by
        unfold nfS
        rw [Nat.add_zero, if_neg h]
      rw [this]
      exact ih _ _ _
/-- .. and it may begin with 0 as well. -/
theorem next_fold {st : List Int} {r : Nat} (S : Stm st) (r1 : 1 ≤ r) (r8 : r ≤ 8) (h6 : st.length ≤ 5) : ((nxS (rch st r) st).foldl (nfS r st.length) (0, 0)).1 = nxT st r := by
  unfold nxT nxS nxH
  rw [nxG_fold]
  have hl := S.last_bd
  rw [show min (rch st r + 1) 500 + 1 - ((lastS st).toNat + 1) = min (rch st r + 1) 500 - (lastS st).toNat by omega]
  obtain ⟨f, hf⟩ : ∃ f, min (rch st r + 1) 500 - (lastS st).toNat = f := ⟨_, rfl⟩
  cases f with
  | zero => rw [hf]; rfl
  | succ f =>
    have S2 := S.push (n := (((lastS st).toNat + 1 : Nat) : Int)) h6 (by omega) (by omega)
    have p := rch_push S S2 r1 r8 (by omega)
    rw [hf, nxG, nxG, if_pos (by omega), if_pos (by omega)]
end Go.Proofs.Ytmllokooceghiaa
