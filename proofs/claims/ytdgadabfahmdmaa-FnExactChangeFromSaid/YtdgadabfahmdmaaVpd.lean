/-
  How an amount is paid, plainly: ways, fewest coins, the first kind of the first change; kind for kind from the last on. No condition; no program is spoken of here.
-/
import Derived.Test.YtdgadabfahmdmaaVco
namespace Go.Proofs.Ytdgadabfahmdmaa

structure Pd where
  w : Nat
  f : Nat
  k : Nat
def Pd.z : Pd := ⟨0, 0, 0⟩
/-- One more than the most ways that are told. -/
def capW : Nat := 1000000000000001
def orW (k : Nat) (p r : Pd) : Pd :=
  if r.w = 0 then p else if p.w = 0 ∨ r.f + 1 < p.f then ⟨min (p.w + r.w) capW, r.f + 1, k⟩ else ⟨min (p.w + r.w) capW, p.f, p.k⟩
def pd0 (a : Nat) : Pd := if a = 0 then ⟨1, 0, 0⟩ else Pd.z
def pdT : Nat → List Nat → Nat → Pd
  | _, [] => pd0
  | k, c :: cs => pass c (fun _ x y => orW k x y) (pdT (k + 1) cs)
/-- What the rounds make that came. -/
def pdF (ps : List (Nat × Nat)) : Nat → Pd := ps.foldl (fun f p => pass p.2 (fun _ x y => orW p.1 x y) f) pd0
theorem pdF_snoc (ps : List (Nat × Nat)) (p : Nat × Nat) : pdF (ps ++ [p]) = pass p.2 (fun _ x y => orW p.1 x y) (pdF ps) := by simp [pdF]

/-- Ways and coins of an amount, within their bounds; where there is none, all is zero. -/
structure PdOk (K : Nat) (a : Nat) (p : Pd) : Prop where
  w : p.w ≤ capW
  f : p.f ≤ a
  k : p.k ≤ K
  z : p.w = 0 → p = Pd.z
theorem PdOk.or {K a c k : Nat} {p r : Pd} (h1 : 1 ≤ c) (hc : c ≤ a) (hk : k ≤ K) (hp : PdOk K a p) (hr : PdOk K (a - c) r) : PdOk K a (orW k p r) := by
  have h2 := hr.f
  have h3 := hp.f
  have h4 := hp.k
  unfold orW
  by_cases e : r.w = 0
  · rw [if_pos e]; exact hp
  · rw [if_neg e]
    have hm : min (p.w + r.w) capW ≤ capW := Nat.min_le_right _ _
    have hm0 : ¬ min (p.w + r.w) capW = 0 := by unfold capW; omega
    split
    · exact ⟨hm, by show r.f + 1 ≤ a; omega, hk, fun h => (hm0 h).elim⟩
    · exact ⟨hm, h3, h4, fun h => (hm0 h).elim⟩
theorem PdOk.pass {K k c : Nat} (hk : k ≤ K) (h1 : 1 ≤ c) {f : Nat → Pd} (hf : ∀ a, PdOk K a (f a)) : ∀ a, PdOk K a (pass c (fun _ x y => orW k x y) f a) := fun a =>
  pass_rel (β := Pd) (γ := Unit) (t := fun _ x _ => x) (g := fun _ => ()) (fun a p _ => PdOk K a p) h1 (fun _ _ _ _ _ hc hx hy => hx.or h1 hc hk hy) a fun j _ => hf j
theorem pd0_ok (K a : Nat) : PdOk K a (pd0 a) := by
  unfold pd0
  split
  · exact ⟨by decide, Nat.zero_le _, Nat.zero_le _, fun h => by cases h⟩
  · exact ⟨by decide, Nat.zero_le _, Nat.zero_le _, fun _ => rfl⟩
theorem pdF_ok {K : Nat} {ps : List (Nat × Nat)} (h : ∀ p ∈ ps, p.1 ≤ K ∧ 1 ≤ p.2) : ∀ a, PdOk K a (pdF ps a) := by
  have gen : ∀ (ps : List (Nat × Nat)) (f : Nat → Pd), (∀ p ∈ ps, p.1 ≤ K ∧ 1 ≤ p.2) → (∀ a, PdOk K a (f a)) → ∀ a, PdOk K a (ps.foldl (fun f p => Go.Proofs.Ytdgadabfahmdmaa.pass p.2 (fun _ x y => orW p.1 x y) f) f a) := by
    intro ps
    induction ps with
    | nil => intro f _ hf a; exact hf a
    | cons p ps ih =>
      intro f hp hf a
      rw [List.foldl_cons]
      exact ih _ (fun q hq => hp q (by simp [hq])) (PdOk.pass (hp p (by simp)).1 (hp p (by simp)).2 hf) a
  exact gen ps pd0 h (pd0_ok K)
theorem pdT_ok : ∀ (cs : List Nat) (k K : Nat), Pos cs → k + cs.length ≤ K → ∀ a, PdOk K a (pdT k cs a) := by
  intro cs
  induction cs with
  | nil => intro k K _ _ a; exact pd0_ok K a
  | cons c cs ih =>
    intro k K hp hk a
    simp only [List.length_cons] at hk
    exact PdOk.pass (by omega) hp.head (ih (k + 1) K hp.tail (by omega)) a

/-- The table tells the fewest coins. -/
def PdFo (a : Nat) (p : Pd) (n : Nat) : Prop := a < big → (p.w = 0 ∧ n = big) ∨ (1 ≤ p.w ∧ p.f = n ∧ n ≤ a)
theorem pdT_fo : ∀ (cs : List Nat) (k : Nat), Pos cs → ∀ a, PdFo a (pdT k cs a) (fo cs a) := by
  intro cs
  induction cs with
  | nil =>
    intro k _ a _
    show ((pd0 a).w = 0 ∧ fo [] a = big) ∨ (1 ≤ (pd0 a).w ∧ (pd0 a).f = fo [] a ∧ fo [] a ≤ a)
    unfold pd0
    rw [fo_nil]
    by_cases h : a = 0
    · rw [if_pos h, if_pos h]; exact .inr ⟨Nat.le_refl _, rfl, Nat.zero_le _⟩
    · rw [if_neg h, if_neg h]; exact .inl ⟨rfl, rfl⟩
  | cons c cs ih =>
    intro k hp a
    refine pass_rel PdFo hp.head (fun a x y x' y' hc hx hy hab => ?_) a fun j _ => ih (k + 1) hp.tail j
    have h1 := hp.head
    have hx := hx hab
    have hy := hy (by omega)
    unfold orW
    rcases hy with ⟨e1, e2⟩ | ⟨e1, e2, e3⟩
    · rw [if_pos e1]
      rcases hx with ⟨g1, g2⟩ | ⟨g1, g2, g3⟩
      · exact .inl ⟨g1, by omega⟩
      · exact .inr ⟨g1, by omega, by omega⟩
    · rw [if_neg (by omega)]
      have hm0 : 1 ≤ min (x.w + y.w) capW := by unfold capW; omega
      split
      · rename_i h
        refine .inr ⟨hm0, ?_, ?_⟩
        · show y.f + 1 = min x' (y' + 1)
          rcases hx with ⟨g1, g2⟩ | ⟨g1, g2, g3⟩ <;> omega
        · omega
      · rename_i h
        refine .inr ⟨hm0, ?_, ?_⟩
        · show x.f = min x' (y' + 1)
          rcases hx with ⟨g1, g2⟩ | ⟨g1, g2, g3⟩ <;> omega
        · omega
theorem pdT_none {cs : List Nat} (hp : Pos cs) (k : Nat) {a : Nat} (ha : a < big) : (pdT k cs a).w = 0 ↔ fo cs a = big := by
  rcases pdT_fo cs k hp a ha with h | h <;> omega
theorem pdT_few {cs : List Nat} (hp : Pos cs) (k : Nat) {a : Nat} (ha : a < big) (h : fo cs a < big) : (pdT k cs a).f = fo cs a ∧ 1 ≤ (pdT k cs a).w := by
  rcases pdT_fo cs k hp a ha with h | h
  · omega
  · exact ⟨h.2.1, h.1⟩
/-- .. and how many ways there are. -/
theorem pdT_wy : ∀ (cs : List Nat) (k : Nat), Pos cs → ∀ a, (pdT k cs a).w = min (wy cs a) capW := by
  intro cs
  induction cs with
  | nil =>
    intro k _ a
    show (pd0 a).w = min (if a = 0 then 1 else 0) capW
    unfold pd0
    by_cases h : a = 0 <;> simp [h, capW, Pd.z]
  | cons c cs ih =>
    intro k hp a
    refine pass_rel (fun _ (p : Pd) (n : Nat) => p.w = min n capW) hp.head (fun a x y x' y' hc hx hy => ?_) a fun j _ => ih (k + 1) hp.tail j
    unfold orW
    by_cases e : y.w = 0
    · rw [if_pos e, hx]; unfold capW at *; omega
    · rw [if_neg e]
      split <;> (show min (x.w + y.w) capW = min (x' + y') capW; rw [hx, hy]; unfold capW; omega)
end Go.Proofs.Ytdgadabfahmdmaa
