/-
  The program's search, plainly: rulers visited one after another, against the model's search; and how long it takes to find something. No condition; no program is spoken of here.
-/
import Derived.Test.YtaihgdecoaajoaaUpu
namespace Go.Proofs.Ytaihgdecoaajoaa

/-- What a visit does. -/
noncomputable def vis (c : Bool) (a : RsR) (x : List Int) : RsR := if okR c x = true then (if a.2 = 0 then x else a.1, a.2 + 1) else a
def vaG (F : List Int → RsR → RsR) (ms : List Int) : Nat → Nat → RsR → RsR
  | 0, _, a => a
  | f + 1, n, a => vaG F ms f (n + 1) (F (ms ++ [(n : Int)]) a)
noncomputable def va (c : Bool) (len : Nat) : Nat → List Int → RsR → RsR
  | 0, ms, a => vis c a (ms ++ [(len : Int)])
  | d + 1, ms, a => vaG (va c len d) ms (len - d - ((lastM ms).toNat + 1)) ((lastM ms).toNat + 1) a
def Nrm (a : RsR) : Prop := 0 ≤ a.2 ∧ (a.2 = 0 → a.1 = [])
theorem nrm_zero : Nrm ([], 0) := ⟨Int.le_refl _, fun _ => rfl⟩
theorem rsS_nrm {a f : RsR} (h : Nrm a) (g : Nrm f) : Nrm (rsS a f) := by
  obtain ⟨h1, h2⟩ := h
  obtain ⟨g1, g2⟩ := g
  refine ⟨by simp only [rsS]; omega, fun e => ?_⟩
  simp only [rsS] at e ⊢
  have ea : a.2 = 0 := by omega
  rw [if_pos ea]
  exact g2 (by omega)
theorem rsS_zero {a : RsR} (h : Nrm a) : rsS a ([], 0) = a := by
  obtain ⟨h1, h2⟩ := h
  unfold rsS
  by_cases e : a.2 = 0
  · rw [if_pos e]
    have := h2 e
    exact Prod.ext this.symm (by simp)
  · rw [if_neg e]
    exact Prod.ext rfl (by simp)
theorem zero_rsS (a : RsR) : rsS ([], 0) a = a := by
  unfold rsS
  exact Prod.ext rfl (by simp)
theorem rsS_assoc {a f g : RsR} (ha : 0 ≤ a.2) (hf : 0 ≤ f.2) : rsS (rsS a f) g = rsS a (rsS f g) := by
  unfold rsS
  refine Prod.ext ?_ (by simp only; omega)
  simp only
  by_cases e : a.2 = 0
  · by_cases e2 : f.2 = 0
    · rw [if_pos (by omega), if_pos e, if_pos e2]
    · rw [if_neg (by omega), if_pos e, if_pos e, if_neg e2]
  · rw [if_neg (by omega), if_neg e, if_neg e]
theorem rsG_nrm {F : List Int → RsR} {c : Bool} {ms : List Int} (hF : ∀ x, Nrm (F x)) : ∀ (f n : Nat) (a : RsR), Nrm a → Nrm (rsG F c ms f n a) := by
  intro f
  induction f with
  | zero => intro n a h; exact h
  | succ f ih =>
    intro n a h
    rw [rsG]
    refine ih _ _ ?_
    split
    · exact h
    · exact rsS_nrm h (hF _)
theorem rs_nrm (c : Bool) (len : Nat) : ∀ (d : Nat) (ms : List Int), Nrm (rs c len d ms) := by
  intro d
  induction d with
  | zero =>
    intro ms
    rw [rs]
    split
    · exact ⟨by simp, fun h => by simp at h⟩
    · exact nrm_zero
  | succ d ih => intro ms; rw [rs]; exact rsG_nrm ih _ _ _ nrm_zero
/-- What isn't sparse doesn't become sparse. -/
theorem spB_push {ms : List Int} {n : Int} (h : spB ms = false) (hn : lastM ms ≤ n) : spB (ms ++ [n]) = false := by
  rw [Bool.eq_false_iff] at h ⊢
  intro g
  apply h
  refine spB_yes fun j hj => ?_
  have g : SpTo (ms ++ [n]) ((lastM (ms ++ [n])).toNat + 1) := by simpa [spB] using g
  have := g j (by rw [lastM_push]; omega)
  rw [tm_snoc] at this
  have := tmB_bd n j ms
  omega
theorem rsG_prune {F : List Int → RsR} {ms : List Int} (h : spB ms = false) : ∀ (f n : Nat) (a : RsR), lastM ms ≤ n → rsG F false ms f n a = a := by
  intro f
  induction f with
  | zero => intro n a _; rfl
  | succ f ih =>
    intro n a hn
    rw [rsG, if_pos ⟨rfl, spB_push h hn⟩]
    exact ih _ _ (by omega)
theorem rs_prune {len d : Nat} {ms : List Int} (h : spB ms = false) (hl : lastM ms ≤ len) : rs false len d ms = ([], 0) := by
  cases d with
  | zero =>
    rw [rs, if_neg]
    unfold okR
    rw [if_neg (by decide), spB_push h hl]
    decide
  | succ d => rw [rs]; exact rsG_prune h _ _ _ (by omega)
theorem vaG_eq {c : Bool} {len d : Nat} {ms : List Int} (ih : ∀ (x : List Int) (a : RsR), Nrm a → lastM x ≤ len → va c len d x a = rsS a (rs c len d x)) :
    ∀ (f n : Nat) (a b : RsR), Nrm a → Nrm b → n + f ≤ len → vaG (va c len d) ms f n (rsS a b) = rsS a (rsG (rs c len d) c ms f n b) := by
  intro f
  induction f with
  | zero => intro n a b _ _ _; rfl
  | succ f ihf =>
    intro n a b ha hb hn
    rw [vaG, rsG, ih _ _ (rsS_nrm ha hb) (by rw [lastM_push]; omega), rsS_assoc ha.1 hb.1]
    split
    · rename_i hc
      rw [hc.1, rs_prune hc.2 (by rw [lastM_push]; omega), rsS_zero hb, ← hc.1]
      exact ihf _ _ _ ha hb (by omega)
    · exact ihf _ _ _ ha (rsS_nrm hb (rs_nrm _ _ _ _)) (by omega)
theorem va_eq (c : Bool) (len : Nat) : ∀ (d : Nat) (ms : List Int) (a : RsR), Nrm a → lastM ms ≤ len → va c len d ms a = rsS a (rs c len d ms) := by
  intro d
  induction d with
  | zero =>
    intro ms a ha _
    rw [va, vis, rs]
    split
    · rfl
    · rw [rsS_zero ha]
  | succ d ih =>
    intro ms a ha hl
    rw [va, rs]
    by_cases hf : (lastM ms).toNat + 1 ≤ len - d
    · have := vaG_eq ih (len - d - ((lastM ms).toNat + 1)) ((lastM ms).toNat + 1) a ([], 0) ha nrm_zero (by omega) (ms := ms)
      rwa [rsS_zero ha] at this
    · rw [show len - d - ((lastM ms).toNat + 1) = 0 by omega, vaG, rsG, rsS_zero ha]

/-- What is found is a ruler that is looked for. -/
structure Fnd (c : Bool) (len B : Nat) (x : List Int) : Prop where
  ok : okR c x = true
  rul : Rul x
  last : lastM x = len
  cnt : x.length = B
def InvF (c : Bool) (len B : Nat) (a : RsR) : Prop := 0 ≤ a.2 ∧ (0 < a.2 → Fnd c len B a.1)
theorem rsS_fnd {c : Bool} {len B : Nat} {a f : RsR} (h : InvF c len B a) (g : InvF c len B f) : InvF c len B (rsS a f) := by
  obtain ⟨h1, h2⟩ := h
  obtain ⟨g1, g2⟩ := g
  refine ⟨by simp only [rsS]; omega, fun hp => ?_⟩
  simp only [rsS] at hp ⊢
  by_cases e : a.2 = 0
  · rw [if_pos e]; exact g2 (by omega)
  · rw [if_neg e]; exact h2 (by omega)
theorem rsG_fnd {F : List Int → RsR} {c : Bool} {ms : List Int} {len B : Nat} : ∀ (f n : Nat) (a : RsR), InvF c len B a → (∀ k, n ≤ k → k < n + f → InvF c len B (F (ms ++ [(k : Int)]))) → InvF c len B (rsG F c ms f n a) := by
  intro f
  induction f with
  | zero => intro n a h _; exact h
  | succ f ih =>
    intro n a h hF
    rw [rsG]
    refine ih (n + 1) _ ?_ fun k h1 h2 => hF k (by omega) (by omega)
    split
    · exact h
    · exact rsS_fnd h (hF n (Nat.le_refl _) (by omega))
theorem rs_fnd {c : Bool} {len : Nat} : ∀ (d : Nat) (ms : List Int), Beg ms len → InvF c len (ms.length + d + 1) (rs c len d ms) := by
  intro d
  induction d with
  | zero =>
    intro ms hB
    rw [rs]
    split
    · rename_i hk
      exact ⟨by simp, fun _ => ⟨hk, hB.rul hB.lt (by have := hB.le; omega), lastM_push _ _, by simp⟩⟩
    · exact ⟨by simp, fun h => by simp at h⟩
  | succ d ih =>
    intro ms hB
    have h0 := hB.last0
    rw [rs]
    refine rsG_fnd _ _ _ ⟨by simp, fun h => by simp at h⟩ fun k h1 h2 => ?_
    have := ih (ms ++ [(k : Int)]) (hB.push (by omega) (by omega))
    rwa [List.length_append, List.length_singleton, show ms.length + 1 + d + 1 = ms.length + (d + 1) + 1 by omega] at this
theorem beg_zero {len : Nat} (h1 : 1 ≤ len) (h2 : len ≤ 20) : Beg [0] len :=
  ⟨by simp, rfl, ⟨fun j hj => by have : j = 0 := by simpa using hj
                                 subst this; simp, fun j hj => by simp at hj⟩, by simp [lastM]; omega, h2⟩
theorem found {c : Bool} {len d : Nat} (h1 : 1 ≤ len) (h2 : len ≤ 20) (h : 0 < (rs c len d [0]).2) : Fnd c len (d + 2) (rs c len d [0]).1 := by
  have := (rs_fnd (c := c) d [0] (beg_zero h1 h2)).2 h
  simpa [Nat.add_comm, Nat.add_left_comm] using this

/-- How often the lengths 1, .. l are measured, all together. -/
def sT (ms : List Int) : Nat → Int
  | 0 => 0
  | l + 1 => sT ms l + tm ms ((l + 1 : Nat) : Int)
def sB (ms : List Int) (b : Int) : Nat → Int
  | 0 => 0
  | l + 1 => sB ms b l + tmB ms b ((l + 1 : Nat) : Int)
theorem sT_snoc (ms : List Int) (b : Int) : ∀ l, sT (ms ++ [b]) l = sT ms l + sB ms b l := by
  intro l
  induction l with
  | zero => rfl
  | succ l ih => simp only [sT, sB, ih, tm_snoc]; omega
theorem sB_cons (a : Int) (t : List Int) (b : Int) : ∀ l : Nat, sB (a :: t) b l = sB t b l + if 1 ≤ b - a ∧ b - a ≤ l then 1 else 0 := by
  intro l
  induction l with
  | zero => simp only [sB]; split <;> omega
  | succ l ih =>
    simp only [sB, ih, tmB]
    split <;> split <;> split <;> omega
theorem sB_le (b : Int) (l : Nat) : ∀ ms : List Int, sB ms b l ≤ ms.length := by
  intro ms
  induction ms with
  | nil =>
    have : ∀ l, sB [] b l = 0 := by intro l; induction l with
      | zero => rfl
      | succ l ih => simp only [sB, ih, tmB]; rfl
    rw [this]; simp
  | cons a t ih => rw [sB_cons, List.length_cons]; split <;> omega
theorem sB_all {b : Int} {l : Nat} : ∀ ms : List Int, (∀ a ∈ ms, 1 ≤ b - a ∧ b - a ≤ l) → (ms.length : Int) ≤ sB ms b l := by
  intro ms
  induction ms with
  | nil =>
    intro _
    have : ∀ l, sB [] b l = 0 := by intro l; induction l with
      | zero => rfl
      | succ l ih => simp only [sB, ih, tmB]; rfl
    rw [this]; simp
  | cons a t ih =>
    intro h
    rw [sB_cons, List.length_cons, if_pos (h a (by simp))]
    have := ih fun x hx => h x (by simp [hx])
    omega
/-- How many pairs i marks have. -/
def prs : Nat → Nat
  | 0 => 0
  | i + 1 => prs i + i
theorem prs_eq : ∀ i, prs i = i * (i - 1) / 2 := by
  intro i
  have h : 2 * prs i = i * (i - 1) := by
    induction i with
    | zero => rfl
    | succ i ih =>
      rw [prs, Nat.mul_add, ih]
      cases i with
      | zero => rfl
      | succ i => simp only [Nat.add_sub_cancel, Nat.mul_add, Nat.add_mul]; omega
  omega
theorem sT_nil : ∀ l, sT [] l = 0 := by
  intro l
  induction l with
  | zero => rfl
  | succ l ih => simp only [sT, ih]; rfl
theorem sT_le (ms : List Int) (l : Nat) : ∀ i, i ≤ ms.length → sT (ms.take i) l ≤ prs i := by
  intro i
  induction i with
  | zero => intro _; rw [List.take_zero, sT_nil]; simp [prs]
  | succ i ih =>
    intro hi
    rw [take_push hi, sT_snoc, prs]
    have h1 := ih (by omega)
    have h2 := sB_le (ms.getD i 0) l (ms.take i)
    rw [List.length_take] at h2
    omega
theorem sT_ge {ms : List Int} (h : Rul ms) : ∀ i, i ≤ ms.length → (prs i : Int) ≤ sT (ms.take i) (lastM ms).toNat := by
  intro i
  induction i with
  | zero => intro _; rw [List.take_zero, sT_nil]; simp [prs]
  | succ i ih =>
    intro hi
    rw [take_push hi, sT_snoc, prs]
    have h1 := ih (by omega)
    have h2 := sB_all (b := ms.getD i 0) (l := (lastM ms).toNat) (ms.take i) fun a ha => by
      rw [List.mem_take_iff_getElem] at ha
      obtain ⟨j, hj, rfl⟩ := ha
      have h3 := h.diff (i := j) (j := i) (by omega) (by omega)
      have e : ms.getD j 0 = ms[j] := by rw [List.getD_eq_getElem?_getD, List.getElem?_eq_getElem (by omega)]; rfl
      omega
    rw [List.length_take] at h2
    omega
theorem sT_comp {ms : List Int} : ∀ l : Nat, (∀ j : Nat, 0 < j → j ≤ l → 0 < tm ms j) → (l : Int) ≤ sT ms l := by
  intro l
  induction l with
  | zero => intro _; simp [sT]
  | succ l ih =>
    intro h
    have h1 := ih fun j a b => h j a (by omega)
    have h2 := h (l + 1) (by omega) (by omega)
    simp only [sT]
    omega
theorem sT_sparse {ms : List Int} : ∀ l : Nat, (∀ j : Nat, j ≤ l → tm ms j ≤ 1) → sT ms l ≤ l := by
  intro l
  induction l with
  | zero => intro _; simp [sT]
  | succ l ih =>
    intro h
    have h1 := ih fun j b => h j (by omega)
    have h2 := h (l + 1) (by omega)
    simp only [sT]
    omega
/-- So few marks measure too few lengths. -/
theorem few_none {len m : Nat} (h1 : 1 ≤ len) (h2 : len ≤ 20) (h : (m + 2) * (m + 1) / 2 < len) : ¬ 0 < (rs true len m [0]).2 := by
  intro g
  have F := found h1 h2 g
  obtain ⟨x, ex⟩ : ∃ x, (rs true len m [0]).1 = x := ⟨_, rfl⟩
  rw [ex] at F
  have hl := F.rul.last_bd
  have hc := F.ok
  unfold okR at hc
  rw [if_pos rfl, decide_eq_true_eq, wi_nil_iff, F.last, Int.toNat_natCast] at hc
  have a1 := sT_comp (ms := x) len fun j a b => hc j a (by omega)
  have a2 := sT_le x len x.length (Nat.le_refl _)
  rw [List.take_length, F.cnt, prs_eq, show m + 2 - 1 = m + 1 by omega] at a2
  omega
/-- So short rulers measure a length twice. -/
theorem short_none {len m : Nat} (h1 : 1 ≤ len) (h2 : len ≤ 20) (hm : 2 ≤ m) (h : len < m * (m - 1) / 2) : ¬ 0 < (rs false len (m - 2) [0]).2 := by
  intro g
  have F := found h1 h2 g
  obtain ⟨x, ex⟩ : ∃ x, (rs false len (m - 2) [0]).1 = x := ⟨_, rfl⟩
  rw [ex] at F
  have hc := F.ok
  unfold okR at hc
  rw [if_neg (by decide)] at hc
  have hc : SpTo x ((lastM x).toNat + 1) := by simpa [spB] using hc
  have a1 := sT_sparse (ms := x) (lastM x).toNat fun j b => hc j (by omega)
  have a2 := sT_ge F.rul x.length (Nat.le_refl _)
  have hl := F.last
  rw [List.take_length, F.cnt, prs_eq, show m - 2 + 2 = m by omega] at a2
  omega

/-- The least number with a property. -/
noncomputable def lstD (P : Nat → Prop) : Nat := @dite _ (∃ d, P d ∧ ∀ e, e < d → ¬ P e) (Classical.propDecidable _) (fun h => h.choose) (fun _ => 0)
theorem lstD_eq {P : Nat → Prop} {d : Nat} (h : P d) (g : ∀ e, e < d → ¬ P e) : lstD P = d := by
  have hx : ∃ d, P d ∧ ∀ e, e < d → ¬ P e := ⟨d, h, g⟩
  unfold lstD
  rw [dif_pos hx]
  have hc := hx.choose_spec
  by_cases e1 : hx.choose < d
  · exact absurd hc.1 (g _ e1)
  · by_cases e2 : d < hx.choose
    · exact absurd h (hc.2 _ e2)
    · omega
theorem least_ex {P : Nat → Prop} {n : Nat} (h : P n) : ∃ l, P l ∧ ∀ e, e < l → ¬ P e := by
  induction n using Nat.strongRecOn with
  | ind n ih =>
    by_cases g : ∃ e, e < n ∧ P e
    · obtain ⟨e, he, hp⟩ := g
      exact ih e he hp
    · exact ⟨n, h, fun e he hp => g ⟨e, he, hp⟩⟩
/-- How many marks between its ends the first complete ruler of a length has, and how long the shortest sparse ruler is. -/
noncomputable def cmD (len : Nat) : Nat := lstD fun d => 0 < (rs true len d [0]).2
noncomputable def shL (m : Nat) : Nat := lstD fun l => 1 ≤ l ∧ 0 < (rs false l (m - 2) [0]).2
noncomputable def cmA (a : Int) : RsR := if inB a 1 20 = true then rs true a.toNat (cmD a.toNat) [0] else ([], 0)
noncomputable def fmR (a : Int) : Int := ((cmA a).1.length : Int)
noncomputable def fcR (a : Int) : List Int := (cmA a).1
noncomputable def ccR (a : Int) : Int := (cmA a).2
noncomputable def fsR (a : Int) : List Int := if inB a 2 6 = true then (rs false (shL a.toNat) (a.toNat - 2) [0]).1 else []
noncomputable def ssR (a : Int) : Int := if inB a 2 6 = true then lastM (fsR a) else 0
theorem cm_pos {len : Nat} (h1 : 1 ≤ len) : 0 < (rs true len (len - 1) [0]).2 := by
  have := seq_pos len (len - 1) 0 (by omega)
  exact this
theorem golL_bd {m : Nat} (_h2 : 2 ≤ m) (_h6 : m ≤ 6) : 1 ≤ golL m ∧ golL m ≤ 17 ∧ m * (m - 1) / 2 ≤ golL m := by
  have h : m = 2 ∨ m = 3 ∨ m = 4 ∨ m = 5 ∨ m = 6 := by omega
  rcases h with rfl | rfl | rfl | rfl | rfl <;> decide
end Go.Proofs.Ytaihgdecoaajoaa
