/-
  The first change out of a purse, plainly. No condition; no program is spoken of here.
-/
import Derived.Test.YtdgadabfahmdmaaVbp
namespace Go.Proofs.Ytdgadabfahmdmaa

/-- How many of a coin are taken for an amount, at least, or -1. -/
def us (c p : Nat) (f : Nat → Bool) : Nat → Int := pass c (fun _ x y => if 0 ≤ x then x else if 0 ≤ y ∧ y < (p : Int) then y + 1 else -1) (fun a => if f a = true then 0 else -1)
theorem us_yes {c p : Nat} {f : Nat → Bool} {a : Nat} (h1 : 1 ≤ c) (h : f a = true) : us c p f a = 0 := by
  by_cases hc : c ≤ a
  · show pass c _ _ a = _
    rw [pass_high h1 hc, if_pos h]; rfl
  · show pass c _ _ a = _
    rw [pass_low (by omega), if_pos h]
theorem us_low {c p : Nat} {f : Nat → Bool} {a : Nat} (h : f a = false) (hc : a < c) : us c p f a = -1 := by
  show pass c _ _ a = _
  rw [pass_low hc, h]; rfl
theorem us_high {c p : Nat} {f : Nat → Bool} {a : Nat} (h1 : 1 ≤ c) (h : f a = false) (hc : c ≤ a) : us c p f a = if 0 ≤ us c p f (a - c) ∧ us c p f (a - c) < (p : Int) then us c p f (a - c) + 1 else -1 := by
  show pass c _ _ a = _
  rw [pass_high h1 hc, h]; rfl
theorem us_bd {c p : Nat} {f : Nat → Bool} (h1 : 1 ≤ c) (a : Nat) : -1 ≤ us c p f a ∧ us c p f a ≤ p ∧ us c p f a ≤ a := by
  refine pass_rel (β := Int) (γ := Unit) (t := fun _ x _ => x) (g := fun _ => ()) (fun a u _ => -1 ≤ u ∧ u ≤ p ∧ u ≤ a) h1 (fun a x y _ _ hc hx hy => ?_) a fun j _ => ?_
  · split
    · exact hx
    · split <;> omega
  · split <;> omega
theorem us_zero {c p : Nat} {f : Nat → Bool} {a : Nat} (h1 : 1 ≤ c) (h : us c p f a = 0) : f a = true := by
  cases e : f a with
  | true => rfl
  | false =>
    by_cases hc : c ≤ a
    · rw [us_high h1 e hc] at h
      split at h <;> omega
    · rw [us_low e (by omega)] at h; omega
theorem us_next {c p : Nat} {f : Nat → Bool} {a : Nat} (h1 : 1 ≤ c) (h : f a = false) (h0 : 0 ≤ us c p f a) : c ≤ a ∧ 0 ≤ us c p f (a - c) ∧ us c p f (a - c) < (p : Int) ∧ us c p f a = us c p f (a - c) + 1 := by
  by_cases hc : c ≤ a
  · have e := us_high (p := p) h1 h hc
    rw [e] at h0
    split at h0
    · rename_i g
      rw [if_pos g] at e
      exact ⟨hc, g.1, g.2, e⟩
    · omega
  · rw [us_low h (by omega)] at h0; omega
theorem us_told {c p : Nat} {f : Nat → Bool} (h1 : 1 ≤ c) : ∀ (n a : Nat), us c p f a = n → n * c ≤ a ∧ f (a - n * c) = true ∧ n ≤ p := by
  intro n
  induction n with
  | zero => intro a h; rw [Nat.zero_mul]; exact ⟨Nat.zero_le _, us_zero h1 h, Nat.zero_le _⟩
  | succ n ih =>
    intro a h
    have hf : f a = false := by
      cases e : f a with
      | false => rfl
      | true => rw [us_yes h1 e] at h; omega
    obtain ⟨g1, g2, g3, g4⟩ := us_next (p := p) h1 hf (by omega)
    obtain ⟨k1, k2, k3⟩ := ih (a - c) (by omega)
    have e : (n + 1) * c = n * c + c := Nat.succ_mul n c
    rw [e]
    refine ⟨by omega, ?_, by omega⟩
    rw [show a - (n * c + c) = a - c - n * c by omega]; exact k2
theorem us_least {c p : Nat} {f : Nat → Bool} (h1 : 1 ≤ c) : ∀ (n a : Nat), n ≤ p → n * c ≤ a → f (a - n * c) = true → 0 ≤ us c p f a ∧ us c p f a ≤ n := by
  intro n
  induction n with
  | zero => intro a _ _ h; rw [Nat.zero_mul, Nat.sub_zero] at h; rw [us_yes h1 h]; omega
  | succ n ih =>
    intro a hn ha h
    have e : (n + 1) * c = n * c + c := Nat.succ_mul n c
    rw [e] at ha h
    cases hf : f a with
    | true => rw [us_yes h1 hf]; omega
    | false =>
      obtain ⟨k1, k2⟩ := ih (a - c) (by omega) (by omega) (by rw [show a - c - n * c = a - (n * c + c) by omega]; exact h)
      rw [us_high h1 hf (by omega), if_pos ⟨k1, by omega⟩]
      omega
def cn (c p : Nat) (f : Nat → Bool) (a : Nat) : Bool := decide (0 ≤ us c p f a)
theorem cn_iff {c p : Nat} {f : Nat → Bool} {a : Nat} (h1 : 1 ≤ c) : cn c p f a = true ↔ ∃ m, m ≤ p ∧ m * c ≤ a ∧ f (a - m * c) = true := by
  unfold cn
  rw [decide_eq_true_iff]
  constructor
  · intro h
    obtain ⟨n, hn⟩ : ∃ n : Nat, us c p f a = n := ⟨(us c p f a).toNat, by omega⟩
    obtain ⟨k1, k2, k3⟩ := us_told h1 n a hn
    exact ⟨n, k3, k1, k2⟩
  · rintro ⟨m, h2, h3, h4⟩
    exact (us_least h1 m a h2 h3 h4).1
theorem cn_comm {c d p q : Nat} (hc : 1 ≤ c) (hd : 1 ≤ d) (f : Nat → Bool) : cn c p (cn d q f) = cn d q (cn c p f) := by
  have one : ∀ (c d p q : Nat), 1 ≤ c → 1 ≤ d → ∀ a, cn c p (cn d q f) a = true → cn d q (cn c p f) a = true := by
    intro c d p q hc hd a h
    obtain ⟨m, h1, h2, h3⟩ := (cn_iff hc).1 h
    obtain ⟨n, g1, g2, g3⟩ := (cn_iff hd).1 h3
    refine (cn_iff hd).2 ⟨n, g1, by omega, (cn_iff hc).2 ⟨m, h1, by omega, ?_⟩⟩
    rw [show a - n * d - m * c = a - m * c - n * d by omega]; exact g3
  funext a
  rw [Bool.eq_iff_iff]
  exact ⟨one c d p q hc hd a, one d c q p hd hc a⟩
/-- What is paid out of a purse, kind for kind from the last on. -/
def cB : List Nat → List Nat → Nat → Bool
  | c :: cs, p :: ps => cn c p (cB cs ps)
  | _, _ => fun a => decide (a = 0)
def cF (zs : List (Nat × Nat)) (f : Nat → Bool) : Nat → Bool := zs.foldl (fun f z => cn z.1 z.2 f) f
theorem cF_snoc (zs : List (Nat × Nat)) (z : Nat × Nat) (f : Nat → Bool) : cF (zs ++ [z]) f = cn z.1 z.2 (cF zs f) := by simp [cF]
theorem cF_cn {c p : Nat} (h1 : 1 ≤ c) : ∀ (zs : List (Nat × Nat)), (∀ z ∈ zs, 1 ≤ z.1) → ∀ f, cF zs (cn c p f) = cn c p (cF zs f) := by
  intro zs
  induction zs with
  | nil => intro _ f; rfl
  | cons z zs ih =>
    intro h f
    show cF zs (cn z.1 z.2 (cn c p f)) = cn c p (cF zs (cn z.1 z.2 f))
    rw [cn_comm (h z (by simp)) h1, ih (fun y hy => h y (by simp [hy]))]
theorem cF_cB : ∀ (cs ps : List Nat), Pos cs → cF (cs.zip ps) (fun a => decide (a = 0)) = cB cs ps := by
  intro cs
  induction cs with
  | nil => intro ps _; rfl
  | cons c cs ih =>
    intro ps hp
    cases ps with
    | nil => rfl
    | cons p ps =>
      show cF (cs.zip ps) (cn c p (fun a => decide (a = 0))) = cn c p (cB cs ps)
      rw [cF_cn hp.head _ (fun z hz => by
        have := List.of_mem_zip hz
        exact hp.tail _ this.1), ih ps hp.tail]
theorem cB_zero : ∀ (cs ps : List Nat), Pos cs → cB cs ps 0 = true := by
  intro cs
  induction cs with
  | nil => intro ps _; rfl
  | cons c cs ih =>
    intro ps hp
    cases ps with
    | nil => rfl
    | cons p ps =>
      show decide (0 ≤ us c p (cB cs ps) 0) = true
      rw [us_yes hp.head (ih ps hp.tail)]; rfl
theorem cB_cons (c p : Nat) (cs ps : List Nat) (a : Nat) : cB (c :: cs) (p :: ps) a = decide (0 ≤ us c p (cB cs ps) a) := rfl
/-- The first change. -/
def pf : List Nat → List Nat → Nat → List Nat
  | c :: cs, p :: ps => fun a => (us c p (cB cs ps) a).toNat :: pf cs ps (a - (us c p (cB cs ps) a).toNat * c)
  | _, _ => fun _ => []
theorem pf_len : ∀ (cs ps : List Nat), cs.length = ps.length → ∀ a, (pf cs ps a).length = cs.length := by
  intro cs
  induction cs with
  | nil => intro ps _ a; cases ps <;> rfl
  | cons c cs ih =>
    intro ps h a
    cases ps with
    | nil => simp at h
    | cons p ps => simp only [List.length_cons] at h; simp only [pf, List.length_cons]; rw [ih ps (by omega)]
theorem pf_zero : ∀ (cs ps : List Nat), Pos cs → cs.length = ps.length → pf cs ps 0 = List.replicate cs.length 0 := by
  intro cs
  induction cs with
  | nil => intro ps _ _; cases ps <;> rfl
  | cons c cs ih =>
    intro ps hp h
    cases ps with
    | nil => simp at h
    | cons p ps =>
      simp only [List.length_cons] at h
      have e := us_yes (p := p) hp.head (cB_zero cs ps hp.tail)
      show (us c p (cB cs ps) 0).toNat :: pf cs ps (0 - _) = _
      rw [Nat.zero_sub, ih ps hp.tail (by omega), e]; rfl
theorem pf_yes {c p : Nat} {cs ps : List Nat} {a : Nat} (h1 : 1 ≤ c) (h : cB cs ps a = true) : pf (c :: cs) (p :: ps) a = 0 :: pf cs ps a := by
  have e := us_yes (p := p) h1 h
  show (us c p (cB cs ps) a).toNat :: pf cs ps (a - (us c p (cB cs ps) a).toNat * c) = _
  rw [e]; simp
theorem pf_at {c p n : Nat} {cs ps : List Nat} {a : Nat} (h : us c p (cB cs ps) a = n) : pf (c :: cs) (p :: ps) a = n :: pf cs ps (a - n * c) := by
  show (us c p (cB cs ps) a).toNat :: pf cs ps (a - (us c p (cB cs ps) a).toNat * c) = _
  rw [h]; simp
theorem pf_next {c p : Nat} {cs ps : List Nat} {a : Nat} (h1 : 1 ≤ c) (hf : cB cs ps a = false) (h : cB (c :: cs) (p :: ps) a = true) :
    c ≤ a ∧ cB (c :: cs) (p :: ps) (a - c) = true ∧ pf (c :: cs) (p :: ps) a = inc (pf (c :: cs) (p :: ps) (a - c)) := by
  rw [cB_cons, decide_eq_true_iff] at h
  obtain ⟨g1, g2, g3, g4⟩ := us_next h1 hf h
  obtain ⟨n, hn⟩ : ∃ n : Nat, us c p (cB cs ps) (a - c) = n := ⟨(us c p (cB cs ps) (a - c)).toNat, by omega⟩
  refine ⟨g1, by rw [cB_cons]; simpa using g2, ?_⟩
  rw [pf_at hn, pf_at (n := n + 1) (by rw [g4, hn]; rfl)]
  show _ = (n + 1) :: _
  rw [Nat.succ_mul, show a - (n * c + c) = a - c - n * c by omega]
/-- The model: coins of the first kind are taken while the others cannot do. -/
theorem pf_take {c p : Nat} {cs ps : List Nat} (h1 : 1 ≤ c) {a t : Nat} {L : List Nat} (hL : L = addH t (pf (c :: cs) (p :: ps) a)) (hf : cB cs ps a = false) (h : cB (c :: cs) (p :: ps) a = true) :
    c ≤ a ∧ cB (c :: cs) (p :: ps) (a - c) = true ∧ L = addH (t + 1) (pf (c :: cs) (p :: ps) (a - c)) := by
  obtain ⟨g1, g2, g3⟩ := pf_next h1 hf h
  refine ⟨g1, g2, ?_⟩
  rw [hL, g3]
  cases pf (c :: cs) (p :: ps) (a - c) with
  | nil => rfl
  | cons x l => simp [inc, addH]; omega
theorem pf_leave {c p : Nat} {cs ps : List Nat} (h1 : 1 ≤ c) {a t : Nat} {L : List Nat} (hL : L = addH t (pf (c :: cs) (p :: ps) a)) (hf : cB cs ps a = true) : L = t :: pf cs ps a := by
  rw [hL, pf_yes h1 hf]; simp [addH]

/-- The program's table: the first kind of the first change, and how many of it. -/
structure Dr where
  k : Nat
  t : Nat
def Dr.z : Dr := ⟨0, 0⟩
def drW (k p : Nat) (d : Dr) : Dr :=
  if (d.k = 0 ∧ d.t = 0) ∨ p < (if d.k = k then d.t + 1 else 1) then Dr.z else ⟨k, if d.k = k then d.t + 1 else 1⟩
def drS (k p : Nat) (x y : Dr) : Dr := if x.k = 0 ∧ x.t = 0 then drW k p y else x
def dr0 (K a : Nat) : Dr := if a = 0 then ⟨K, 0⟩ else Dr.z
def drT : Nat → List Nat → List Nat → Nat → Dr
  | k, c :: cs, p :: ps => pass c (fun _ x y => drS k p x y) (drT (k + 1) cs ps)
  | k, _, _ => dr0 k
def drF (K : Nat) (rs : List (Nat × Nat × Nat)) : Nat → Dr := rs.foldl (fun f r => pass r.2.1 (fun _ x y => drS r.1 r.2.2 x y) f) (dr0 K)
theorem drF_snoc (K : Nat) (rs : List (Nat × Nat × Nat)) (r : Nat × Nat × Nat) : drF K (rs ++ [r]) = pass r.2.1 (fun _ x y => drS r.1 r.2.2 x y) (drF K rs) := by simp [drF]
structure DrOk (K a : Nat) (d : Dr) : Prop where
  k : d.k ≤ K
  t : d.t ≤ a
theorem DrOk.step {K a c k p : Nat} {x y : Dr} (h1 : 1 ≤ c) (hc : c ≤ a) (hk : k ≤ K) (hx : DrOk K a x) (hy : DrOk K (a - c) y) : DrOk K a (drS k p x y) := by
  have := hy.t
  unfold drS drW
  by_cases hz : x.k = 0 ∧ x.t = 0
  · rw [if_pos hz]
    have ht : (if y.k = k then y.t + 1 else 1) ≤ a := by split <;> omega
    by_cases h2 : (y.k = 0 ∧ y.t = 0) ∨ p < (if y.k = k then y.t + 1 else 1)
    · rw [if_pos h2]; exact ⟨Nat.zero_le _, Nat.zero_le _⟩
    · rw [if_neg h2]; exact ⟨hk, ht⟩
  · rw [if_neg hz]; exact hx
theorem DrOk.pass {K k p c : Nat} (hk : k ≤ K) (h1 : 1 ≤ c) {f : Nat → Dr} (hf : ∀ a, DrOk K a (f a)) : ∀ a, DrOk K a (pass c (fun _ x y => drS k p x y) f a) := fun a =>
  pass_rel (β := Dr) (γ := Unit) (t := fun _ x _ => x) (g := fun _ => ()) (fun a d _ => DrOk K a d) h1 (fun _ _ _ _ _ hc hx hy => DrOk.step h1 hc hk hx hy) a fun j _ => hf j
theorem dr0_ok {K M : Nat} (h : K ≤ M) (a : Nat) : DrOk M a (dr0 K a) := by
  unfold dr0
  split
  · exact ⟨h, Nat.zero_le _⟩
  · exact ⟨Nat.zero_le _, Nat.zero_le _⟩
theorem drF_ok {K M : Nat} (hKM : K ≤ M) {rs : List (Nat × Nat × Nat)} (h : ∀ r ∈ rs, r.1 ≤ M ∧ 1 ≤ r.2.1) : ∀ a, DrOk M a (drF K rs a) := by
  have gen : ∀ (rs : List (Nat × Nat × Nat)) (f : Nat → Dr), (∀ r ∈ rs, r.1 ≤ M ∧ 1 ≤ r.2.1) → (∀ a, DrOk M a (f a)) → ∀ a, DrOk M a (rs.foldl (fun f r => Go.Proofs.Ytdgadabfahmdmaa.pass r.2.1 (fun _ x y => drS r.1 r.2.2 x y) f) f a) := by
    intro rs
    induction rs with
    | nil => intro f _ hf a; exact hf a
    | cons p ps ih =>
      intro f hp hf a
      rw [List.foldl_cons]
      exact ih _ (fun q hq => hp q (by simp [hq])) (DrOk.pass (hp p (by simp)).1 (hp p (by simp)).2 hf) a
  exact gen rs (dr0 K) h (dr0_ok hKM)
def DrUs (k : Nat) (g : Nat → Dr) (a : Nat) (x : Dr) (u : Int) : Prop := (u = -1 ∧ x = Dr.z) ∨ (u = 0 ∧ k + 1 ≤ x.k ∧ x = g a) ∨ (1 ≤ u ∧ x.k = k ∧ (x.t : Int) = u)
def DrCan (k : Nat) (x : Dr) (b : Bool) : Prop := (b = false ∧ x = Dr.z) ∨ (b = true ∧ k ≤ x.k ∧ ¬ (x.k = 0 ∧ x.t = 0))
theorem drS_z (k p : Nat) (y : Dr) : drS k p Dr.z y = drW k p y := if_pos ⟨rfl, rfl⟩
theorem drS_x {k p : Nat} {x y : Dr} (h : ¬ (x.k = 0 ∧ x.t = 0)) : drS k p x y = x := if_neg h
theorem drW_z (k p : Nat) : drW k p Dr.z = Dr.z := if_pos (.inl ⟨rfl, rfl⟩)
theorem drW_no {k p : Nat} {y : Dr} (h : p < (if y.k = k then y.t + 1 else 1)) : drW k p y = Dr.z := if_pos (.inr h)
theorem drW_o {k p : Nat} {y : Dr} (h : ¬ y.k = k) (hn : ¬ (y.k = 0 ∧ y.t = 0)) (hp : 1 ≤ p) : drW k p y = ⟨k, 1⟩ := by
  unfold drW; rw [if_neg h, if_neg (by intro g; rcases g with g | g; exact hn g; omega)]
theorem drW_k {k p : Nat} {y : Dr} (h : y.k = k) (hn : ¬ (y.k = 0 ∧ y.t = 0)) (hp : y.t + 1 ≤ p) : drW k p y = ⟨k, y.t + 1⟩ := by
  unfold drW; rw [if_pos h, if_neg (by intro g; rcases g with g | g; exact hn g; omega)]
theorem dr_us {k c p : Nat} {g : Nat → Dr} {f : Nat → Bool} (h1 : 1 ≤ c) (h : ∀ a, DrCan (k + 1) (g a) (f a)) (a : Nat) : DrUs k g a (pass c (fun _ x y => drS k p x y) g a) (us c p f a) := by
  refine pass_rel (DrUs k g) h1 (fun a x y u v hc hx hy => ?_) a fun j _ => ?_
  · rcases hx with ⟨x1, x2⟩ | ⟨x1, x2, x3⟩ | ⟨x1, x2, x3⟩
    · subst x2 x1
      rw [drS_z]
      have e0 : (if (0 : Int) ≤ -1 then (-1 : Int) else if 0 ≤ v ∧ v < (p : Int) then v + 1 else -1) = if 0 ≤ v ∧ v < (p : Int) then v + 1 else -1 := if_neg (by decide)
      show DrUs k g a _ (if (0 : Int) ≤ -1 then (-1 : Int) else if 0 ≤ v ∧ v < (p : Int) then v + 1 else -1)
      rw [e0]
      rcases hy with ⟨y1, y2⟩ | ⟨y1, y2, y3⟩ | ⟨y1, y2, y3⟩
      · rw [y2, drW_z, if_neg (by omega)]
        exact .inl ⟨rfl, rfl⟩
      · have e : ¬ y.k = k := by omega
        by_cases hp : p < 1
        · rw [drW_no (by rw [if_neg e]; exact hp), if_neg (by omega)]
          exact .inl ⟨rfl, rfl⟩
        · rw [drW_o e (by omega) (by omega), if_pos (by omega)]
          exact .inr (.inr ⟨by omega, rfl, by show ((1 : Nat) : Int) = v + 1; omega⟩)
      · by_cases hp : p < y.t + 1
        · rw [drW_no (by rw [if_pos y2]; exact hp), if_neg (by omega)]
          exact .inl ⟨rfl, rfl⟩
        · rw [drW_k y2 (by omega) (by omega), if_pos (by omega)]
          exact .inr (.inr ⟨by omega, rfl, by show ((y.t + 1 : Nat) : Int) = v + 1; omega⟩)
    · rw [drS_x (by omega), if_pos (by omega)]
      exact .inr (.inl ⟨x1, x2, x3⟩)
    · rw [drS_x (by omega), if_pos (by omega)]
      exact .inr (.inr ⟨x1, x2, x3⟩)
  · rcases h j with ⟨g1, g2⟩ | ⟨g1, g2, g3⟩
    · rw [g1]; exact .inl ⟨rfl, g2⟩
    · rw [g1]; exact .inr (.inl ⟨rfl, g2, rfl⟩)
theorem dr_can : ∀ (cs ps : List Nat) (k : Nat), Pos cs → cs.length = ps.length → 1 ≤ k + cs.length → ∀ a, DrCan k (drT k cs ps a) (cB cs ps a) := by
  intro cs
  induction cs with
  | nil =>
    intro ps k _ _ hk a
    show DrCan k (dr0 k a) (decide (a = 0))
    simp only [List.length_nil] at hk
    unfold dr0
    by_cases e : a = 0
    · rw [if_pos e]; exact .inr ⟨by simp [e], Nat.le_refl _, fun h => by have : k = 0 := h.1; omega⟩
    · rw [if_neg e]; exact .inl ⟨by simp [e], rfl⟩
  | cons c cs ih =>
    intro ps k hp hl hk a
    cases ps with
    | nil => simp at hl
    | cons p ps =>
      simp only [List.length_cons] at hl
      rcases dr_us (p := p) hp.head (ih ps (k + 1) hp.tail (by omega) (by omega)) a with ⟨h1, h2⟩ | ⟨h1, h2, h3⟩ | ⟨h1, h2, h3⟩
      · exact .inl ⟨by rw [cB_cons, h1]; rfl, h2⟩
      · refine .inr ⟨by rw [cB_cons, h1]; rfl, ?_, ?_⟩
        · show k ≤ (Go.Proofs.Ytdgadabfahmdmaa.pass c (fun _ x y => drS k p x y) (drT (k + 1) cs ps) a).k; omega
        · intro h
          have : (Go.Proofs.Ytdgadabfahmdmaa.pass c (fun _ x y => drS k p x y) (drT (k + 1) cs ps) a).k = 0 := h.1
          omega
      · refine .inr ⟨by rw [cB_cons]; simp; omega, ?_, ?_⟩
        · show k ≤ (Go.Proofs.Ytdgadabfahmdmaa.pass c (fun _ x y => drS k p x y) (drT (k + 1) cs ps) a).k; omega
        · intro h
          have : (Go.Proofs.Ytdgadabfahmdmaa.pass c (fun _ x y => drS k p x y) (drT (k + 1) cs ps) a).t = 0 := h.2
          omega
theorem bump_rp (z : List Nat) (i t : Nat) : bump z (List.replicate (t + 1) i) = bump (bump z [i]) (List.replicate t i) := by
  rw [List.replicate_succ]; rfl
theorem bump_rcons (x : Nat) (i : Nat) : ∀ (t : Nat) (l : List Nat), bump (x :: l) (List.replicate t (i + 1)) = x :: bump l (List.replicate t i) := by
  intro t
  induction t with
  | zero => intro l; rfl
  | succ t ih => intro l; rw [bump_rp, bump_rp, bump_cons, ih]
theorem bump_rzero (l : List Nat) : ∀ (t x : Nat), bump (x :: l) (List.replicate t 0) = (x + t) :: l := by
  intro t
  induction t with
  | zero => intro x; rfl
  | succ t ih =>
    intro x
    rw [bump_rp, show bump (x :: l) [0] = (x + 1) :: l by simp [bump], ih, show x + 1 + t = x + (t + 1) by omega]
theorem addL_rep (i : Nat) : ∀ (t : Nat) (x y : List Nat), addL (bump x (List.replicate t i)) y = addL x (bump y (List.replicate t i)) := by
  intro t
  induction t with
  | zero => intro x y; rfl
  | succ t ih =>
    intro x y
    rw [bump_rp, ih, bump_rp, addL_bump]
    congr 1
    induction t generalizing y with
    | zero => rfl
    | succ t ih2 =>
      have hc : ∀ (t : Nat) (y : List Nat), bump (bump y (List.replicate t i)) [i] = bump (bump y [i]) (List.replicate t i) := by
        intro t
        induction t with
        | zero => intro y; rfl
        | succ t ih3 => intro y; rw [bump_rp, ih3, bump_rp]
      exact hc (t + 1) y
theorem dr_step : ∀ (cs ps : List Nat) (k : Nat), Pos cs → cs.length = ps.length → 1 ≤ k + cs.length → ∀ a, 0 < a → cB cs ps a = true →
    ∃ i, (drT k cs ps a).k = k + i ∧ i < cs.length ∧ (drT k cs ps a).t * cs.getD i 0 ≤ a ∧ 1 ≤ (drT k cs ps a).t ∧ cB cs ps (a - (drT k cs ps a).t * cs.getD i 0) = true ∧
      pf cs ps a = bump (pf cs ps (a - (drT k cs ps a).t * cs.getD i 0)) (List.replicate (drT k cs ps a).t i) := by
  intro cs
  induction cs with
  | nil => intro ps k _ _ _ a h0 h; have : decide (a = 0) = true := h; simp at this; omega
  | cons c cs ih =>
    intro ps k hp hl hk a h0 h
    cases ps with
    | nil => simp at hl
    | cons p ps =>
      simp only [List.length_cons] at hl
      have h1 := hp.head
      have hu := dr_us (p := p) h1 (dr_can cs ps (k + 1) hp.tail (by omega) (by omega)) a
      have hd : drT k (c :: cs) (p :: ps) a = Go.Proofs.Ytdgadabfahmdmaa.pass c (fun _ x y => drS k p x y) (drT (k + 1) cs ps) a := rfl
      rw [← hd] at hu
      rcases hu with ⟨g1, g2⟩ | ⟨g1, g2, g3⟩ | ⟨g1, g2, g3⟩
      · rw [cB_cons, g1] at h; exact absurd h (by decide)
      · have hf := us_zero h1 g1
        obtain ⟨i, k1, k2, k3, k4, k5, k6⟩ := ih ps (k + 1) hp.tail (by omega) (by omega) a h0 hf
        rw [← g3] at k1 k3 k4 k5 k6
        have eg : (c :: cs).getD (i + 1) 0 = cs.getD i 0 := by simp [List.getD_eq_getElem?_getD]
        refine ⟨i + 1, by omega, by simp; exact k2, by rw [eg]; exact k3, k4, ?_, ?_⟩
        · rw [eg, cB_cons, us_yes h1 k5]; rfl
        · rw [eg, pf_yes h1 hf, pf_yes h1 k5, bump_rcons, ← k6]
      · obtain ⟨d, ed⟩ : ∃ d, (drT k (c :: cs) (p :: ps) a).t = d := ⟨_, rfl⟩
        rw [ed] at g3 ⊢
        obtain ⟨t1, t2, t3⟩ := us_told h1 d a g3.symm
        have eg : (c :: cs).getD 0 0 = c := rfl
        refine ⟨0, by omega, by simp, by rw [eg]; exact t1, by omega, ?_, ?_⟩
        · rw [eg, cB_cons, us_yes h1 t2]; rfl
        · rw [eg, pf_at g3.symm, pf_yes h1 t2, bump_rzero, Nat.zero_add]
/-- The program's step. -/
def fstep (cs ps : List Nat) (l : Nat) : List Nat := List.replicate (drT 0 cs ps l).t (drT 0 cs ps l).k
theorem fstep_no {cs ps : List Nat} (hp : Pos cs) (hl : cs.length = ps.length) (hk : 1 ≤ cs.length) {l : Nat} (h : cB cs ps l = false) : fstep cs ps l = [] := by
  rcases dr_can cs ps 0 hp hl (by omega) l with ⟨_, g2⟩ | ⟨g1, _, _⟩
  · unfold fstep; rw [g2]; rfl
  · rw [h] at g1; cases g1
theorem fstep_ok {cs ps : List Nat} (hp : Pos cs) (hl : cs.length = ps.length) (hk : 1 ≤ cs.length) (m : Nat) : StepOk cs (fstep cs ps) m := by
  refine ⟨fun l h0 _ k hkm => ?_, fun l h0 _ => ?_⟩
  · cases hc : cB cs ps l with
    | false => rw [fstep_no hp hl hk hc] at hkm; cases hkm
    | true =>
      obtain ⟨i, k1, k2, _⟩ := dr_step cs ps 0 hp hl (by omega) l h0 hc
      unfold fstep at hkm
      rw [List.eq_of_mem_replicate hkm, k1]; omega
  · cases hc : cB cs ps l with
    | false => rw [fstep_no hp hl hk hc]; simp [cost]
    | true =>
      obtain ⟨i, k1, k2, k3, _⟩ := dr_step cs ps 0 hp hl (by omega) l h0 hc
      rw [Nat.zero_add] at k1
      unfold fstep
      rw [cost_rep, k1]; exact k3
theorem co_first {cs ps : List Nat} (hp : Pos cs) (hl : cs.length = ps.length) (hk : 1 ≤ cs.length) (m : Nat) : coB cs (fstep cs ps) m = cB cs ps m ∧ coR cs (fstep cs ps) m = if cB cs ps m = true then pf cs ps m else [] := by
  cases h : cB cs ps m with
  | true =>
    have h1 := co_inv (fstep_ok hp hl hk m) hp (fun z l => cB cs ps l = true ∧ z.length = cs.length ∧ addL z (pf cs ps l) = pf cs ps m) (fun z l h0 _ _ ht => by
      obtain ⟨t1, t2, t3⟩ := ht
      obtain ⟨i, k1, k2, k3, k4, k5, k6⟩ := dr_step cs ps 0 hp hl (by omega) l h0 t1
      rw [Nat.zero_add] at k1
      have es : fstep cs ps l = List.replicate (drT 0 cs ps l).t i := by unfold fstep; rw [k1]
      rw [es, cost_rep]
      refine ⟨k5, by rw [bump_len]; exact t2, ?_⟩
      rw [addL_rep, ← k6]; exact t3) m (List.replicate cs.length 0) m (Nat.le_refl _) (Nat.le_refl _) ⟨h, by simp, zero_addL _ _ (by rw [pf_len cs ps hl])⟩
    obtain ⟨⟨t1, t2, t3⟩, he⟩ := h1
    have hz : (co cs (fstep cs ps) m (List.replicate cs.length 0) m).2 = 0 := by
      rcases he with he | he
      · exact he
      · apply Classical.byContradiction
        intro g
        obtain ⟨l, el⟩ : ∃ l, (co cs (fstep cs ps) m (List.replicate cs.length 0) m).2 = l := ⟨_, rfl⟩
        rw [el] at he t1 g
        obtain ⟨i, k1, k2, k3, k4, _⟩ := dr_step cs ps 0 hp hl (by omega) l (Nat.pos_of_ne_zero g) t1
        have hl2 := congrArg List.length he
        unfold fstep at hl2
        rw [List.length_replicate] at hl2
        have hl3 : (drT 0 cs ps l).t = 0 := hl2
        omega
    rw [hz, pf_zero cs ps hp hl, addL_zero _ _ t2.symm] at t3
    have hB : coB cs (fstep cs ps) m = true := by unfold coB; rw [hz]; rfl
    refine ⟨hB, ?_⟩
    unfold coR
    rw [hB, if_pos rfl, if_pos rfl, t3]
  | false =>
    have h0 : ¬ m = 0 := by intro e; rw [e, cB_zero cs ps hp] at h; cases h
    have e := co_stop cs (fstep cs ps) m (List.replicate cs.length 0) (l := m) (.inr (fstep_no hp hl hk h))
    have hB : coB cs (fstep cs ps) m = false := by unfold coB; rw [e]; simp [h0]
    refine ⟨hB, ?_⟩
    unfold coR
    rw [hB]; rfl
end Go.Proofs.Ytdgadabfahmdmaa
