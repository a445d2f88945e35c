/-
  All ways to reach a value, plainly: how many they are, which comes first, and when there is one. Condition: a room of at most 8; no program is spoken of here.
-/
import Derived.Test.YtmllokooceghiaaSty
namespace Go.Proofs.Ytmllokooceghiaa

def wlF (F : Nat → Int → List (List Int)) (n : Int) (r : Nat) (v : Int) : Nat → Nat → List (List Int)
  | 0, _ => []
  | f + 1, k => if (k : Int) * n ≤ v then (F (r - k) (v - k * n)).map (fun x => (k : Int) :: x) ++ wlF F n r v f (k + 1) else []
def wl : List Int → Nat → Int → List (List Int)
  | [], _, v => if v = 0 then [[]] else []
  | n :: t, r, v => wlF (wl t) n r v (r + 1) 0
theorem wlF_step {F : Nat → Int → List (List Int)} {n : Int} {r k : Nat} {v : Int} (hk : k ≤ r) (h : (k : Int) * n ≤ v) : wlF F n r v (r + 1 - k) k = (F (r - k) (v - k * n)).map (fun x => (k : Int) :: x) ++ wlF F n r v (r + 1 - (k + 1)) (k + 1) := by
  obtain ⟨m, hm⟩ : ∃ m, r + 1 - k = m + 1 := ⟨r - k, by omega⟩
  rw [hm, show r + 1 - (k + 1) = m by omega, wlF, if_pos h]
theorem wlF_stop {F : Nat → Int → List (List Int)} {n : Int} {r k : Nat} {v : Int} (h : ¬ k ≤ r ∨ ¬ (k : Int) * n ≤ v) : wlF F n r v (r + 1 - k) k = [] := by
  by_cases hk : k ≤ r
  · obtain ⟨m, hm⟩ : ∃ m, r + 1 - k = m + 1 := ⟨r - k, by omega⟩
    rw [hm, wlF, if_neg (h.resolve_left (fun g => g hk))]
  · rw [show r + 1 - k = 0 by omega]; rfl
theorem wlF_len {F : Nat → Int → List (List Int)} {G : Nat → Int → Int} (hG : ∀ r v, ((F r v).length : Int) = G r v) {n : Int} {r : Nat} {v : Int} : ∀ (f k : Nat), r + 1 - k = f → ((wlF F n r v f k).length : Int) = rest G n r k v := by
  intro f
  induction f with
  | zero => intro k hk; rw [rest_stop (.inl (by omega))]; rfl
  | succ f ih =>
    intro k hk
    by_cases h : (k : Int) * n ≤ v
    · rw [wlF, if_pos h, List.length_append, List.length_map, rest_step (by omega) h, ← ih (k + 1) (by omega), ← hG]
      simp
    · rw [wlF, if_neg h, rest_stop (.inr (by omega))]; rfl
theorem wl_len : ∀ (l : List Int) (r : Nat) (v : Int), ((wl l r v).length : Int) = ww l r v := by
  intro l
  induction l with
  | nil => intro r v; unfold wl ww; split <;> simp
  | cons n t ih => intro r v; rw [wl, wlF_len (G := ww t) ih (r + 1) 0 rfl, rest_zero]; rfl
theorem wl_row : ∀ (l : List Int) (r : Nat) (v : Int), ∀ x ∈ wl l r v, x.length = l.length := by
  intro l
  induction l with
  | nil => intro r v x hx; unfold wl at hx; split at hx <;> simp_all
  | cons n t ih =>
    intro r v x hx
    have key : ∀ (f k : Nat), ∀ x ∈ wlF (wl t) n r v f k, x.length = t.length + 1 := by
      intro f
      induction f with
      | zero => intro k x hx; simp [wlF] at hx
      | succ f ihf =>
        intro k x hx
        rw [wlF] at hx
        split at hx
        · rw [List.mem_append, List.mem_map] at hx
          rcases hx with ⟨y, hy, rfl⟩ | hx
          · simp [ih _ _ y hy]
          · exact ihf _ x hx
        · simp at hx
    exact key _ _ x hx
theorem fsC_neg {t : List Int} {n : Int} (hn : 0 ≤ n) {r : Nat} {v : Int} : ∀ (f k : Nat), ¬ (k : Int) * n ≤ v → fsC (ww t) n f k r v = none := by
  intro f
  induction f with
  | zero => intro k _; rfl
  | succ f ih =>
    intro k hk
    rw [fsC, ww_neg t _ _ (by omega), if_neg (by omega)]
    exact ih (k + 1) (by rw [Int.natCast_succ, Int.add_mul, Int.one_mul]; omega)
theorem wl_head : ∀ (l : List Int), (∀ n ∈ l, 0 ≤ n) → ∀ (r : Nat) (v : Int), 0 < ww l r v → (wl l r v)[0]? = some (fsL l r v) := by
  intro l
  induction l with
  | nil =>
    intro _ r v h
    unfold ww at h
    unfold wl fsL
    split at h
    · rename_i e; rw [if_pos e]; rfl
    · omega
  | cons n t ih =>
    intro hm r v h
    have hn := hm n (by simp)
    have ih := ih fun a ha => hm a (by simp [ha])
    have key : ∀ (f k : Nat), (wlF (wl t) n r v f k)[0]? = (fsC (ww t) n f k r v).map fun (j : Nat) => (j : Int) :: fsL t (r - j) (v - j * n) := by
      intro f
      induction f with
      | zero => intro k; rfl
      | succ f ihf =>
        intro k
        by_cases hk : (k : Int) * n ≤ v
        · rw [wlF, if_pos hk, fsC]
          by_cases hp : 0 < ww t (r - k) (v - k * n)
          · rw [if_pos hp]
            have i := ih _ _ hp
            have hl : 0 < (wl t (r - k) (v - k * n)).length := by have := wl_len t (r - k) (v - k * n); omega
            rw [List.getElem?_append_left (by simpa using hl), List.getElem?_map, i]
            rfl
          · rw [if_neg hp]
            have e : wl t (r - k) (v - k * n) = [] := List.length_eq_zero_iff.1 (by have := wl_len t (r - k) (v - k * n); omega)
            rw [e, List.map_nil, List.nil_append]
            exact ihf (k + 1)
        · rw [wlF, if_neg hk, fsC_neg hn (f + 1) k hk]; rfl
    have k0 := key (r + 1) 0
    rw [wl, fsL]
    have hl : 0 < (wlF (wl t) n r v (r + 1) 0).length := by have := wl_len (n :: t) r v; rw [wl] at this; omega
    cases hf : fsC (ww t) n (r + 1) 0 r v with
    | none =>
      rw [hf] at k0
      rw [List.getElem?_eq_getElem hl] at k0
      cases k0
    | some k => rw [hf] at k0; exact k0
theorem mk_cons {n : Int} {t : List Int} : ∀ (k : Nat) (v : Int), Mk (n :: t) k v → ∃ c j : Nat, c + j = k ∧ Mk t j (v - c * n) := by
  intro k
  induction k with
  | zero => intro v h; exact ⟨0, 0, rfl, by simpa [Mk] using h⟩
  | succ k ih =>
    intro v ⟨m, hm, hk⟩
    obtain ⟨c, j, e, hj⟩ := ih _ hk
    rcases List.mem_cons.1 hm with rfl | hm
    · exact ⟨c + 1, j, by omega, by rw [Int.natCast_succ, Int.add_mul, Int.one_mul]; rwa [show v - m - c * m = v - (c * m + m) by omega] at hj⟩
    · exact ⟨c, j + 1, by omega, m, hm, by rwa [show v - c * n - m = v - m - c * n by omega]⟩
theorem mk_addn {n : Int} {t : List Int} {j : Nat} {u : Int} (h : Mk t j u) : ∀ c : Nat, Mk (n :: t) (j + c) (u + c * n) := by
  have mono : ∀ (k : Nat) (v : Int), Mk t k v → Mk (n :: t) k v := by
    intro k
    induction k with
    | zero => intro v hv; exact hv
    | succ k ih => intro v ⟨m, hm, hk⟩; exact ⟨m, List.mem_cons_of_mem _ hm, ih _ hk⟩
  intro c
  induction c with
  | zero => simpa using mono _ _ h
  | succ c ih => exact ⟨n, by simp, by rw [Int.natCast_succ, Int.add_mul, Int.one_mul, show u + (c * n + n) - n = u + c * n by omega]; exact ih⟩
theorem mk_low0 {st : List Int} (h : ∀ n ∈ st, 1 ≤ n) : ∀ (k : Nat) {v : Int}, Mk st k v → 0 ≤ v := by
  intro k
  induction k with
  | zero => intro v hv; simp only [Mk] at hv; omega
  | succ k ih => intro v ⟨n, hn, hk⟩; have := h n hn; have := ih hk; omega
theorem ww_pos : ∀ (l : List Int), (∀ n ∈ l, 1 ≤ n) → ∀ (r : Nat) (v : Int), r ≤ 8 → (0 < ww l r v ↔ ∃ k, k ≤ r ∧ Mk l k v) := by
  intro l
  induction l with
  | nil =>
    intro _ r v _
    constructor
    · intro h
      unfold ww at h
      split at h
      · rename_i e; exact ⟨0, Nat.zero_le _, e⟩
      · omega
    · rintro ⟨k, _, hm⟩
      cases k with
      | zero => have e : v = 0 := hm; unfold ww; rw [if_pos e]; decide
      | succ k => obtain ⟨n, hn, _⟩ := hm; simp at hn
  | cons n t ih =>
    intro hm r v hr
    have hn := hm n (by simp)
    have ht : ∀ a ∈ t, 1 ≤ a := fun a ha => hm a (by simp [ha])
    have ih := ih ht
    have e : ww (n :: t) r v = rest (ww t) n r 0 v := by rw [rest_zero]; rfl
    rw [e]
    constructor
    · have key : ∀ (f k : Nat), r + 1 - k = f → 0 < rest (ww t) n r k v → ∃ c : Nat, c ≤ r ∧ 0 < ww t (r - c) (v - c * n) := by
        intro f
        induction f with
        | zero => intro k hk h; rw [rest_stop (.inl (by omega))] at h; omega
        | succ f ihf =>
          intro k hk h
          by_cases hv : (k : Int) * n ≤ v
          · rw [rest_step (by omega) hv] at h
            by_cases hp : 0 < ww t (r - k) (v - k * n)
            · exact ⟨k, by omega, hp⟩
            · exact ihf (k + 1) (by omega) (by omega)
          · rw [rest_stop (.inr (by omega))] at h; omega
      intro h
      obtain ⟨c, hc, hp⟩ := key _ 0 rfl h
      obtain ⟨j, hj, hmj⟩ := (ih _ _ (by omega)).1 hp
      have := mk_addn (n := n) hmj c
      rw [show v - c * n + c * n = v by omega] at this
      exact ⟨j + c, by omega, this⟩
    · rintro ⟨k, hk, hmk⟩
      obtain ⟨c, j, rfl, hj⟩ := mk_cons k v hmk
      have h0 := mk_low0 ht j hj
      have hp := (ih (r - c) (v - c * n) (by omega)).2 ⟨j, by omega, hj⟩
      have key : ∀ (d k : Nat), k + d = c → 0 < rest (ww t) n r k v := by
        intro d
        induction d with
        | zero =>
          intro k hkc
          obtain rfl : k = c := by omega
          have := rest_nn (F := ww t) (n := n) (B := 9 ^ t.length) (fun r v hr => ww_bd t r v hr) (k := k + 1) hr v
          rw [rest_step (by omega) (by omega)]
          omega
        | succ d ihd =>
          intro k hkc
          have h1 := ihd (k + 1) (by omega)
          have h2 : (k : Int) * n ≤ c * n := Int.mul_le_mul_of_nonneg_right (by omega) (by omega)
          have h3 := (ww_bd t (r - k) (v - k * n) (by omega)).1
          rw [rest_step (by omega) (by omega)]
          omega
      exact key c 0 (by omega)
theorem ways_iff {st : List Int} (h : ∀ n ∈ st, 1 ≤ n) {r : Nat} (hr : r ≤ 8) (v : Nat) : 0 < ww st r (v : Int) ↔ fw st v ≤ (r : Int) := by
  rw [ww_pos st h r v hr, fw_iff h (by unfold stNone; omega) v]
end Go.Proofs.Ytmllokooceghiaa
