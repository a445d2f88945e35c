/-
  The program's table, walked: for each length the ways, the fewest pieces and the start. Condition: pieces.
-/
import Derived.Test.YtphjiicdodkfbaaTab
import Derived.Test.YtphjiicdodkfbaaCatb
namespace Go.Proofs.Ytphjiicdodkfbaa
open Go.RowKit

/-- The fewest pieces, and the greatest index from which on the pieces suffice (i: the index of the list's head). -/
def Fw : List Int → Int → Int
  | [], _ => 0
  | a :: l, s => if Wy l (s - a) = 0 then Fw l s else if Wy l s = 0 then Fw l (s - a) + 1 else min (Fw l s) (Fw l (s - a) + 1)
def Sg : Int → List Int → Int → Int
  | i, [], s => if s = 0 then i else 0
  | i, a :: l, s => if Wy l (s - a) = 0 then Sg (i + 1) l s else if Wy l s = 0 then i else Sg (i + 1) l s
theorem Wy_cons_zero {a : Int} {l : List Int} {s : Int} (h : Wy (a :: l) s = 0) : Wy l s = 0 ∧ Wy l (s - a) = 0 := by
  have h1 := Wy_bd l s
  have h2 := Wy_bd l (s - a)
  simp only [Wy] at h
  omega
theorem Fw_zero : ∀ (l : List Int) (s : Int), Wy l s = 0 → Fw l s = 0 := by
  intro l
  induction l with
  | nil => intro s _; rfl
  | cons a l ih =>
    intro s h
    have h2 := Wy_cons_zero h
    simp only [Fw]
    rw [if_pos h2.2, ih s h2.1]
theorem Sg_zero : ∀ (l : List Int) (i s : Int), Wy l s = 0 → Sg i l s = 0 := by
  intro l
  induction l with
  | nil => intro i s h; simp only [Wy] at h; simp only [Sg]; split at h <;> simp_all
  | cons a l ih =>
    intro i s h
    have h2 := Wy_cons_zero h
    simp only [Sg]
    rw [if_pos h2.2, ih _ s h2.1]
theorem Fw_bd : ∀ (l : List Int) (s : Int), 0 ≤ Fw l s ∧ Fw l s ≤ l.length := by
  intro l
  induction l with
  | nil => intro s; simp [Fw]
  | cons a l ih =>
    intro s
    have h1 := ih s
    have h2 := ih (s - a)
    simp only [Fw, List.length_cons]
    split
    · omega
    · split <;> omega

/-- A table of n entries in the block g. -/
def Tb (w : World) (g n : Nat) (A B C : Nat → Int) : Prop :=
  ∃ c : Array Value, w.heap[g]? = some (.cells c 105 (0, 0)) ∧ c.size = n * 3 ∧
    ∀ j, j < n → c[j * 3]? = some (.int .i64 (A j)) ∧ c[j * 3 + 1]? = some (.int .i64 (B j)) ∧ c[j * 3 + 2]? = some (.int .i64 (C j))
theorem Tb.below {w w' : World} {g n D : Nat} {A B C : Nat → Int} (h : Tb w g n A B C) (hb : Below D w w') (hD : w.heap.size ≤ D) : Tb w' g n A B C := by
  obtain ⟨c, hg, r⟩ := h
  exact ⟨c, (hb.block g (Nat.lt_of_lt_of_le (Array.getElem?_eq_some_iff.1 hg).1 hD)).trans hg, r⟩
theorem Tb.lt {w : World} {g n : Nat} {A B C : Nat → Int} (h : Tb w g n A B C) : g < w.heap.size := by
  obtain ⟨c, hg, _⟩ := h
  exact (Array.getElem?_eq_some_iff.1 hg).1
theorem Tb.congr {w : World} {g n : Nat} {A B C A2 B2 C2 : Nat → Int} (h : Tb w g n A B C) (e : ∀ j, j < n → A j = A2 j ∧ B j = B2 j ∧ C j = C2 j) : Tb w g n A2 B2 C2 := by
  obtain ⟨c, hg, hs, hc⟩ := h
  refine ⟨c, hg, hs, fun j hj => ?_⟩
  have := e j hj
  rw [← this.1, ← this.2.1, ← this.2.2]
  exact hc j hj
theorem Tb.cells {w : World} {g n : Nat} {A B C : Nat → Int} (h : Tb w g n A B C) {j : Nat} (hj : j < n) :
    w.cell? ⟨g, j * 3, none⟩ = some (.int .i64 (A j)) ∧ w.cell? ⟨g, j * 3 + 1, none⟩ = some (.int .i64 (B j)) ∧ w.cell? ⟨g, j * 3 + 2, none⟩ = some (.int .i64 (C j)) ∧
    w.frozen? ⟨g, j * 3, none⟩ = false ∧ w.frozen? ⟨g, j * 3 + 1, none⟩ = false ∧ w.frozen? ⟨g, j * 3 + 2, none⟩ = false := by
  obtain ⟨c, hg, hs, hc⟩ := h
  have := hc j hj
  refine ⟨?_, ?_, ?_, ?_, ?_, ?_⟩ <;> simp [World.cell?, World.frozen?, hg, this]

theorem Tb.set {w : World} {g n j : Nat} {A B C : Nat → Int} (h : Tb w g n A B C) (a b c : Int) :
    Tb (((w.setCell ⟨g, j * 3, none⟩ (.int .i64 a)).setCell ⟨g, j * 3 + 1, none⟩ (.int .i64 b)).setCell ⟨g, j * 3 + 2, none⟩ (.int .i64 c)) g n (fun i => if i = j then a else A i) (fun i => if i = j then b else B i) (fun i => if i = j then c else C i) := by
  obtain ⟨cs, hg, hs, hc⟩ := h
  refine ⟨((cs.setIfInBounds (j * 3) (.int .i64 a)).setIfInBounds (j * 3 + 1) (.int .i64 b)).setIfInBounds (j * 3 + 2) (.int .i64 c), ?_, by simpa using hs, fun i hi => ?_⟩
  · simp [World.setCell, Array.getElem?_modify, hg]
  · by_cases e : i = j
    · subst e
      have h0 : i * 3 < cs.size := by omega
      have h1 : i * 3 + 1 < cs.size := by omega
      have h2 : i * 3 + 2 < cs.size := by omega
      simp [h0, h1, h2]
    · have e' : ¬ j = i := fun h => e h.symm
      have hh := hc i hi
      have n1 : ¬ j * 3 + 2 = i * 3 := by omega
      have n2 : ¬ j * 3 + 1 = i * 3 := by omega
      have n3 : ¬ j * 3 = i * 3 := by omega
      have n4 : ¬ j * 3 + 2 = i * 3 + 1 := by omega
      have n5 : ¬ j * 3 + 1 = i * 3 + 1 := by omega
      have n6 : ¬ j * 3 = i * 3 + 1 := by omega
      have n7 : ¬ j * 3 + 2 = i * 3 + 2 := by omega
      have n8 : ¬ j * 3 + 1 = i * 3 + 2 := by omega
      have n9 : ¬ j * 3 = i * 3 + 2 := by omega
      simp only [if_neg e, Array.getElem?_setIfInBounds]
      rw [if_neg n1, if_neg n2, if_neg n3, if_neg n4, if_neg n5, if_neg n6, if_neg n7, if_neg n8, if_neg n9]
      exact hh
theorem ret_sl {p : Option Addr} {a b : Nat} (h : a = b) : Ending.returned (.slice p (a + 1) (a + 1)) = .returned (.slice p (b + 1) (b + 1)) := by rw [h]
theorem made_zero (n i : Nat) (hi : i < n * 3) : (madeCells #[Value.int .i64 0, .int .i64 0, .int .i64 0] (n * 3))[i]? = some (.int .i64 0) := by
  have h : i % 3 = 0 ∨ i % 3 = 1 ∨ i % 3 = 2 := by omega
  rcases h with h | h | h <;> simp [madeCells, hi, h]

theorem sum_drop (xs : List Int) (hm : ∀ x ∈ xs, 1 ≤ x ∧ x ≤ 10000) : ∀ k, 0 ≤ sumP (xs.drop k) ∧ sumP (xs.drop k) ≤ sumP xs := by
  intro k
  induction k with
  | zero => exact ⟨(sumFrom_bd xs 0 hm).1, Int.le_refl _⟩
  | succ k ih =>
    by_cases hk : k < xs.length
    · have e := drop_cons xs k hk
      have hx := hm (xs.getD k 0) (by rw [List.getD_eq_getElem?_getD, List.getElem?_eq_getElem hk]; exact List.getElem_mem hk)
      have e2 : sumP (xs.drop k) = xs.getD k 0 + sumP (xs.drop (k + 1)) := by rw [e]; unfold sumP; simp only [sumFrom]; rw [sumFrom_cons]
      have h0 := (sumFrom_bd (xs.drop (k + 1)) 0 fun x hx => hm x (List.mem_of_mem_drop hx)).1
      have h1 : 0 ≤ sumP (xs.drop (k + 1)) := h0
      omega
    · rw [List.drop_eq_nil_of_le (by omega)]
      have := (sumFrom_bd xs 0 hm).1
      exact ⟨Int.le_refl _, this⟩
theorem sum_step {xs : List Int} {k : Nat} {x : Int} (hk : k < xs.length) (hx : xs.getD k 0 = x) : sumP (xs.drop k) = sumP (xs.drop (k + 1)) + x := by
  rw [drop_cons xs k hk, hx]
  unfold sumP
  simp only [sumFrom]
  rw [sumFrom_cons]
  omega
theorem Good.drop_mem {xs : List Int} (h : Good xs) (k : Nat) : ∀ x ∈ xs.drop k, 1 ≤ x ∧ x ≤ 10000 := fun x hx => h.mem x (List.mem_of_mem_drop hx)

/-- The table in the middle of the round of the piece k: above p the new entries, up to p the old ones. -/
def entA (xs : List Int) (k : Nat) (p : Int) (j : Nat) : Int := if (j : Int) ≤ p then Wy (xs.drop (k + 1)) j else Wy (xs.drop k) j
def entB (xs : List Int) (k : Nat) (p : Int) (j : Nat) : Int := if (j : Int) ≤ p then Fw (xs.drop (k + 1)) j else Fw (xs.drop k) j
def entC (xs : List Int) (k : Nat) (p : Int) (j : Nat) : Int := if (j : Int) ≤ p then Sg ((k + 1 : Nat) : Int) (xs.drop (k + 1)) j else Sg k (xs.drop k) j
theorem Try.infoM : (Try.prog.info? 105).map (fun i => (i.zero, i.size, i.bytes)) = some (some (.agg #[.int .i64 0, .int .i64 0, .int .i64 0]), 3, 24) := by kernel_rfl

set_option maxHeartbeats 4000000 in
set_option maxRecDepth 100000 in
theorem tableOf_any (v : Value) (xs : List Int) (w : World) (h : Sv w v xs) (hg : Good xs) :
    Calls Try.prog 113 #[v] w fun e w' => ∃ g, e = .returned (.slice (some ⟨g, 0, none⟩) (top xs + 1) (top xs + 1)) ∧ w.heap.size ≤ g ∧
      Tb w' g (top xs + 1) (fun j => Wy xs j) (fun j => Fw xs j) (fun j => Sg 0 xs j) ∧ Below w.heap.size w w' := by
  have hs := h
  have hl := hg.len
  obtain ⟨htop, htop2⟩ := hg.top
  obtain ⟨p, cap, rfl, hx⟩ := h
  obtain ⟨T, eT⟩ : ∃ T, T = top xs := ⟨_, rfl⟩
  rw [← eT] at htop htop2
  obtain ⟨i0, hi, hz0, hz1, hz2⟩ := info_parts Try.infoM
  have hmk : ∀ w, (Instr.makeSlice 102 (.int .i64 ((T : Int) + 1)) (.int .i64 ((T : Int) + 1))).run Try.prog w = .ok (.slice (some ⟨w.heap.size, 0, none⟩) (T + 1) (T + 1)) (w.alloc (.cells (madeCells #[.int .i64 0, .int .i64 0, .int .i64 0] ((T + 1) * 3)) 105)) := fun w => by
    have h := run_make (P := Try.prog) w 102 105 i0 _ Try.underlying102 hi hz0 .i64 .i64 ((T : Int) + 1) ((T : Int) + 1) (by omega) (by omega) (by rw [hz2]; omega) (by omega)
    rw [show ((T : Int) + 1).toNat = T + 1 by omega, hz1] at h
    exact h
  have HX := Lib.hid hx
  have HT := Lib.hid eT
  have HS := Lib.hid htop
  clear hx eT htop hi hz0 hz1 hz2
  have hfld := field_sum
  have hm0 := made_zero (T + 1) 0 (by omega)
  have hm1 := made_zero (T + 1) 1 (by omega)
  have hm2 := made_zero (T + 1) 2 (by omega)
  go_enter Try.func113, Try.ntmps113
  go_wp2_with fail
  refine (sumOfAll_any _ _ _ hs hg).mono ?_
  rintro e w1 ⟨rfl, b1⟩
  rw [← HS.out]
  go_wp2
  go_loopw [4, 5] (fun r i wr => ∃ k : Nat, k ≤ xs.length ∧ i = .int .i64 ((k : Int) - 1) ∧ r = .int .i64 (sumP (xs.drop k)) ∧ Tb wr w1.heap.size (T + 1) (fun j => Wy (xs.drop k) j) (fun j => Fw (xs.drop k) j) (fun j => Sg k (xs.drop k) j) ∧ Below w.heap.size w wr) (fun _ i _ => (intOf i + 1).toNat)
  case atStart =>
    refine ⟨xs.length, Nat.le_refl _, rfl, by rw [List.drop_length]; rfl, ?_, b1.alloc b1.size _⟩
    refine ⟨_, heap_alloc_new w1 _, by simp [size_madeCells], fun j hj => ?_⟩
    have z0 := made_zero (T + 1) (j * 3) (by omega)
    have z1 := made_zero (T + 1) (j * 3 + 1) (by omega)
    have z2 := made_zero (T + 1) (j * 3 + 2) (by omega)
    by_cases e : j = 0
    · subst e
      have hsz : (madeCells #[Value.int .i64 0, .int .i64 0, .int .i64 0] ((T + 1) * 3)).size = (T + 1) * 3 := size_madeCells _ _
      simp [Array.getElem?_setIfInBounds, hsz, Wy, Fw, Sg]
      omega
    · have e2 : ¬ ((j : Int) = 0) := by omega
      simp only [Array.getElem?_setIfInBounds]
      rw [if_neg (by omega), if_neg (by omega), if_neg (by omega), if_neg (by omega), if_neg (by omega), if_neg (by omega), if_neg (by omega), if_neg (by omega), if_neg (by omega), z0, z1, z2]
      simp [Wy, Fw, Sg, e]
  case round =>
    obtain ⟨k1, hk, rfl, rfl, htb, hb⟩ := hrel
    have hB := b1.size
    clear hmk hm0 hm1 hm2 hfld b1
    by_cases hk0 : k1 = 0
    · subst hk0
      go_wp2
      go_ret
      refine ⟨_, ret_sl HT.out, hB, ?_, hb⟩
      rw [← HT.out]
      exact htb
    · obtain ⟨k, rfl⟩ : ∃ k, k1 = k + 1 := ⟨k1 - 1, by omega⟩
      have hlt : k < xs.length := by omega
      obtain ⟨b, off, rfl, hbl, hc⟩ := HX.out (by omega)
      have hcell := (hb.cell (p := ⟨b, off + k, none⟩) hbl).trans (hc k hlt)
      obtain ⟨x, ex⟩ : ∃ x, xs.getD k 0 = x := ⟨_, rfl⟩
      obtain ⟨hx1, hx2⟩ := hg.bd hlt ex
      obtain ⟨m, rfl⟩ : ∃ m : Nat, x = (m : Int) := ⟨x.toNat, by omega⟩
      rw [ex] at hcell
      have hst := sum_step hlt ex
      have hsd := sum_drop xs hg.mem k
      have hsd1 := sum_drop xs hg.mem (k + 1)
      rw [← HS.out] at hsd hsd1
      have hdc := drop_cons xs k hlt
      rw [ex] at hdc
      obtain ⟨R, eR⟩ : ∃ R, sumP (xs.drop (k + 1)) = R := ⟨_, rfl⟩
      rw [eR] at hst hsd1 ⊢
      rw [hst] at hsd
      obtain ⟨hR1, hR2⟩ := hsd1
      obtain ⟨hR3, hR4⟩ := hsd
      have HX2 := Lib.hid hc
      have EX := Lib.hid ex
      have HST := Lib.hid hst
      have ER := Lib.hid eR
      have DC := Lib.hid hdc
      rw [show ((k + 1 : Nat) : Int) - 1 = (k : Int) by omega]
      clear ex hc hk0 hst eR hdc
      go_wp2
      obtain ⟨wo, rfl⟩ : ∃ wo : World, wo = wr := ⟨_, rfl⟩
      clear hcell
      go_loopw [6] (fun a wi => ∃ p : Int, -1 ≤ p ∧ p ≤ T ∧ a = .int .i64 p ∧ Tb wi w1.heap.size (T + 1) (fun j => entA xs k p j) (fun j => entB xs k p j) (fun j => entC xs k p j) ∧ Below w.heap.size w wi) (fun a _ => (intOf a + 1).toNat)
      case atStart =>
        refine ⟨R + m, by omega, by omega, rfl, htb.congr (fun j hj => ?_), hb⟩
        by_cases h : (j : Int) ≤ R + m
        · refine ⟨?_, ?_, ?_⟩ <;> simp [entA, entB, entC, h]
        · simp only [entA, entB, entC, if_neg h]
          have z1 : Wy (xs.drop (k + 1)) j = 0 := Wy_big _ _ (hg.drop_mem _) (by rw [ER.out]; omega)
          have z2 : Wy (xs.drop k) j = 0 := Wy_big _ _ (hg.drop_mem _) (by rw [HST.out]; omega)
          exact ⟨by rw [z1, z2], by rw [Fw_zero _ _ z1, Fw_zero _ _ z2], by rw [Sg_zero _ _ _ z1, Sg_zero _ _ _ z2]⟩
      case round =>
        clear htb hb
        obtain ⟨p, hp1, hp2, rfl, htb, hb⟩ := hrel
        have hcell := (hb.cell (p := ⟨b, off + k, none⟩) hbl).trans (HX2.out k hlt)
        rw [EX.out] at hcell
        by_cases hpm : (m : Int) ≤ p
        · obtain ⟨q, rfl⟩ : ∃ q : Nat, p = (q : Int) := ⟨p.toNat, by omega⟩
          obtain ⟨c1, c2, c3, f1, f2, f3⟩ := htb.cells (j := q) (by omega)
          obtain ⟨d1, d2, d3, -, -, -⟩ := htb.cells (j := q - m) (by omega)
          have eq1 : entA xs k q q = Wy (xs.drop (k + 1)) q ∧ entB xs k q q = Fw (xs.drop (k + 1)) q ∧ entC xs k q q = Sg ((k + 1 : Nat) : Int) (xs.drop (k + 1)) q := by simp [entA, entB, entC]
          have eq2 : entA xs k q ((q - m : Nat)) = Wy (xs.drop (k + 1)) ((q : Int) - m) ∧ entB xs k q ((q - m : Nat)) = Fw (xs.drop (k + 1)) ((q : Int) - m) ∧ entC xs k q ((q - m : Nat)) = Sg ((k + 1 : Nat) : Int) (xs.drop (k + 1)) ((q : Int) - m) := by
            have e : ((q - m : Nat) : Int) = (q : Int) - m := by omega
            have e2 : (q : Int) - m ≤ q := by omega
            simp [entA, entB, entC, e, e2]
          rw [eq1.1] at c1; rw [eq1.2.1] at c2; rw [eq1.2.2] at c3
          rw [eq2.1] at d1; rw [eq2.2.1] at d2; rw [eq2.2.2] at d3
          have bA := Wy_bd20 (xs.drop (k + 1)) q (by simp only [List.length_drop]; omega)
          have bD := Wy_bd20 (xs.drop (k + 1)) ((q : Int) - m) (by simp only [List.length_drop]; omega)
          have bE := Fw_bd (xs.drop (k + 1)) q
          have bF := Fw_bd (xs.drop (k + 1)) ((q : Int) - m)
          have hlen : (xs.drop (k + 1)).length ≤ 20 := by simp only [List.length_drop]; omega
          have zq := Fw_zero (xs.drop (k + 1)) q
          have zq2 := Sg_zero (xs.drop (k + 1)) ((k + 1 : Nat) : Int) q
          have zr := Fw_zero (xs.drop (k + 1)) ((q : Int) - m)
          have zr2 := Sg_zero (xs.drop (k + 1)) ((k + 1 : Nat) : Int) ((q : Int) - m)
          have nA : Wy (xs.drop k) q = Wy (xs.drop (k + 1)) q + Wy (xs.drop (k + 1)) ((q : Int) - m) := by rw [DC.out]; rfl
          have nB : Fw (xs.drop k) q = if Wy (xs.drop (k + 1)) ((q : Int) - m) = 0 then Fw (xs.drop (k + 1)) q else if Wy (xs.drop (k + 1)) q = 0 then Fw (xs.drop (k + 1)) ((q : Int) - m) + 1 else min (Fw (xs.drop (k + 1)) q) (Fw (xs.drop (k + 1)) ((q : Int) - m) + 1) := by rw [DC.out]; rfl
          have nC : Sg k (xs.drop k) q = if Wy (xs.drop (k + 1)) ((q : Int) - m) = 0 then Sg ((k + 1 : Nat) : Int) (xs.drop (k + 1)) q else if Wy (xs.drop (k + 1)) q = 0 then (k : Int) else Sg ((k + 1 : Nat) : Int) (xs.drop (k + 1)) q := by rw [DC.out]; rfl
          obtain ⟨A, eA⟩ : ∃ A, Wy (xs.drop (k + 1)) q = A := ⟨_, rfl⟩
          obtain ⟨D, eD⟩ : ∃ D, Wy (xs.drop (k + 1)) ((q : Int) - m) = D := ⟨_, rfl⟩
          obtain ⟨E, eE⟩ : ∃ E, Fw (xs.drop (k + 1)) q = E := ⟨_, rfl⟩
          obtain ⟨F, eF⟩ : ∃ F, Fw (xs.drop (k + 1)) ((q : Int) - m) = F := ⟨_, rfl⟩
          obtain ⟨I, eI⟩ : ∃ I, Sg ((k + 1 : Nat) : Int) (xs.drop (k + 1)) q = I := ⟨_, rfl⟩
          obtain ⟨J, eJ⟩ : ∃ J, Sg ((k + 1 : Nat) : Int) (xs.drop (k + 1)) ((q : Int) - m) = J := ⟨_, rfl⟩
          simp only [eA, eD, eE, eF, eI, eJ] at c1 c2 c3 d1 d2 d3 bA bD bE bF zq zq2 zr zr2 nA nB nC
          obtain ⟨bA1, bA2⟩ := bA
          obtain ⟨bD1, bD2⟩ := bD
          obtain ⟨bE1, bE2⟩ := bE
          obtain ⟨bF1, bF2⟩ := bF
          have hF : F ≤ 20 := by omega
          have hE : E ≤ 20 := by omega
          have hi0 : (0 : Int) ≤ q := by omega
          have hi1 : (q : Int) < (T : Int) + 1 := by omega
          have hi2 : (0 : Int) ≤ (q : Int) - m := by omega
          have hi3 : (q : Int) - m < (T : Int) + 1 := by omega
          have hi4 : (0 : Int) ≤ k := by omega
          have hi5 : (k : Int) < xs.length := by omega
          have hw1 : IntKind.i64.wrap ((q : Int) - m) = (q : Int) - m := IntWalk.i64_in _ (by omega)
          have ht1 : ((q : Int) - m).toNat = q - m := by omega
          have NA := Lib.hid nA
          have NB := Lib.hid nB
          have NC := Lib.hid nC
          clear eA eD eE eF eI eJ eq1 eq2 nA nB nC hlen bE2 bF2
          have hq : q < T + 1 := by omega
          by_cases hD : D = 0
          · obtain rfl := zr hD
            obtain rfl := zr2 hD
            subst hD
            clear zr zr2 zq zq2
            go_wp2
            go_region_with (go_at_call 124; refine (or_skip _ _ _ _ _).mono ?_; rintro e w2 ⟨rfl, b2⟩; have htb2 := htb.below ((Below.refl wr.heap.size wr).drew.trans b2) (Nat.le_refl _); have hb2 : Below w.heap.size w w2 := hb.trans (((Below.refl wr.heap.size wr).drew.trans b2).mono hb.size); obtain ⟨g1, g2, g3, g4, g5, g6⟩ := htb2.cells (j := q) hq; clear b2)
            all_goals
              go_wp2
              go_roundw
              case rel =>
                refine ⟨(q : Int) - 1, by omega, by omega, rfl, ?_, ?_⟩
                · exact (htb2.set (j := q) (A) (E) (I)).congr fun j hj => by
                    by_cases e : j = q
                    · subst e
                      simp only [if_pos]
                      have h2 : ¬ ((j : Int) ≤ (j : Int) - 1) := by omega
                      simp only [entA, entB, entC, if_neg h2]
                      exact ⟨by rw [NA.out, Int.add_zero], by rw [NB.out]; simp, by rw [NC.out]; simp⟩
                    · simp only [if_neg e, entA, entB, entC]
                      by_cases h2 : (j : Int) ≤ (q : Int)
                      · have h3 : (j : Int) ≤ (q : Int) - 1 := by omega
                        simp only [if_pos h2, if_pos h3]; exact ⟨trivial, trivial, trivial⟩
                      · have h3 : ¬ ((j : Int) ≤ (q : Int) - 1) := by omega
                        simp only [if_neg h2, if_neg h3]; exact ⟨trivial, trivial, trivial⟩
                · exact ((hb2.setCell hB _).setCell hB _).setCell hB _
              case measure => simp only [intOf]; omega
          · have hD0 : 0 < D := by omega
            by_cases hA : A = 0
            · obtain rfl := zq hA
              obtain rfl := zq2 hA
              subst hA
              have HD := Lib.hid hD
              clear zr zr2 zq zq2 hD
              go_wp2
              go_region_with (go_at_call 124; refine (or_first D F J hD0 (by omega) bF1 (by omega) _ _).mono ?_; rintro e w2 ⟨rfl, b2⟩; have htb2 := htb.below ((Below.refl wr.heap.size wr).drew.trans b2) (Nat.le_refl _); have hb2 : Below w.heap.size w w2 := hb.trans (((Below.refl wr.heap.size wr).drew.trans b2).mono hb.size); obtain ⟨g1, g2, g3, g4, g5, g6⟩ := htb2.cells (j := q) hq; clear b2)
              all_goals
                go_wp2
                go_roundw
                case rel =>
                  refine ⟨(q : Int) - 1, by omega, by omega, rfl, ?_, ?_⟩
                  · exact (htb2.set (j := q) (D) (F + 1) (k)).congr fun j hj => by
                      by_cases e : j = q
                      · subst e
                        simp only [if_pos]
                        have h2 : ¬ ((j : Int) ≤ (j : Int) - 1) := by omega
                        simp only [entA, entB, entC, if_neg h2]
                        exact ⟨by rw [NA.out, Int.zero_add], by rw [NB.out]; simp [HD.out], by rw [NC.out]; simp [HD.out]⟩
                      · simp only [if_neg e, entA, entB, entC]
                        by_cases h2 : (j : Int) ≤ (q : Int)
                        · have h3 : (j : Int) ≤ (q : Int) - 1 := by omega
                          simp only [if_pos h2, if_pos h3]; exact ⟨trivial, trivial, trivial⟩
                        · have h3 : ¬ ((j : Int) ≤ (q : Int) - 1) := by omega
                          simp only [if_neg h2, if_neg h3]; exact ⟨trivial, trivial, trivial⟩
                  · exact ((hb2.setCell hB _).setCell hB _).setCell hB _
                case measure => simp only [intOf]; omega
            · have hA0 : 0 < A := by omega
              have HD := Lib.hid hD
              have HA := Lib.hid hA
              clear zr zr2 zq zq2 hD hA
              go_wp2
              go_region_with (go_at_call 124; refine (or_both D F J A E I hD0 (by omega) bF1 (by omega) hA0 (by omega) bE1 (by omega) _ _).mono ?_; rintro e w2 ⟨rfl, b2⟩; have htb2 := htb.below ((Below.refl wr.heap.size wr).drew.trans b2) (Nat.le_refl _); have hb2 : Below w.heap.size w w2 := hb.trans (((Below.refl wr.heap.size wr).drew.trans b2).mono hb.size); obtain ⟨g1, g2, g3, g4, g5, g6⟩ := htb2.cells (j := q) hq; clear b2)
              all_goals
                go_wp2
                go_roundw
                case rel =>
                  refine ⟨(q : Int) - 1, by omega, by omega, rfl, ?_, ?_⟩
                  · exact (htb2.set (j := q) (A + D) (min E (F + 1)) (I)).congr fun j hj => by
                      by_cases e : j = q
                      · subst e
                        simp only [if_pos]
                        have h2 : ¬ ((j : Int) ≤ (j : Int) - 1) := by omega
                        simp only [entA, entB, entC, if_neg h2]
                        exact ⟨NA.out.symm, by rw [NB.out]; simp [HD.out, HA.out], by rw [NC.out]; simp [HD.out, HA.out]⟩
                      · simp only [if_neg e, entA, entB, entC]
                        by_cases h2 : (j : Int) ≤ (q : Int)
                        · have h3 : (j : Int) ≤ (q : Int) - 1 := by omega
                          simp only [if_pos h2, if_pos h3]; exact ⟨trivial, trivial, trivial⟩
                        · have h3 : ¬ ((j : Int) ≤ (q : Int) - 1) := by omega
                          simp only [if_neg h2, if_neg h3]; exact ⟨trivial, trivial, trivial⟩
                  · exact ((hb2.setCell hB _).setCell hB _).setCell hB _
                case measure => simp only [intOf]; omega
        · go_wp2
          go_roundw
          case rel =>
            refine ⟨k, by omega, rfl, by rw [HST.out], htb.congr (fun j hj => ?_), hb⟩
            by_cases h : (j : Int) ≤ p
            · have z : Wy (xs.drop (k + 1)) ((j : Int) - m) = 0 := Wy_neg _ _ (hg.drop_mem _) (by omega)
              simp only [entA, entB, entC, if_pos h]
              rw [DC.out]
              simp only [Wy, Fw, Sg]
              rw [z, if_pos rfl, if_pos rfl]
              exact ⟨by omega, rfl, by rw [Int.natCast_succ]⟩
            · refine ⟨?_, ?_, ?_⟩ <;> simp [entA, entB, entC, h]
          case measure => simp only [intOf]; omega

end Go.Proofs.Ytphjiicdodkfbaa
