/-
  In how many ways numbers are made: the model's table of ways, by its contracts. Condition: pieces.
-/
import Derived.Test.YtphjiicdodkfbaaNum
import Derived.Test.YtphjiicdodkfbaaMark
import Derived.RegionTactic
import Derived.BigRegion
namespace Go.Proofs.Ytphjiicdodkfbaa
open Go.RowKit

def Wy : List Int → Int → Int
  | [], s => if s = 0 then 1 else 0
  | a :: l, s => Wy l s + Wy l (s - a)
theorem Wy_snoc : ∀ (l : List Int) (a s : Int), Wy (l ++ [a]) s = Wy l s + Wy l (s - a) := by
  intro l
  induction l with
  | nil => intro a s; rfl
  | cons b l ih =>
    intro a s
    simp only [List.cons_append, Wy, ih]
    rw [show s - b - a = s - a - b by omega]
    omega
theorem Wy_neg : ∀ (l : List Int) (s : Int), (∀ x ∈ l, 1 ≤ x ∧ x ≤ 10000) → s < 0 → Wy l s = 0 := by
  intro l
  induction l with
  | nil => intro s _ h; simp only [Wy]; rw [if_neg (by omega)]
  | cons a l ih =>
    intro s h hs
    have ha := h a (by simp)
    simp only [Wy]
    rw [ih s (fun x hx => h x (by simp [hx])) hs, ih (s - a) (fun x hx => h x (by simp [hx])) (by omega)]
    rfl
theorem Wy_bd : ∀ (l : List Int) (s : Int), 0 ≤ Wy l s ∧ Wy l s ≤ 2 ^ l.length := by
  intro l
  induction l with
  | nil => intro s; simp only [Wy]; split <;> simp
  | cons a l ih =>
    intro s
    have h1 := ih s
    have h2 := ih (s - a)
    simp only [Wy, List.length_cons]
    have e : (2 : Int) ^ (l.length + 1) = 2 ^ l.length + 2 ^ l.length := by rw [Int.pow_succ]; omega
    omega
theorem Wy_bd20 (l : List Int) (s : Int) (h : l.length ≤ 20) : 0 ≤ Wy l s ∧ Wy l s ≤ 1048576 := by
  have h1 := Wy_bd l s
  have h2 : (2 : Int) ^ l.length ≤ 2 ^ 20 := by
    have := Nat.pow_le_pow_right (show 0 < 2 by omega) h
    exact_mod_cast this
  have h3 : (2 : Int) ^ 20 = 1048576 := by decide
  omega
theorem sumFrom_cons (l : List Int) : ∀ (s a : Int), sumFrom (s + a) l = a + sumFrom s l := by
  induction l with
  | nil => intro s a; simp only [sumFrom]; omega
  | cons b l ih => intro s a; simp only [sumFrom]; rw [show s + a + b = (s + b) + a by omega, ih]
theorem Wy_big : ∀ (l : List Int) (s : Int), (∀ x ∈ l, 1 ≤ x ∧ x ≤ 10000) → sumP l < s → Wy l s = 0 := by
  intro l
  induction l with
  | nil => intro s _ h; simp only [sumP, sumFrom] at h; simp only [Wy]; rw [if_neg (by omega)]
  | cons a l ih =>
    intro s h hs
    have ha := h a (by simp)
    have e : sumP (a :: l) = a + sumP l := by unfold sumP; simp only [sumFrom]; rw [sumFrom_cons]
    simp only [Wy]
    rw [ih s (fun x hx => h x (by simp [hx])) (by omega), ih (s - a) (fun x hx => h x (by simp [hx])) (by omega)]
    rfl
theorem take_snoc_int (xs : List Int) (k : Nat) (h : k < xs.length) : xs.take (k + 1) = xs.take k ++ [xs.getD k 0] := by
  rw [List.take_add_one, List.getElem?_eq_getElem h, List.getD_eq_getElem?_getD, List.getElem?_eq_getElem h]; rfl
theorem Wy_step {xs : List Int} {k : Nat} {x : Int} (h : k < xs.length) (hx : xs.getD k 0 = x) (s : Int) : Wy (xs.take (k + 1)) s = Wy (xs.take k) s + Wy (xs.take k) (s - x) := by
  rw [take_snoc_int xs k h, hx, Wy_snoc]
theorem Good.take {xs : List Int} (h : Good xs) (k : Nat) : ∀ x ∈ xs.take k, 1 ≤ x ∧ x ≤ 10000 := fun x hx => h.mem x (List.mem_of_mem_take hx)

/-- The model's table in the middle of a round: above p the new ways, up to p the old ones. -/
def waysAt (xs : List Int) (k : Nat) (p : Int) (j : Nat) : Int := if (j : Int) ≤ p then Wy (xs.take k) j else Wy (xs.take (k + 1)) j
/-- The table's length less one. -/
def top (xs : List Int) : Nat := (sumP xs).toNat
def waysList (xs : List Int) : List Int := (List.range (top xs + 1)).map (fun (j : Nat) => Wy xs j)
theorem waysList_len (xs : List Int) : (waysList xs).length = top xs + 1 := by simp [waysList]
theorem waysList_at (xs : List Int) (j : Nat) (h : j < top xs + 1) : (waysList xs).getD j 0 = Wy xs j := by simp [waysList, List.getD, h]
theorem Good.top {xs : List Int} (h : Good xs) : (top xs : Int) = sumP xs ∧ top xs ≤ 200000 := by
  have := h.sum
  unfold Go.Proofs.Ytphjiicdodkfbaa.top
  omega

set_option maxHeartbeats 4000000 in
set_option maxRecDepth 100000 in
theorem piWays_any (v : Value) (xs : List Int) (w : World) (h : Sv w v xs) (hg : Good xs) :
    Calls Try.prog 119 #[v] w fun e w' => ∃ u, e = .returned u ∧ Ow w' w.heap.size u (waysList xs) ∧ u.ownBlock = some w.heap.size ∧ Below w.heap.size w w' := by
  have hs := h
  have hl := hg.len
  obtain ⟨htop, htop2⟩ := hg.top
  obtain ⟨p, cap, rfl, hx⟩ := h
  obtain ⟨T, eT⟩ : ∃ T, T = top xs := ⟨_, rfl⟩
  rw [← eT] at htop htop2
  have hmk := run_make_row' (P := Try.prog) 22 3 (.int .i64 0) 8 Try.underlying22 Try.infoI rfl .i64 .i64 (T + 1) (by omega) (by omega)
  have ec : ((T + 1 : Nat) : Int) = (T : Int) + 1 := by omega
  rw [ec] at hmk
  have HX := Lib.hid hx
  have HT := Lib.hid eT
  have HS := Lib.hid htop
  clear hx ec eT htop
  go_enter Try.func119, Try.ntmps119
  go_wp2_with fail
  refine (piSum_any _ _ _ hs hg).mono ?_
  rintro e w1' ⟨rfl, rfl⟩
  rw [← HS.out]
  have hm0 : (madeCells #[Value.int .i64 0] (T + 1))[0]? = some (.int .i64 0) := by simp [madeCells]
  go_wp2
  go_loopw [15] (fun i wr => ∃ k : Nat, k ≤ xs.length ∧ i = .int .i64 k ∧ wr.rowIs w.heap.size 3 (T + 1) (fun j => .int .i64 (Wy (xs.take k) j)) ∧ Below w.heap.size w wr) (fun i _ => xs.length - (intOf i).toNat)
  case atStart =>
    refine ⟨0, Nat.zero_le _, rfl, ?_, (Below.refl _ _).alloc (Nat.le_refl _) _⟩
    have hsz : ((madeCells #[Value.int .i64 0] (T + 1)).setIfInBounds 0 (Value.int .i64 1)).size = T + 1 := by rw [Array.size_setIfInBounds, size_madeCells]
    have R := World.rowIs_alloc w ((madeCells #[Value.int .i64 0] (T + 1)).setIfInBounds 0 (Value.int .i64 1)) 3 (fun j => .int .i64 (Wy (xs.take 0) j)) (fun j hj => by
      rw [hsz] at hj
      by_cases e : j = 0
      · subst e; simp [madeCells, Wy]
      · have e2 : ¬ ((j : Int) = 0) := by omega
        rw [Array.getElem?_setIfInBounds_ne (by omega)]
        simp [madeCells, hj, Nat.mod_one, Wy, e])
    rw [hsz] at R
    exact R
  case round =>
    obtain ⟨k, hk, rfl, hrow, hb⟩ := hrel
    clear hmk hm0
    by_cases hlt : k < xs.length
    · obtain ⟨b, off, rfl, hbl, hc⟩ := HX.out (by omega)
      have hcell := (hb.cell (p := ⟨b, off + k, none⟩) hbl).trans (hc k hlt)
      obtain ⟨x, ex⟩ : ∃ x, xs.getD k 0 = x := ⟨_, rfl⟩
      obtain ⟨hx1, hx2⟩ := hg.bd hlt ex
      obtain ⟨m, rfl⟩ : ∃ m : Nat, x = (m : Int) := ⟨x.toNat, by omega⟩
      rw [ex] at hcell
      have EX := Lib.hid ex
      clear ex hc
      go_wp2
      obtain ⟨wo, rfl⟩ : ∃ wo : World, wo = wr := ⟨_, rfl⟩
      clear hcell
      go_loopw [6] (fun a wi => ∃ p : Int, -1 ≤ p ∧ p ≤ T ∧ a = .int .i64 p ∧ wi.rowIs w.heap.size 3 (T + 1) (fun j => .int .i64 (waysAt xs k p j)) ∧ Below w.heap.size w wi) (fun a _ => (intOf a + 1).toNat)
      case atStart => exact ⟨T, by omega, by omega, rfl, hrow.congr (fun j hj => by unfold waysAt; rw [if_pos (by omega)]), hb⟩
      case round =>
        clear hrow hb
        obtain ⟨p, hp1, hp2, rfl, hrow, hb⟩ := hrel
        by_cases hpm : (m : Int) ≤ p
        · obtain ⟨q, rfl⟩ : ∃ q : Nat, p = (q : Int) := ⟨p.toNat, by omega⟩
          have c1 := hrow.cell (i := q) (by omega)
          have c2 := hrow.cell (i := q - m) (by omega)
          have f1 := hrow.frozen q
          have e1 : waysAt xs k q q = Wy (xs.take k) q := by unfold waysAt; rw [if_pos (by omega)]
          have e2 : waysAt xs k q ((q - m : Nat)) = Wy (xs.take k) ((q : Int) - m) := by unfold waysAt; rw [if_pos (by omega), show ((q - m : Nat) : Int) = (q : Int) - m by omega]
          rw [e1] at c1
          rw [e2] at c2
          obtain ⟨A, eA⟩ : ∃ A, Wy (xs.take k) q = A := ⟨_, rfl⟩
          obtain ⟨D, eD⟩ : ∃ D, Wy (xs.take k) ((q : Int) - m) = D := ⟨_, rfl⟩
          have bA := Wy_bd20 (xs.take k) q (by simp only [List.length_take]; omega)
          have bD := Wy_bd20 (xs.take k) ((q : Int) - m) (by simp only [List.length_take]; omega)
          have hst := Wy_step hlt EX.out (q : Int)
          rw [eA, eD] at hst
          rw [eA] at c1 bA
          rw [eD] at c2 bD
          obtain ⟨bA1, bA2⟩ := bA
          obtain ⟨bD1, bD2⟩ := bD
          have HST := Lib.hid hst
          have hi0 : (0 : Int) ≤ q := by omega
          have hi1 : (q : Int) < (T : Int) + 1 := by omega
          have hi2 : (0 : Int) ≤ (q : Int) - m := by omega
          have hi3 : (q : Int) - m < (T : Int) + 1 := by omega
          have hw1 : IntKind.i64.wrap ((q : Int) - m) = (q : Int) - m := IntWalk.i64_in _ (by omega)
          have hw2 : IntKind.i64.wrap (A + D) = A + D := IntWalk.i64_in _ (by omega)
          have ht1 : ((q : Int) - m).toNat = q - m := by omega
          clear e1 e2 eA eD hst
          go_wp2
          go_region
          go_wp2
          go_roundw
          case rel =>
            refine ⟨(q : Int) - 1, by omega, by omega, rfl, (((hrow.set q _).drew).congr (fun j hj => ?_)), ?_⟩
            · by_cases e : j = q
              · subst e
                rw [if_pos rfl]
                unfold waysAt
                rw [if_neg (by omega), HST.out]
              · rw [if_neg e]
                unfold waysAt
                by_cases h2 : (j : Int) ≤ (q : Int)
                · rw [if_pos h2, if_pos (by omega)]
                · rw [if_neg h2, if_neg (by omega)]
            · exact (hb.setCell (Nat.le_refl _) _).drew
          case measure => simp only [intOf]; omega
        · go_wp2
          go_roundw
          case rel =>
            refine ⟨k + 1, by omega, by go_num, hrow.congr (fun j hj => ?_), hb⟩
            unfold waysAt
            by_cases h2 : (j : Int) ≤ p
            · rw [if_pos h2, Wy_step hlt EX.out, Wy_neg (xs.take k) ((j : Int) - m) (hg.take k) (by omega), Int.add_zero]
            · rw [if_neg h2]
          case measure => simp only [intOf]; omega
    · have hkl : k = xs.length := by omega
      subst hkl
      go_wp2
      go_ret
      refine ⟨_, rfl, ow_of_row hrow (by rw [waysList_len, HT.out]) (by unfold maxLen; omega) (fun j hj => ?_), rfl, hb⟩
      rw [waysList_at xs j (by rw [← HT.out]; exact hj), List.take_of_length_le (Nat.le_refl _)]

noncomputable def askB (xs : List Int) (s : Int) : Bool := goodB xs && inB s 0 200000
theorem askB_no {xs : List Int} {s : Int} (h : goodB xs = false) : askB xs s = false := by simp [askB, h]
theorem askB_out {xs : List Int} {s : Int} (h : inB s 0 200000 = false) : askB xs s = false := by simp [askB, h]
theorem askB_yes {xs : List Int} {s : Int} (h : goodB xs = true) (h2 : inB s 0 200000 = true) : askB xs s = true := by simp [askB, h, h2]

theorem isAsked_any (n : Int) (w : World) : Calls Try.prog 125 #[.int .i64 n] w fun e w' => e = .returned (.bool (inB n 0 200000)) ∧ w = w' := by
  by_cases h : 0 ≤ n
  · have h1 : decide (0 ≤ n) = true := by simpa using h
    go_enter Try.func125, Try.ntmps125
    go_wp2
    go_ret
    exact ⟨ret_bool (by simp [inB, h]), rfl⟩
  · have h1 : decide (0 ≤ n) = false := by simpa using h
    go_enter Try.func125, Try.ntmps125
    go_wp2
    go_ret
    exact ⟨ret_bool (by simp [inB]; omega), rfl⟩

set_option maxHeartbeats 1000000 in
theorem piMake_any (v : Value) (xs : List Int) (s : Int) (w : World) (h : Sv w v xs) (hg : Good xs) (hs : 0 ≤ s) :
    Calls Try.prog 107 #[v, .int .i64 s] w fun e w' => e = .returned (.int .i64 (Wy xs s)) ∧ Below w.heap.size w w' := by
  obtain ⟨htop, htop2⟩ := hg.top
  have HS := Lib.hid htop
  have hL := waysList_len xs
  have HL := Lib.hid hL
  clear htop hL
  go_enter Try.func107, Try.ntmps107
  go_wp2_with fail
  refine (piWays_any _ _ _ h hg).mono ?_
  rintro e w1 ⟨u, rfl, o1, a1, b1⟩
  obtain ⟨p, cap, rfl, hx⟩ := o1.sv
  rw [HL.out] at hx ⊢
  clear o1 a1
  by_cases hlt : s < (top xs : Int) + 1
  · obtain ⟨q, rfl⟩ : ∃ q : Nat, s = (q : Int) := ⟨s.toNat, by omega⟩
    obtain ⟨b, off, rfl, hbl, hc⟩ := hx (by omega)
    have hcell := hc q (by omega)
    rw [waysList_at xs q (by omega)] at hcell
    clear hc hx
    go_wp2
    go_ret
    exact ⟨rfl, b1⟩
  · have R := Lib.hid (Wy_big xs s hg.mem (by have := HS.out; omega))
    clear hx
    go_wp2
    go_ret
    exact ⟨ret_int R.out.symm, b1⟩

end Go.Proofs.Ytphjiicdodkfbaa
