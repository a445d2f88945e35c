/-
  How many signs have each value, in the model, by contract. Condition: pieces.
-/
import Derived.Test.YtcgifmoddojnmaaZpu
import Derived.Test.YtcgifmoddojnmaaWaysz
namespace Go.Proofs.Ytcgifmoddojnmaa
open Go.RowKit

/-- The model's table in the middle of a round: what the entries ahead of p gave. -/
def sct (l : List Int) (T m : Int) (p : Int) (j : Int) : Int :=
  (if j < p then Sy l (j - T) else 0) + (if j - m < p then Sy l (j - m - T) else 0) + (if j + m < p then Sy l (j + m - T) else 0)
theorem sct_zero (l : List Int) (T m : Int) {j : Int} (hm : 1 ≤ m) (hT : Sy l (j - m - T) = 0 ∨ m ≤ j) (hj : 0 ≤ j) : sct l T m 0 j = 0 := by
  unfold sct
  rw [if_neg (by omega), if_neg (show ¬ j + m < 0 by omega)]
  rcases hT with h | h
  · rw [h]; simp
  · rw [if_neg (by omega)]; rfl
theorem sct_skip {l : List Int} {T m p : Int} (h : Sy l (p - T) = 0) (j : Int) : sct l T m (p + 1) j = sct l T m p j := by
  unfold sct
  have e1 : (if j < p + 1 then Sy l (j - T) else 0) = if j < p then Sy l (j - T) else 0 := by
    by_cases e : j = p
    · subst e; rw [h]; simp
    · by_cases h2 : j < p
      · rw [if_pos h2, if_pos (by omega)]
      · rw [if_neg h2, if_neg (by omega)]
  have e2 : (if j - m < p + 1 then Sy l (j - m - T) else 0) = if j - m < p then Sy l (j - m - T) else 0 := by
    by_cases e : j - m = p
    · rw [e, h]; simp
    · by_cases h2 : j - m < p
      · rw [if_pos h2, if_pos (by omega)]
      · rw [if_neg h2, if_neg (by omega)]
  have e3 : (if j + m < p + 1 then Sy l (j + m - T) else 0) = if j + m < p then Sy l (j + m - T) else 0 := by
    by_cases e : j + m = p
    · rw [e, h]; simp
    · by_cases h2 : j + m < p
      · rw [if_pos h2, if_pos (by omega)]
      · rw [if_neg h2, if_neg (by omega)]
  rw [e1, e2, e3]
theorem sct_step {l : List Int} {T m p a : Int} (hm : 1 ≤ m) (h : Sy l (p - T) = a) (j : Int) :
    sct l T m (p + 1) j = if j = p - m then sct l T m p (p - m) + a else if j = p + m then sct l T m p (p + m) + a else if j = p then sct l T m p p + a else sct l T m p j := by
  by_cases h1 : j = p - m
  · subst h1
    rw [if_pos rfl]
    unfold sct
    rw [if_pos (show p - m < p + 1 by omega), if_pos (show p - m - m < p + 1 by omega), if_pos (show p - m + m < p + 1 by omega), if_pos (show p - m < p by omega), if_pos (show p - m - m < p by omega), if_neg (show ¬ p - m + m < p by omega), show p - m + m = p by omega, h]
    omega
  · rw [if_neg h1]
    by_cases h2 : j = p + m
    · subst h2
      rw [if_pos rfl]
      unfold sct
      rw [if_neg (show ¬ p + m < p + 1 by omega), if_pos (show p + m - m < p + 1 by omega), if_neg (show ¬ p + m + m < p + 1 by omega), if_neg (show ¬ p + m < p by omega), if_neg (show ¬ p + m - m < p by omega), if_neg (show ¬ p + m + m < p by omega), show p + m - m = p by omega, h]
      omega
    · rw [if_neg h2]
      by_cases h3 : j = p
      · subst h3
        rw [if_pos rfl]
        unfold sct
        rw [if_pos (show j < j + 1 by omega), if_pos (show j - m < j + 1 by omega), if_neg (show ¬ j + m < j + 1 by omega), if_neg (show ¬ j < j by omega), if_pos (show j - m < j by omega), if_neg (show ¬ j + m < j by omega), h]
        omega
      · rw [if_neg h3]
        unfold sct
        have e1 : (j < p + 1) = (j < p) := by apply propext; omega
        have e2 : (j - m < p + 1) = (j - m < p) := by apply propext; omega
        have e3 : (j + m < p + 1) = (j + m < p) := by apply propext; omega
        simp only [e1, e2, e3]
theorem sct_bd {l : List Int} (hl : l.length ≤ 20) (T m p j : Int) : 0 ≤ sct l T m p j ∧ sct l T m p j ≤ 10460353203 := by
  have h1 := Sy_bd20 l (j - T) hl
  have h2 := Sy_bd20 l (j - m - T) hl
  have h3 := Sy_bd20 l (j + m - T) hl
  unfold sct
  repeat' split
  all_goals omega
theorem sct_all {l : List Int} {T m j : Int} (h : ∀ x ∈ l, 1 ≤ x ∧ x ≤ 10000) (hT : sumFrom 0 l ≤ T) (hm : 1 ≤ m) (hj : j < 2 * T + 1) : sct l T m (2 * T + 1) j = Sy l (j - T) + Sy l (j - T - m) + Sy l (j - T + m) := by
  unfold sct
  rw [if_pos hj, if_pos (show j - m < 2 * T + 1 by omega), show j - m - T = j - T - m by omega, show j + m - T = j - T + m by omega]
  by_cases h2 : j + m < 2 * T + 1
  · rw [if_pos h2]
  · rw [if_neg h2, Sy_big l (j - T + m) h (by omega)]
theorem sum_take (xs : List Int) (hm : ∀ x ∈ xs, 1 ≤ x ∧ x ≤ 10000) (k : Nat) : 0 ≤ sumFrom 0 (xs.take k) ∧ sumFrom 0 (xs.take k) ≤ sumFrom 0 xs := by
  have e : xs = xs.take k ++ xs.drop k := (List.take_append_drop k xs).symm
  have app : ∀ (a b : List Int) (s : Int), sumFrom s (a ++ b) = sumFrom (sumFrom s a) b := by
    intro a
    induction a with
    | nil => intro b s; rfl
    | cons c a ih => intro b s; simp only [List.cons_append, sumFrom, ih]
  have h1 := sumFrom_bd (xs.take k) 0 fun x hx => hm x (List.mem_of_mem_take hx)
  have h2 := sumFrom_bd (xs.drop k) (sumFrom 0 (xs.take k)) fun x hx => hm x (List.mem_of_mem_drop hx)
  rw [← app, ← e] at h2
  exact ⟨h1.1, h2.1⟩
theorem sum_take_succ {xs : List Int} {k : Nat} {x : Int} (h : k < xs.length) (hx : xs.getD k 0 = x) : sumFrom 0 (xs.take (k + 1)) = sumFrom 0 (xs.take k) + x := by
  rw [take_snoc_int xs k h, hx]
  have app : ∀ (a : List Int) (s : Int), sumFrom s (a ++ [x]) = sumFrom s a + x := by
    intro a
    induction a with
    | nil => intro s; rfl
    | cons c a ih => intro s; simp only [List.cons_append, sumFrom, ih]
  exact app _ _
/-- A value that is told lies between the ends. -/
theorem Sy_in {l : List Int} {s : Int} (h : ∀ x ∈ l, 1 ≤ x ∧ x ≤ 10000) (hz : Sy l s ≠ 0) : -sumFrom 0 l ≤ s ∧ s ≤ sumFrom 0 l := by
  refine ⟨?_, ?_⟩
  · by_cases e : s < -sumFrom 0 l
    · exact absurd (Sy_small l s h e) hz
    · omega
  · by_cases e : sumFrom 0 l < s
    · exact absurd (Sy_big l s h e) hz
    · omega
def syList (xs : List Int) : List Int := (List.range (2 * top xs + 1)).map (fun (j : Nat) => Sy xs ((j : Int) - top xs))
theorem syList_len (xs : List Int) : (syList xs).length = 2 * top xs + 1 := by simp [syList]
theorem syList_at (xs : List Int) (j : Nat) (h : j < 2 * top xs + 1) : (syList xs).getD j 0 = Sy xs ((j : Int) - top xs) := by simp [syList, List.getD, h]

set_option maxHeartbeats 4000000 in
set_option maxRecDepth 100000 in
theorem siWays_any (v : Value) (xs : List Int) (w : World) (h : Sv w v xs) (hg : Good xs) :
    Calls Try.prog 78 #[v] w fun e w' => ∃ u, e = .returned u ∧ Ow w' w.heap.size u (syList xs) ∧ Below w.heap.size w w' := by
  have hs := h
  have hl := hg.len
  obtain ⟨htop, htop2⟩ := hg.top
  obtain ⟨p, cap, rfl, hx⟩ := h
  obtain ⟨T, eT⟩ : ∃ T, T = top xs := ⟨_, rfl⟩
  rw [← eT] at htop htop2
  have hmk := run_make_row' (P := Try.prog) 22 3 (.int .i64 0) 8 Try.underlying22 Try.infoI rfl .i64 .i64 (2 * T + 1) (by omega) (by omega)
  have ec : ((2 * T + 1 : Nat) : Int) = 2 * (T : Int) + 1 := by omega
  rw [ec] at hmk
  have HX := Lib.hid hx
  have HT := Lib.hid eT
  have HS := Lib.hid htop
  clear hx ec eT htop
  go_enter Try.func78, Try.ntmps78
  go_wp2_with fail
  refine (piSum_any _ _ _ hs hg).mono ?_
  rintro e w1' ⟨rfl, rfl⟩
  rw [← HS.out]
  have hm0 : (madeCells #[Value.int .i64 0] (2 * T + 1))[T]? = some (.int .i64 0) := by
    have h : T < 2 * T + 1 := by omega
    simp [madeCells, h, Nat.mod_one]
  go_wp2
  go_loopw [4, 21] (fun a i wr => ∃ (k g : Nat), k ≤ xs.length ∧ i = .int .i64 k ∧ a = .slice (some ⟨g, 0, none⟩) (2 * T + 1) (2 * T + 1) ∧ w.heap.size ≤ g ∧ wr.rowIs g 3 (2 * T + 1) (fun j => .int .i64 (Sy (xs.take k) ((j : Int) - T))) ∧ Below w.heap.size w wr) (fun _ i _ => xs.length - (intOf i).toNat)
  case atStart =>
    refine ⟨0, w.heap.size, Nat.zero_le _, rfl, rfl, Nat.le_refl _, ?_, (Below.refl _ _).alloc (Nat.le_refl _) _⟩
    have hsz : ((madeCells #[Value.int .i64 0] (2 * T + 1)).setIfInBounds T (Value.int .i64 1)).size = 2 * T + 1 := by rw [Array.size_setIfInBounds, size_madeCells]
    have R := World.rowIs_alloc w ((madeCells #[Value.int .i64 0] (2 * T + 1)).setIfInBounds T (Value.int .i64 1)) 3 (fun j => .int .i64 (Sy (xs.take 0) ((j : Int) - T))) (fun j hj => by
      rw [hsz] at hj
      by_cases e : j = T
      · subst e
        have h : j < 2 * j + 1 := by omega
        simp [madeCells, h, Sy]
      · have e2 : ¬ ((j : Int) - T = 0) := by omega
        rw [Array.getElem?_setIfInBounds_ne (by omega)]
        simp [madeCells, hj, Nat.mod_one, Sy, e2])
    rw [hsz] at R
    exact R
  case round =>
    obtain ⟨k, g, hk, rfl, rfl, hgB, hrow, hb⟩ := hrel
    clear hm0
    by_cases hlt : k < xs.length
    · obtain ⟨b, off, rfl, hbl, hc⟩ := HX.out (by omega)
      have hcell := (hb.cell (p := ⟨b, off + k, none⟩) hbl).trans (hc k hlt)
      obtain ⟨x, ex⟩ : ∃ x, xs.getD k 0 = x := ⟨_, rfl⟩
      obtain ⟨hx1, hx2⟩ := hg.bd hlt ex
      obtain ⟨m, rfl⟩ : ∃ m : Nat, x = (m : Int) := ⟨x.toNat, by omega⟩
      rw [ex] at hcell
      have EX := Lib.hid ex
      have hst := sum_take_succ hlt ex
      have hs1 := sum_take xs hg.mem (k + 1)
      have hs0 := (sum_take xs hg.mem k).1
      have hsT : sumFrom 0 xs = T := by have := HS.out; unfold sumP at this; omega
      rw [hst, hsT] at hs1
      obtain ⟨S, eS⟩ : ∃ S, sumFrom 0 (xs.take k) = S := ⟨_, rfl⟩
      rw [eS] at hs1 hs0
      have ES := Lib.hid eS
      have hl20 : (xs.take k).length ≤ 20 := by simp only [List.length_take]; omega
      have HMM : Hid (∀ x ∈ xs.take k, 1 ≤ x ∧ x ≤ 10000) := Lib.hid (hg.take k)
      have HST := fun s => Lib.hid (Sy_take hlt EX.out s)
      obtain ⟨l, eL⟩ : ∃ l, xs.take k = l := ⟨_, rfl⟩
      rw [eL] at hrow hl20 HMM ES HST
      have hgl := hrow.lt
      have hz0 := hb.size
      clear ex hc hst hsT eS eL
      go_wp2
      obtain ⟨wo, ewo⟩ : ∃ wo : World, wr = wo := ⟨_, rfl⟩
      obtain ⟨N, hN⟩ : ∃ N, wo.heap.size = N := ⟨_, rfl⟩
      subst ewo
      rw [hN] at hgl hz0 ⊢
      clear hcell
      go_loopw [31] (fun i wi => ∃ q : Nat, q ≤ 2 * T + 1 ∧ i = .int .i64 q ∧ wi.rowIs g 3 (2 * T + 1) (fun j => .int .i64 (Sy l ((j : Int) - T))) ∧ wi.rowIs N 3 (2 * T + 1) (fun j => .int .i64 (sct l T m q j)) ∧ Below w.heap.size w wi) (fun i _ => 2 * T + 1 - (intOf i).toNat)
      case atStart =>
        refine ⟨0, Nat.zero_le _, rfl, hrow.alloc _, ?_, hb.alloc (by rw [hN]; exact hz0) _⟩
        rw [← hN]
        exact (World.rowIs_made wr _ _ _).congr (fun j hj => by
          show Value.int .i64 0 = .int .i64 (sct l T m 0 j)
          rw [sct_zero l T m (by omega) ?_ (by omega)]
          by_cases e : (m : Int) ≤ j
          · exact .inr e
          · exact .inl (Sy_small l _ HMM.out (by rw [ES.out]; omega)))
      case round =>
        clear hrow hb hmk
        obtain ⟨q, hq, rfl, hro, hrn, hb⟩ := hrel
        by_cases hq2 : q < 2 * T + 1
        · have c0 := hro.cell hq2
          obtain ⟨a, ea⟩ : ∃ a, Sy l ((q : Int) - T) = a := ⟨_, rfl⟩
          rw [ea] at c0
          have ha := Sy_bd20 l ((q : Int) - T) hl20
          rw [ea] at ha
          obtain ⟨ha0, ha1⟩ := ha
          have hqi : (q : Int) < 2 * (T : Int) + 1 := by omega
          have hqn : (0 : Int) ≤ q := by omega
          by_cases hz : a = 0
          · subst hz
            have SK := fun j => Lib.hid (sct_skip (m := m) ea j)
            clear ea ha0 ha1
            go_wp2
            go_roundw
            case rel => exact ⟨q + 1, by omega, by go_num, hro, hrn.congr (fun j hj => by rw [← (SK j).out]; rfl), hb⟩
            case measure => simp only [intOf]; omega
          · have hap : 0 < a := by omega
            have hin := Sy_in HMM.out (by rw [ea]; exact hz)
            rw [ES.out] at hin
            have n1 := hrn.cell (i := q) hq2
            have n2 := hrn.cell (i := q + m) (by omega)
            have n3 := hrn.cell (i := q - m) (by omega)
            obtain ⟨A, eA⟩ : ∃ A, sct l T m q q = A := ⟨_, rfl⟩
            obtain ⟨B, eB⟩ : ∃ B, sct l T m q ((q : Int) + m) = B := ⟨_, rfl⟩
            obtain ⟨C, eC⟩ : ∃ C, sct l T m q ((q : Int) - m) = C := ⟨_, rfl⟩
            have i2 : (((q + m : Nat) : Int)) = (q : Int) + m := by omega
            have i3 : (((q - m : Nat) : Int)) = (q : Int) - m := by omega
            have bA := sct_bd hl20 T m q q
            have bB := sct_bd hl20 T m q ((q : Int) + m)
            have bC := sct_bd hl20 T m q ((q : Int) - m)
            rw [i2, eB] at n2
            rw [i3, eC] at n3
            rw [eA] at n1 bA
            rw [eB] at bB
            rw [eC] at bC
            have r1 := hrn.set q (.int .i64 (A + a))
            have r2 := r1.set (q + m) (.int .i64 (B + a))
            have r3 := r2.set (q - m) (.int .i64 (C + a))
            have d2 := r1.cell (i := q + m) (by omega)
            rw [if_neg (by omega), i2, eB] at d2
            have d3 := r2.cell (i := q - m) (by omega)
            rw [if_neg (by omega), if_neg (by omega), i3, eC] at d3
            have f1 := hrn.frozen q
            have f2 := r1.frozen (q + m)
            have f3 := r2.frozen (q - m)
            have hne : g ≠ N := by omega
            have o3 := ((hro.setOther (a := ⟨N, q, none⟩) hne (.int .i64 (A + a))).setOther (a := ⟨N, q + m, none⟩) hne (.int .i64 (B + a))).setOther (a := ⟨N, q - m, none⟩) hne (.int .i64 (C + a))
            have b3 := ((hb.setCell (p := ⟨N, q, none⟩) hz0 (.int .i64 (A + a))).setCell (p := ⟨N, q + m, none⟩) hz0 (.int .i64 (B + a))).setCell (p := ⟨N, q - m, none⟩) hz0 (.int .i64 (C + a))
            have R3 : World.rowIs _ _ _ _ _ := r3.congr (g := fun j => .int .i64 (sct l T m ((q : Int) + 1) j)) (fun j hj => by
              rw [sct_step (by omega) ea j]
              by_cases e1 : j = q - m
              · rw [if_pos e1, if_pos (show (j : Int) = (q : Int) - m by omega), eC]
              · rw [if_neg e1, if_neg (show ¬ (j : Int) = (q : Int) - m by omega)]
                by_cases e2 : j = q + m
                · rw [if_pos e2, if_pos (show (j : Int) = (q : Int) + m by omega), eB]
                · rw [if_neg e2, if_neg (show ¬ (j : Int) = (q : Int) + m by omega)]
                  by_cases e3 : j = q
                  · rw [if_pos e3, if_pos (show (j : Int) = (q : Int) by omega), eA]
                  · rw [if_neg e3, if_neg (show ¬ (j : Int) = (q : Int) by omega)])
            have hR3 := Lib.hid R3
            have ho3 := Lib.hid o3
            have hb3 := Lib.hid b3
            have w1 : IntKind.i64.wrap (A + a) = A + a := IntWalk.i64_in _ (by omega)
            have w2 : IntKind.i64.wrap (B + a) = B + a := IntWalk.i64_in _ (by omega)
            have w3 : IntKind.i64.wrap (C + a) = C + a := IntWalk.i64_in _ (by omega)
            have w4 : IntKind.i64.wrap ((q : Int) + m) = (q : Int) + m := IntWalk.i64_in _ (by omega)
            have w5 : IntKind.i64.wrap ((q : Int) - m) = (q : Int) - m := IntWalk.i64_in _ (by omega)
            have t4 : ((q : Int) + m).toNat = q + m := by omega
            have t5 : ((q : Int) - m).toNat = q - m := by omega
            have j2 : (q : Int) + m < 2 * (T : Int) + 1 := by omega
            have j3 : (q : Int) - m < 2 * (T : Int) + 1 := by omega
            have j4 : (0 : Int) ≤ (q : Int) + m := by omega
            have j5 : (0 : Int) ≤ (q : Int) - m := by omega
            clear R3 o3 b3 r1 r2 r3 eA eB eC i2 i3 ea hin bA bB bC hz n2 n3
            go_wp2
            go_roundw
            case rel => exact ⟨q + 1, by omega, by go_num, ho3.out, hR3.out, hb3.out⟩
            case measure => simp only [intOf]; omega
        · have hqe : q = 2 * T + 1 := by omega
          subst hqe
          go_wp2
          go_roundw
          case rel =>
            refine ⟨k + 1, N, by omega, by go_num, rfl, hz0, hrn.congr (fun j hj => ?_), hb⟩
            rw [(HST _).out]
            have := sct_all (T := T) (m := m) (j := j) HMM.out (by rw [ES.out]; omega) (by omega) (by omega)
            rw [show ((2 * T + 1 : Nat) : Int) = 2 * (T : Int) + 1 by omega, this]
          case measure => simp only [intOf]; omega
    · have hkl : k = xs.length := by omega
      subst hkl
      clear hmk
      go_wp2
      go_ret
      rw [List.take_of_length_le (Nat.le_refl _)] at hrow
      refine ⟨_, rfl, (ow_of_row hrow (by rw [syList_len, HT.out]) (by unfold maxLen; omega) (fun j hj => ?_)).mono hgB, hb⟩
      rw [syList_at xs j (by rw [← HT.out]; exact hj), HT.out]

end Go.Proofs.Ytcgifmoddojnmaa
