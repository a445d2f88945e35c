/-
  The binary deck in the program, by contract. Condition: 1 to 128 numbers.
-/
import Derived.Test.YtgojlabkngnkdaaKgt
import Derived.Test.YtgojlabkngnkdaaQd
import Derived.Test.YtgojlabkngnkdaaQj
import Derived.Test.YtgojlabkngnkdaaQa
namespace Go.Proofs.Ytgojlabkngnkdaa
open Go.RowKit

/-- The first j numbers with the digit k. -/
def bnP (k j : Nat) (x : Int) : Bool := decide (0 ≤ x ∧ x < (j : Int) ∧ x.toNat / 2 ^ k % 2 = 1)
theorem bnP_zero (k : Nat) : bnP k 0 = fun _ => false := by
  funext x
  simp [bnP]
  omega
theorem bnP_succ (k j : Nat) : (fun x : Int => if x = (j : Int) then decide (j / 2 ^ k % 2 = 1) else bnP k j x) = bnP k (j + 1) := by
  funext x
  unfold bnP
  by_cases h : x = (j : Int)
  · subst h
    rw [if_pos rfl, Int.toNat_natCast]
    congr 1
    apply propext
    constructor
    · intro h; exact ⟨by omega, by omega, h⟩
    · intro h; exact h.2.2
  · rw [if_neg h]
    congr 1
    apply propext
    constructor
    · intro ⟨a, b, c⟩; exact ⟨a, by omega, c⟩
    · intro ⟨a, b, c⟩; exact ⟨a, by omega, c⟩
/-- A set of the numbers less than m only. -/
theorem sL_low {p q : Int → Bool} {m : Nat} (hm : m ≤ 128) (h : ∀ x, 0 ≤ x → x ≤ 127 → p x = (decide (x < m) && q x)) : sL p = sLK q m :=
  sL_eq (sLK_pw q m) fun x => mem_sLK.trans (by
    constructor
    · rintro ⟨h0, h1, h2⟩
      exact ⟨h0, by omega, by rw [h x h0 (by omega)]; simp [h1, h2]⟩
    · rintro ⟨h0, h1, h2⟩
      rw [h x h0 h1] at h2
      simp only [Bool.and_eq_true, decide_eq_true_eq] at h2
      exact ⟨h0, h2.1, h2.2⟩)

theorem sL_bn (k n : Nat) (h : n ≤ 128) : sL (bnP k n) = cbK k n := by
  rw [sL_low (q := fun x => decide (x.toNat / 2 ^ k % 2 = 1)) h (fun x h0 _ => by
    unfold bnP
    by_cases h2 : x < (n : Int)
    · simp [h0, h2]
    · simp [h2])]
  unfold sLK cbK
  simp only [Int.toNat_natCast]
def bdK (n k : Nat) : List (Int → Bool) := (List.range k).map fun j => bnP j n
theorem bdK_zero (n : Nat) : bdK n 0 = [] := rfl
theorem bdK_succ (n k : Nat) : bdK n k ++ [bnP k n] = bdK n (k + 1) := by unfold bdK; rw [List.range_succ, List.map_append]; rfl
theorem bdK_len (n k : Nat) : (bdK n k).length = k := by simp [bdK]
theorem bdK_sL (n k : Nat) (h : n ≤ 128) : (bdK n k).map sL = bcK n k := by
  unfold bdK bcK
  rw [List.map_map]
  apply List.map_congr_left
  intro j _
  exact sL_bn j n h
theorem and1_fin : ∀ q : Fin 128, bits .and .i64 (q.val : Int) 1 = ((q.val % 2 : Nat) : Int) := by decide +kernel
theorem and1 (j k : Nat) (h : j < 128) : (bits .and .i64 ((j : Int) / 2 ^ k) 1 == 1) = decide (j / 2 ^ k % 2 = 1) := by
  have e : (j : Int) / 2 ^ k = ((j / 2 ^ k : Nat) : Int) := by simp
  have h1 : j / 2 ^ k ≤ j := Nat.div_le_self _ _
  rw [e, and1_fin ⟨j / 2 ^ k, by omega⟩]
  obtain ⟨q, hq⟩ : ∃ q, j / 2 ^ k = q := ⟨_, rfl⟩
  simp only [hq]
  rcases (by omega : q % 2 = 0 ∨ q % 2 = 1) with h | h <;> rw [h] <;> rfl

set_option maxHeartbeats 8000000 in
set_option maxRecDepth 100000 in
theorem binaryDeck_any (n : Nat) (w : World) (h0 : 1 ≤ n) (hn : n ≤ 128) :
    Calls Try.prog 42 #[.int .i64 (n : Int)] w fun e w' => ∃ s, e = .returned (.agg #[.int .i64 (n : Int), s]) ∧ Dk w' w.heap.size s (bdK n (flen (n : Int))) ∧ Below w.heap.size w w' := by
  have FE := fun W => Lib.hid (fewestCards_any (n : Int) W (by omega) (by omega))
  have L7 := flen_le (n := (n : Int)) (by omega) (by omega)
  obtain ⟨F, eF⟩ : ∃ F, flen (n : Int) = F := ⟨_, rfl⟩
  rw [eF] at FE L7 ⊢
  clear eF
  obtain ⟨W, eW⟩ : ∃ W, (w.alloc (.cells #[.int .i64 0, .slice none 0 0] 69)).alloc (.cells #[.int .i64 (n : Int), .slice none 0 0] 69) = W := ⟨_, rfl⟩
  have hb0 : Below w.heap.size w W := by rw [← eW]; exact ((Below.refl _ w).alloc (Nat.le_refl _) _).alloc (by simp) _
  have HZ : w.heap.size + 1 + 1 ≤ W.heap.size := by rw [← eW]; simp
  have k1 : W.heap[w.heap.size]? = some (.cells #[.int .i64 0, .slice none 0 0] 69 (0, 0)) := by rw [← eW]; exact blk_a _ _ _
  have k2 : W.heap[w.heap.size + 1]? = some (.cells #[.int .i64 (n : Int), .slice none 0 0] 69 (0, 0)) := by rw [← eW]; exact blk_b _ _ _
  have EW := Lib.hid eW
  clear eW
  go_enter Try.func42, Try.ntmps42
  go_wp2_with (go_at_call 61; refine (FE _).out.mono ?_; rintro e w' ⟨rfl, rfl⟩)
  rw [EW.out]
  clear EW FE
  go_loopw [11] (fun i wr => ∃ (k : Nat) (s : Value), k ≤ F ∧ i = .int .i64 k ∧ Dk wr (w.heap.size + 1 + 1) s (bdK n k) ∧ wr.heap[w.heap.size + 1]? = some (.cells #[.int .i64 (n : Int), s] 69 (0, 0)) ∧ wr.heap[w.heap.size]? = some (.cells #[.int .i64 0, .slice none 0 0] 69 (0, 0)) ∧ Below w.heap.size w wr ∧ w.heap.size + 1 + 1 ≤ wr.heap.size) (fun i _ => F - (intOf i).toNat)
  case atStart => exact ⟨0, _, Nat.zero_le _, rfl, Dk.nil _ _, k2, k1, hb0, HZ⟩
  case round =>
    clear k1 k2 hb0 HZ
    obtain ⟨k, s, hk, rfl, hD, h2, h1, hb, zW⟩ := hrel
    by_cases hlt : k < F
    · have HT := Lib.hid (bdK_succ n k)
      have hmin : min k 64 = k := by omega
      have hk0 : (0 : Int) ≤ (k : Int) := by omega
      have HKL := Lib.hid (bdK_len n k)
      obtain ⟨ps, eps⟩ : ∃ ps, bdK n k = ps := ⟨_, rfl⟩
      rw [eps] at hD HT HKL
      clear eps
      obtain ⟨sp, sc, rfl⟩ := hD.form
      have HB := Lib.hid hb
      have H1 := Lib.hid h1
      have H2 := Lib.hid h2
      have HD := Lib.hid hD
      clear hb h1 h2 hD
      go_wp2_with (refine wpList_store_row rfl 82 _ _ rfl wr.heap.size Try.zeroCells82 rfl rfl 82 Try.zeroCells82 (by exact heap_alloc_new wr _) (by rw [Try.zcS]; exact Try.setI) rfl Try.zcO ?_)
      rw [World.setRow_alloc_new]
      obtain ⟨wA, eA⟩ : ∃ wA, wr.alloc (.cells Try.zeroCells82 82) = wA := ⟨_, rfl⟩
      have hA : wA.heap[wr.heap.size]? = some (.cells (bA (bnP k 0)) 82 (0, 0)) := by rw [← eA, bnP_zero, Try.zcE]; exact heap_alloc_new wr _
      have hbA : Below wr.heap.size wr wA := by rw [← eA]; exact (Below.refl _ _).alloc (Nat.le_refl _) _
      have zA : wr.heap.size < wA.heap.size := by rw [← eA]; simp
      rw [eA]
      clear eA
      obtain ⟨wo, rfl⟩ : ∃ wo, wo = wr := ⟨_, rfl⟩
      go_loopw [16] (fun i wi => ∃ j : Nat, j ≤ n ∧ i = .int .i64 j ∧ wi.heap[wo.heap.size]? = some (.cells (bA (bnP k j)) 82 (0, 0)) ∧ Below wo.heap.size wo wi ∧ wo.heap.size < wi.heap.size) (fun i _ => n - (intOf i).toNat)
      case atStart => exact ⟨0, Nat.zero_le _, rfl, hA, hbA, zA⟩
      case round =>
        clear hA hbA zA
        obtain ⟨j, hj, rfl, hA, hbi, zi⟩ := hrel
        by_cases hlj : j < n
        · have hd : j < 128 := by omega
          have hd0 : (0 : Int) ≤ (j : Int) := by omega
          have hd1 : (j : Int) < 128 := by omega
          have hold : wr.cell? ⟨wo.heap.size, j, none⟩ = some (.bool (bnP k j j)) := by rw [cell_of_row _ _ _ _ _ _ hA]; exact bA_at _ hd
          have hfr : wr.frozen? ⟨wo.heap.size, j, none⟩ = false := frozen_of_row _ _ _ _ _ hA
          have hAN := and1 j k hd
          have HN := Lib.hid (bnP_succ k j)
          obtain ⟨b, eb⟩ : ∃ b, decide (j / 2 ^ k % 2 = 1) = b := ⟨_, rfl⟩
          rw [eb] at hAN HN
          have hnew := heap_setCell_same wr wo.heap.size j _ _ (.bool b) hA
          rw [bA_set _ hd, HN.out] at hnew
          have hnew := Lib.hid hnew
          have hb2 := hbi.setCell (p := ⟨wo.heap.size, j, none⟩) (Nat.le_refl _) (.bool b)
          obtain ⟨y, ey⟩ : ∃ y, bnP k j j = y := ⟨_, rfl⟩
          rw [ey] at hold
          clear ey eb hA hbi HN
          go_wp2
          go_roundw
          case rel => exact ⟨j + 1, by omega, by go_num, hnew.out, hb2, by simpa using zi⟩
          case measure => simp only [intOf]; omega
        · have hje : j = n := by omega
          subst hje
          have K2 := (hbi.block (w.heap.size + 1) (by omega)).trans H2.out
          obtain ⟨c20, c21, f20, f21⟩ := cells2_of K2
          have D1 := HD.out.below hbi (Nat.le_refl _)
          have CO := Lib.hid (fun W' => crd_one W' (bnP k j))
          have HC : (bA (bnP k j)).size = 128 := bA_size _
          obtain ⟨P, eP⟩ : ∃ P, bnP k j = P := ⟨_, rfl⟩
          rw [eP] at CO HC hA HT
          obtain ⟨C, eC⟩ : ∃ C, bA P = C := ⟨_, rfl⟩
          rw [eC] at CO HC hA
          have HF := fold_card HC
          obtain ⟨Z, eZ⟩ : ∃ Z, ps ++ [P] = Z := ⟨_, rfl⟩
          rw [eZ] at HT
          have EZ := Lib.hid eZ
          have HA := Lib.hid hA
          have HS := Lib.hid HC
          have HBI := Lib.hid hbi
          clear eP eC eZ hA hbi
          go_wp2_with (first
            | (refine wpList_load_row rfl 82 _ rfl wo.heap.size rfl 82 C (0, 0) _ (by exact HA.out) Try.setU rfl (by rw [HS.out]; exact Try.setI) ?_)
            | (at_builtin; refine wpList_plain rfl ?_; intro K5 hK5; refine wp_append_card (.tmp 28) (.tmp 30) rfl (w.heap.size + 1 + 1) (.slice sp ps.length sc) ps rfl (by exact D1.alloc _) _ [P] rfl (by exact CO.out wr) (by have := HKL.out; simp; omega) (by simp; omega) ?_; intro v3 w3 h3 g3; rw [EZ.out] at h3; have K3 := (g3.block (w.heap.size + 1) (by simp; omega) (fun e => by have := (World.ownsRow.lt D1 _ e.symm).1; omega)).trans ((heap_alloc_old _ _ (by omega)).trans K2); obtain ⟨i20, i21, j20, j21⟩ := cells2_of K3; obtain ⟨vp, vc, rfl⟩ := h3.form; refine hK5 _ _ ?_))
          have z3 := g3.size
          have b3 : Below (w.heap.size + 1 + 1) wr w3 := ((Below.refl _ wr).alloc (by omega) _).trans ((D1.alloc _).grown (by simp; omega) g3)
          have HB3 := Lib.hid ((nxt HB.out HBI.out).trans (b3.mono (by omega)))
          have H13 := Lib.hid ((b3.block w.heap.size (by omega)).trans ((HBI.out.block w.heap.size (by omega)).trans H1.out))
          have H23 := Lib.hid K3
          have H33 := Lib.hid h3
          have z4 : w.heap.size + 1 + 1 ≤ w3.heap.size := by simp at z3; omega
          clear b3 g3 h3 K3 K2 D1 c20 c21 f20 f21 HD HB H1 H2 HF CO HC HA HS HBI
          first | go_roundw | (go_wp2; go_roundw)
          case rel => exact ⟨k + 1, _, by omega, by go_num, by rw [← HT.out]; exact H33.out.abv ((Abv.refl _ _).setCell (g := w.heap.size + 1) (by omega) 1 _), pair_set H23.out _, by rw [heap_setCell_other _ _ _ _ (by show w.heap.size ≠ w.heap.size + 1; omega)]; exact H13.out, HB3.out.setCell (p := ⟨w.heap.size + 1, 1, none⟩) (by show w.heap.size ≤ w.heap.size + 1; omega) _, by simp; omega⟩
          case measure => simp only [intOf]; omega
    · have hke : k = F := by omega
      subst hke
      obtain ⟨c20, c21, f20, f21⟩ := cells2_of h2
      obtain ⟨c10, c11, f10, f11⟩ := cells2_of h1
      obtain ⟨sp, sc, rfl⟩ := hD.form
      have HB := Lib.hid hb
      have HD := Lib.hid hD
      clear hb h1 h2 hD
      go_wp2
      obtain ⟨fs, hfs⟩ := Try.deckU
      refine bodyPost_ret (v := .agg #[.int .i64 (n : Int), .slice sp (bdK n k).length sc]) (results_two rfl _ _ w.heap.size _ _ fs rfl ?_ ?_ hfs Try.deckI) rfl ⟨_, rfl, (HD.out.abv (((Abv.refl _ _).setCell (g := w.heap.size) (by omega) _ _).setCell (g := w.heap.size) (by omega) _ _)).mono (by omega), (HB.out.setCell (p := ⟨w.heap.size, 0, none⟩) (Nat.le_refl _) _).setCell (p := ⟨w.heap.size, 1, none⟩) (Nat.le_refl _) _⟩
      · simp [World.cell?_setCell_other, World.cell?_setCell_same, go_sem, c10]
      · simp [World.cell?_setCell_other, World.cell?_setCell_same, go_sem, c11]

end Go.Proofs.Ytgojlabkngnkdaa
