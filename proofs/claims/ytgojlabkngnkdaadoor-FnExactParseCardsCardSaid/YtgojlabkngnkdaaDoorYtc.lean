/-
  The laws' helpers over clues: taken over, counted, compared, marked and found again, by their contracts. Conditions: at most 2^20 clues.
-/
import Derived.Test.YtgojlabkngnkdaaDoorYcl
import Derived.Test.YtgojlabkngnkdaaDoorMark
import Derived.Test.YtgojlabkngnkdaaDoorQow
namespace Go.Proofs.YtgojlabkngnkdaaDoor
open Go.RowKit

theorem Tryd.infoQ : (Tryd.prog.info? 73).map (fun i => (i.zero, i.size, i.bytes)) = some (some (.agg #[.int .i64 0, .int .i64 0, .int .i64 0]), 3, 24) := by kernel_rfl
theorem clue_info : ∃ i, Tryd.prog.info? 73 = some i ∧ i.zero = some (.agg #[.int .i64 0, .int .i64 0, .int .i64 0]) ∧ i.size = 3 ∧ i.bytes = 24 := by
  have := Tryd.infoQ
  cases hq : Tryd.prog.info? 73 with
  | none => rw [hq] at this; cases this
  | some i => rw [hq] at this; simp at this; exact ⟨i, rfl, this.1, this.2.1, this.2.2⟩

set_option maxHeartbeats 2000000 in
theorem toClue_any (k a b : Int) (w : World) :
    Calls Tryd.prog 71 #[.agg #[.int .i64 k, .int .i64 a, .int .i64 b]] w fun e w' => e = .returned (.agg #[.int .i64 k, .int .i64 a, .int .i64 b]) ∧ Below w.heap.size w w' := by
  go_enter Tryd.func71, Tryd.ntmps71
  go_wp2
  refine bodyPost_ret (v := .agg #[.int .i64 k, .int .i64 a, .int .i64 b]) (by simp [results, Tryd.results71, go_sem]) rfl ⟨rfl, ?_⟩
  exact (((Below.refl _ _).alloc (Nat.le_refl _) _).alloc (by simp) _).alloc (by simp; omega) _

set_option maxHeartbeats 2000000 in
theorem szClueS_any (v : Value) (cs : List Cl) (l : Int) (w : World) (h : Cv w v cs) (hl : cs.length ≤ 9223372036854775807) (h0 : 0 ≤ l) (h1 : l ≤ 1099511627776) :
    Calls Tryd.prog 40 #[v, .int .i64 l] w fun e w' => e = .returned (.int .i64 (if l < cs.length then -1 else l - cs.length)) ∧ w = w' := by
  generalize hR : (if l < (cs.length : Int) then -1 else l - cs.length : Int) = R
  obtain ⟨p, cap, rfl, _, _, _⟩ := h
  have hw : IntKind.i64.wrap (l - (cs.length : Int)) = l - cs.length := IntWalk.i64_in _ (by omega)
  by_cases hlt : l < cs.length
  · rw [if_pos hlt] at hR
    subst hR
    have d : decide (l - (cs.length : Int) < 0) = true := by simp; omega
    go_enter Tryd.func40, Tryd.ntmps40
    go_wp2
    go_ret
    exact ⟨rfl, rfl⟩
  · rw [if_neg hlt] at hR
    subst hR
    have d : decide (l - (cs.length : Int) < 0) = false := by simp; omega
    go_enter Tryd.func40, Tryd.ntmps40
    go_wp2
    go_ret
    exact ⟨rfl, rfl⟩

set_option maxHeartbeats 2000000 in
theorem szPuzzle_any (v : Value) (cs : List Cl) (l : Int) (w : World) (h : Cv w v cs) (hl : cs.length ≤ 9223372036854775807) (h0 : 0 ≤ l) (h1 : l ≤ 1099511627776) :
    Calls Tryd.prog 16 #[.agg #[v], .int .i64 l] w fun e w' => e = .returned (.int .i64 (if l < cs.length then -1 else l - cs.length)) ∧ Below w.heap.size w w' := by
  have SZ := Lib.hid (szClueS_any v cs l _ (h.below ((Below.refl w.heap.size w).alloc (Nat.le_refl _) (.cells #[v] 38)) (Nat.le_refl _)) hl h0 h1)
  have b1 : Below w.heap.size w (w.alloc (.cells #[v] 38)) := (Below.refl _ _).alloc (Nat.le_refl _) _
  by_cases hlt : l < cs.length
  · rw [if_pos hlt] at SZ ⊢
    go_enter Tryd.func16, Tryd.ntmps16
    go_wp2_with fail
    refine SZ.out.mono ?_
    rintro e w2 ⟨rfl, rfl⟩
    go_wp2_with fail
    go_ret
    exact ⟨rfl, b1⟩
  · rw [if_neg hlt] at SZ ⊢
    obtain ⟨q, eq⟩ : ∃ q, l - (cs.length : Int) = q := ⟨_, rfl⟩
    rw [eq] at SZ ⊢
    have d : decide (q < 0) = false := by simp; omega
    clear eq
    go_enter Tryd.func16, Tryd.ntmps16
    go_wp2_with fail
    refine SZ.out.mono ?_
    rintro e w2 ⟨rfl, rfl⟩
    go_wp2_with fail
    go_ret
    exact ⟨rfl, b1⟩

theorem made_clues (n : Nat) (hn : n ≤ 1099511627776) : ∀ w, (Instr.makeSlice 41 (.int .i64 (n : Int)) (.int .i64 (n : Int))).run Tryd.prog w = .ok (.slice (some ⟨w.heap.size, 0, none⟩) n n) (w.alloc (.cells (madeCells #[.int .i64 0, .int .i64 0, .int .i64 0] (n * 3)) 73)) := fun w => by
  obtain ⟨i0, hi, hz0, hz1, hz2⟩ := clue_info
  have h := run_make (P := Tryd.prog) w 41 73 i0 _ Tryd.underlying41 hi hz0 .i64 .i64 (n : Int) (n : Int) (by omega) (by omega) (by rw [hz2]; omega) (by omega)
  rw [show (n : Int).toNat = n by omega, hz1] at h
  exact h
theorem madeC_size (n : Nat) : (madeCells #[Value.int .i64 0, .int .i64 0, .int .i64 0] n).size = n := by simp [madeCells]
theorem tc_made (w : World) (n : Nat) : Tc (w.alloc (.cells (madeCells #[.int .i64 0, .int .i64 0, .int .i64 0] (n * 3)) 73)) w.heap.size n n (fun _ => ⟨0, 0, 0⟩) :=
  ⟨_, heap_alloc_new w _, madeC_size _, fun j hj => ⟨clmade_zero n _ (by omega), clmade_zero n _ (by omega), clmade_zero n _ (by omega)⟩⟩

set_option maxHeartbeats 4000000 in
theorem toClueS_any (v : Value) (cs : List Cl) (w : World) (h : Cv w v cs) (hl : cs.length ≤ 1099511627776) :
    Calls Tryd.prog 43 #[v] w fun e w' => ∃ u, e = .returned u ∧ Ck w' w.heap.size u cs ∧ OwnAt u w.heap.size ∧ Below w.heap.size w w' := by
  obtain ⟨p, cap, rfl, _, _, hx⟩ := h
  have HX := Lib.hid hx
  have hmk := made_clues cs.length hl
  have TM := Lib.hid (tc_made w cs.length)
  have SZ := Lib.hid (madeC_size (cs.length * 3))
  obtain ⟨M, eM⟩ : ∃ M, madeCells #[Value.int .i64 0, .int .i64 0, .int .i64 0] (cs.length * 3) = M := ⟨_, rfl⟩
  rw [eM] at hmk TM SZ
  clear hx eM
  go_enter Tryd.func43, Tryd.ntmps43
  go_wp2
  clear hmk
  go_loopw [4] (fun i wr => ∃ k : Nat, k ≤ cs.length ∧ i = .int .i64 k ∧ Tc wr w.heap.size cs.length cs.length (fun j => if j < k then cA cs j else ⟨0, 0, 0⟩) ∧ Below w.heap.size w wr) (fun i _ => cs.length - (intOf i).toNat)
  case atStart => exact ⟨0, Nat.zero_le _, rfl, TM.out.congr (Nat.le_refl _) (fun j _ => by simp), (Below.refl _ _).alloc (Nat.le_refl _) _⟩
  case round =>
    obtain ⟨k, hk, rfl, ht, hb⟩ := hrel
    by_cases hlt : k < cs.length
    · obtain ⟨b, off, rfl, hbl, hc⟩ := HX.out (by omega)
      obtain ⟨h1, h2, h3⟩ := hc k hlt
      have g1 : wr.cell? ⟨b, off + k * 3, none⟩ = _ := (hb.cell (p := ⟨b, off + k * 3, none⟩) hbl).trans h1
      have g2 : wr.cell? ⟨b, off + k * 3 + 1, none⟩ = _ := (hb.cell (p := ⟨b, off + k * 3 + 1, none⟩) hbl).trans h2
      have g3 : wr.cell? ⟨b, off + k * 3 + 2, none⟩ = _ := (hb.cell (p := ⟨b, off + k * 3 + 2, none⟩) hbl).trans h3
      have HT := Lib.hid ht
      clear ht hc h1 h2 h3
      generalize eA : (cA cs k).k = A at g1
      generalize eB : (cA cs k).a = B at g2
      generalize eC : (cA cs k).b = C at g3
      have E : Hid ((⟨A, B, C⟩ : Cl) = cA cs k) := Lib.hid (by rw [← eA, ← eB, ← eC])
      clear eA eB eC
      go_wp2_with fail
      refine (toClue_any _ _ _ _).mono ?_
      rintro e w2 ⟨rfl, b2⟩
      have ht2 := HT.out.below b2 (Nat.le_refl _)
      obtain ⟨o1, o2, o3, f1, f2, f3⟩ := ht2.cells (j := k) hlt
      have hb2 := hb.trans (b2.mono hb.size)
      have HT2 := Lib.hid (Tc.set (j := k) ht2 (Nat.le_refl _) A B C)
      clear ht2
      go_wp2_with fail
      go_roundw
      case rel =>
        refine ⟨k + 1, by omega, by go_num, HT2.out.congr (Nat.le_refl _) (fun j hj => ?_), below3 hb2 (Nat.le_refl _) _ _ _ _ _ _⟩
        by_cases e : j = k
        · subst e; rw [if_pos rfl, if_pos (by omega)]; exact E.out
        · rw [if_neg e]
          by_cases h2 : j < k
          · rw [if_pos h2, if_pos (by omega)]
          · rw [if_neg h2, if_neg (by omega)]
      case measure => simp [intOf]; omega
    · obtain rfl : k = cs.length := by omega
      go_wp2
      go_ret
      exact ⟨_, rfl, ht.ck rfl (Nat.le_refl _) (by unfold maxLen; omega) (Nat.le_refl _) (fun j hj => by rw [if_pos hj]), rfl, hb⟩

theorem Ck.abv {w w' : World} {B : Nat} {v : Value} {cs : List Cl} (h : Ck w B v cs) (k : Abv B w w') : Ck w' B v cs := rowsZ_abv h k
set_option maxHeartbeats 2000000 in
theorem toPuzzle_any (v : Value) (cs : List Cl) (w : World) (h : Cv w v cs) (hl : cs.length ≤ 1099511627776) :
    Calls Tryd.prog 18 #[.agg #[v]] w fun e w' => ∃ u b, e = .returned (.agg #[u]) ∧ Ck w' w.heap.size u cs ∧ OwnAt u b ∧ Below w.heap.size w w' := by
  have TS := Lib.hid (fun W (hb : Below w.heap.size w W) => toClueS_any v cs W (h.below hb (Nat.le_refl _)) hl)
  clear h
  go_enter Tryd.func18, Tryd.ntmps18
  go_wp2_with fail
  refine (TS.out _ ((((Below.refl _ _).alloc (Nat.le_refl _) _).alloc (by simp) _).alloc (by simp; omega) _)).mono ?_
  rintro e w2 ⟨u, rfl, ou, hu, b2⟩
  have z2 := b2.size
  simp only [World.size_alloc] at z2
  obtain ⟨c1, f1⟩ := cells1_of (w := w2) (b := w.heap.size + 1) ((b2.block _ (by simp)).trans (blk_1 w _ _ _))
  obtain ⟨c2, f2⟩ := cells1_of (w := w2) (b := w.heap.size + 1 + 1) ((b2.block _ (by simp)).trans (blk_2 w _ _ _))
  have HO := Lib.hid ou
  have HU := Lib.hid hu
  have HB : Hid (Below w.heap.size w w2) := Lib.hid (((((Below.refl _ _).alloc (Nat.le_refl _) _).alloc (by simp) _).alloc (by simp; omega) _).trans (b2.mono (by simp; omega)))
  have hs := ou.shape
  clear ou hu b2
  obtain ⟨p, cap, rfl⟩ := hs
  go_wp2_with fail
  refine bodyPost_ret (v := .agg #[.slice p cs.length cap]) (by simp [results, Tryd.results18, go_sem, c1]) rfl ⟨_, _, rfl, Ck.mono (Ck.abv HO.out ((Abv.refl _ _).setCell (by simp) _ _ |>.setCell (by simp) _ _)) (by simp; omega), HU.out, (HB.out.setCell (by simp; omega) _).setCell (by simp) _⟩

set_option maxHeartbeats 2000000 in
theorem eqClue_yes (k a b : Int) (w : World) :
    Calls Tryd.prog 73 #[.agg #[.int .i64 k, .int .i64 a, .int .i64 b], .agg #[.int .i64 k, .int .i64 a, .int .i64 b]] w fun e w' => e = .returned (.bool true) ∧ Below w.heap.size w w' := by
  go_enter Tryd.func73, Tryd.ntmps73
  go_wp2
  go_ret
  exact ⟨rfl, ((Below.refl _ _).alloc (Nat.le_refl _) _).alloc (by simp) _⟩

set_option maxHeartbeats 4000000 in
theorem eqClueS_yes (v u : Value) (cs ds : List Cl) (w : World) (hv : Cv w v cs) (hu : Cv w u ds) (hxy : cs = ds) (hl : cs.length ≤ 1099511627776) :
    Calls Tryd.prog 45 #[v, u] w fun e w' => e = .returned (.bool true) ∧ Below w.heap.size w w' := by
  subst hxy
  obtain ⟨p, cap, rfl, _, _, hx⟩ := hv
  obtain ⟨q, cap2, rfl, _, _, hy⟩ := hu
  have HX := Lib.hid hx
  have HY := Lib.hid hy
  clear hx hy
  go_enter Tryd.func45, Tryd.ntmps45
  go_wp2
  go_loopw [5] (fun i wr => ∃ k : Nat, k ≤ cs.length ∧ i = .int .i64 k ∧ Below w.heap.size w wr) (fun i _ => cs.length - (intOf i).toNat)
  case atStart => exact ⟨0, Nat.zero_le _, rfl, Below.refl _ _⟩
  case round =>
    obtain ⟨k, hk, rfl, hb⟩ := hrel
    by_cases hlt : k < cs.length
    · obtain ⟨b, off, rfl, hbl, hc⟩ := HX.out (by omega)
      obtain ⟨b2, off2, rfl, hbl2, hc2⟩ := HY.out (by omega)
      obtain ⟨h1, h2, h3⟩ := hc k hlt
      obtain ⟨k1, k2, k3⟩ := hc2 k hlt
      have g1 : wr.cell? ⟨b, off + k * 3, none⟩ = _ := (hb.cell (p := ⟨b, off + k * 3, none⟩) hbl).trans h1
      have g2 : wr.cell? ⟨b, off + k * 3 + 1, none⟩ = _ := (hb.cell (p := ⟨b, off + k * 3 + 1, none⟩) hbl).trans h2
      have g3 : wr.cell? ⟨b, off + k * 3 + 2, none⟩ = _ := (hb.cell (p := ⟨b, off + k * 3 + 2, none⟩) hbl).trans h3
      have m1 : wr.cell? ⟨b2, off2 + k * 3, none⟩ = _ := (hb.cell (p := ⟨b2, off2 + k * 3, none⟩) hbl2).trans k1
      have m2 : wr.cell? ⟨b2, off2 + k * 3 + 1, none⟩ = _ := (hb.cell (p := ⟨b2, off2 + k * 3 + 1, none⟩) hbl2).trans k2
      have m3 : wr.cell? ⟨b2, off2 + k * 3 + 2, none⟩ = _ := (hb.cell (p := ⟨b2, off2 + k * 3 + 2, none⟩) hbl2).trans k3
      clear hc hc2 h1 h2 h3 k1 k2 k3
      generalize (cA cs k).k = A at g1 m1
      generalize (cA cs k).a = B at g2 m2
      generalize (cA cs k).b = C at g3 m3
      have hi : (k : Int) < cs.length := by omega
      have hi0 : (0 : Int) ≤ k := by omega
      go_wp2
      go_region_with (go_at_call 73; refine (eqClue_yes _ _ _ _).mono ?_; rintro e w2 ⟨rfl, b2⟩)
      all_goals
        go_wp2
        go_roundw
        case rel => exact ⟨k + 1, by omega, by go_num, by first | exact hb.drew.trans (b2.mono (by simpa using hb.size)) | exact hb.trans (b2.mono hb.size)⟩
        case measure => simp [intOf]; omega
    · go_wp2
      go_ret
      exact ⟨rfl, hb⟩


set_option maxHeartbeats 2000000 in
theorem eqPuzzle_yes (v u : Value) (cs ds : List Cl) (w : World) (hv : Cv w v cs) (hu : Cv w u ds) (hxy : cs = ds) (hl : cs.length ≤ 1099511627776) :
    Calls Tryd.prog 20 #[.agg #[v], .agg #[u]] w fun e w' => e = .returned (.bool true) ∧ Below w.heap.size w w' := by
  have b1 : Below w.heap.size w ((w.alloc (.cells #[v] 43)).alloc (.cells #[u] 43)) := ((Below.refl _ _).alloc (Nat.le_refl _) _).alloc (by simp) _
  have EQ := Lib.hid (eqClueS_yes v u cs ds _ (hv.below b1 (Nat.le_refl _)) (hu.below b1 (Nat.le_refl _)) hxy hl)
  clear hv hu hxy
  go_enter Tryd.func20, Tryd.ntmps20
  go_wp2_with fail
  refine EQ.out.mono ?_
  rintro e w2 ⟨rfl, b2⟩
  go_wp2_with fail
  go_ret
  exact ⟨rfl, nxt b1 b2⟩

theorem grown_cell {w w' : World} {g j : Nat} (h : w.grownBy w' (some g)) (v : Value) : w.grownBy (w'.setCell ⟨g, j, none⟩ v) (some g) :=
  grown_trans h ⟨rfl, rfl, rfl, by simp, fun k _ hk => heap_setCell_other _ _ _ _ (fun e => hk (by rw [e]))⟩
/-- The marks that are laid. -/
def mkC (k : Int) (n : Nat) : List Cl := (List.range n).map (fun (j : Nat) => ⟨k + 3 * (j : Int), k + 3 * (j : Int) + 1, k + 3 * (j : Int) + 2⟩)
theorem mkC_len (k : Int) (n : Nat) : (mkC k n).length = n := by simp [mkC]
theorem mkC_at {k : Int} {n j : Nat} (h : j < n) : cA (mkC k n) j = ⟨k + 3 * (j : Int), k + 3 * (j : Int) + 1, k + 3 * (j : Int) + 2⟩ := by simp [mkC, cA, List.getD, h]

set_option maxHeartbeats 4000000 in
theorem markClueS_any (v : Value) (cs : List Cl) (B : Nat) (k : Int) (w : World) (h : Ck w B v cs) (hl : cs.length ≤ 1048576) (hk0 : 0 ≤ k) (hk1 : k ≤ 1048577) :
    Calls Tryd.prog 49 #[v, .int .i64 k] w fun e w' => e = .returned (.int .i64 (k + 3 * cs.length)) ∧ Ck w' B v (mkC k cs.length) ∧ w.grownBy w' v.ownBlock := by
  rcases h.form with ⟨rfl, rfl⟩ | ⟨g, cap, rfl, hB, hg, hc1, hc2, ht⟩
  · go_enter Tryd.func49, Tryd.ntmps49
    go_wp2
    refine wp_loop_rounds 1 ?_
    rw [rounds_succ]
    go_wp2
    go_ret
    exact ⟨ret_int (by simp), h, grown_refl _ _⟩
  · clear h
    go_enter Tryd.func49, Tryd.ntmps49
    go_wp2
    go_loopw [1, 5] (fun t i wr => ∃ j : Nat, j ≤ cs.length ∧ i = .int .i64 j ∧ t = .int .i64 (k + 3 * (j : Int)) ∧ Hid (Tc wr g cs.length cap (fun i => if i < j then cA (mkC k cs.length) i else cA cs i)) ∧ w.grownBy wr (some g)) (fun _ i _ => cs.length - (intOf i).toNat)
    case atStart => exact ⟨0, Nat.zero_le _, rfl, by simp, Lib.hid (ht.congr (Nat.le_refl _) fun i _ => by rw [if_neg (by omega)]), grown_refl _ _⟩
    case round =>
      clear ht
      obtain ⟨j, hj, rfl, rfl, HT, hgr⟩ := hrel
      by_cases hlt : j < cs.length
      · obtain ⟨c1, c2, c3, f1, f2, f3⟩ := HT.out.cells hlt
        have S := Lib.hid (Tc.set (j := j) HT.out hc1 (k + 3 * (j : Int)) (k + 3 * (j : Int) + 1) (k + 3 * (j : Int) + 1 + 1))
        obtain ⟨x, ex⟩ : ∃ x, k + 3 * (j : Int) = x := ⟨_, rfl⟩
        have hx0 : 0 ≤ x := by omega
        have hx1 : x ≤ 5000000 := by omega
        have EX := Lib.hid ex
        rw [ex] at S ⊢
        clear ex
        go_wp2
        refine ⟨⟨j + 1, by omega, by go_num, by have := EX.out; congr 1; omega, Lib.hid (S.out.congr (Nat.le_refl _) fun i hi => ?_), grown_cell (grown_cell (grown_cell hgr _) _) _⟩, by simp [intOf]; omega⟩
        by_cases e : i = j
        · subst e
          have := EX.out
          rw [if_pos rfl, if_pos (by omega), mkC_at hi, this]
          congr 1
          omega
        · rw [if_neg e]
          by_cases h2 : i < j
          · rw [if_pos h2, if_pos (by omega)]
          · rw [if_neg h2, if_neg (by omega)]
      · obtain rfl : j = cs.length := by omega
        go_wp2
        go_ret
        refine ⟨rfl, ?_, hgr⟩
        exact HT.out.ck (B := B) (cs := mkC k cs.length) (by rw [mkC_len]) hc1 hc2 hB (fun i hi => by rw [if_pos hi])

set_option maxHeartbeats 4000000 in
theorem heldClueS_any (v : Value) (n : Nat) (k : Int) (w : World) (h : Cv w v (mkC k n)) (hl : n ≤ 1048576) (hk0 : 0 ≤ k) (hk1 : k ≤ 1048577) :
    Calls Tryd.prog 50 #[v, .int .i64 k] w fun e w' => e = .returned (.int .i64 (k + 3 * n)) ∧ w = w' := by
  obtain ⟨p, cap, rfl, _, _, hx⟩ := h
  rw [mkC_len] at hx ⊢
  have HX := Lib.hid hx
  clear hx
  go_enter Tryd.func50, Tryd.ntmps50
  go_wp2
  go_loop [1, 5] (fun t i => ∃ j : Nat, j ≤ n ∧ i = .int .i64 j ∧ t = .int .i64 (k + 3 * (j : Int))) (fun _ i => n - (intOf i).toNat)
  case atStart => exact ⟨0, Nat.zero_le _, rfl, by simp⟩
  case round =>
    obtain ⟨j, hj, rfl, rfl⟩ := hrel
    by_cases hlt : j < n
    · obtain ⟨b, off, rfl, hbl, hc⟩ := HX.out (by omega)
      obtain ⟨c1, c2, c3⟩ := hc j hlt
      rw [mkC_at hlt] at c1 c2 c3
      simp only at c1 c2 c3
      obtain ⟨x, ex⟩ : ∃ x, k + 3 * (j : Int) = x := ⟨_, rfl⟩
      have hx0 : 0 ≤ x := by omega
      have hx1 : x ≤ 5000000 := by omega
      have EX := Lib.hid ex
      rw [ex] at c1 c2 c3 ⊢
      rw [show x + 2 = x + 1 + 1 by omega] at c3
      clear hc ex
      go_wp2
      go_round
      case rel => exact ⟨j + 1, by omega, by go_num, by have := EX.out; congr 1; omega⟩
      case measure => simp only [intOf]; omega
    · obtain rfl : j = n := by omega
      go_wp2
      go_ret
      exact ⟨rfl, rfl⟩

set_option maxHeartbeats 2000000 in
theorem markPuzzle_any (v : Value) (cs : List Cl) (B : Nat) (k : Int) (w : World) (h : Ck w B v cs) (hl : cs.length ≤ 1048576) (hk0 : 0 ≤ k) (hk1 : k ≤ 1048577) :
    Calls Tryd.prog 23 #[.agg #[v], .int .i64 k] w fun e w' => e = .returned (.int .i64 (k + 3 * cs.length)) ∧ Ck w' B v (mkC k cs.length) ∧ w.grownBy w' v.ownBlock := by
  have b1 : Below w.heap.size w (w.alloc (.cells #[v] 43)) := (Below.refl _ _).alloc (Nat.le_refl _) _
  have MK := Lib.hid (markClueS_any v cs B k _ (h.below b1 (Nat.le_refl _)) hl hk0 hk1)
  have G1 := Lib.hid (World.grownBy_alloc w (.cells #[v] 43) v.ownBlock)
  clear h
  go_enter Tryd.func23, Tryd.ntmps23
  go_wp2_with fail
  refine MK.out.mono ?_
  rintro e w2 ⟨rfl, o2, g2⟩
  go_wp2_with fail
  go_ret
  exact ⟨rfl, o2, grown_trans G1.out g2⟩

set_option maxHeartbeats 2000000 in
theorem heldPuzzle_any (v : Value) (n : Nat) (k : Int) (w : World) (h : Cv w v (mkC k n)) (hl : n ≤ 1048576) (hk0 : 0 ≤ k) (hk1 : k ≤ 1048577) :
    Calls Tryd.prog 24 #[.agg #[v], .int .i64 k] w fun e w' => e = .returned (.int .i64 (k + 3 * n)) ∧ Below w.heap.size w w' := by
  have b1 : Below w.heap.size w (w.alloc (.cells #[v] 43)) := (Below.refl _ _).alloc (Nat.le_refl _) _
  have HE := Lib.hid (heldClueS_any v n k _ (h.below b1 (Nat.le_refl _)) hl hk0 hk1)
  have d : decide (k + 3 * (n : Int) < 0) = false := by simp; omega
  clear h
  go_enter Tryd.func24, Tryd.ntmps24
  go_wp2_with fail
  refine HE.out.mono ?_
  rintro e w2 ⟨rfl, rfl⟩
  go_wp2_with fail
  go_ret
  exact ⟨rfl, b1⟩


end Go.Proofs.YtgojlabkngnkdaaDoor
