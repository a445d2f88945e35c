/-
  The amounts for which greedy change fails, in the model: by contracts. Conditions: coins; slices of at most 2^40 numbers.
-/
import Derived.Test.YtdgadabfahmdmaaVff
import Derived.Test.YtdgadabfahmdmaaVgi
import Derived.Test.YtdgadabfahmdmaaVbs
namespace Go.Proofs.Ytdgadabfahmdmaa
open Go.RowKit

theorem Try.infoB : (Try.prog.info? 4).map (fun i => (i.zero, i.size, i.bytes)) = some (some (.bool false), 1, 1) := by kernel_rfl
/-- A slice of truth values of the call's own. -/
def Bs (w : World) (g n : Nat) (p : Nat → Bool) : Prop := g < w.heap.size ∧ ∀ j, j < n → w.cell? ⟨g, j, none⟩ = some (.bool (p j))
theorem Bs.below {w w' : World} {g n B : Nat} {p : Nat → Bool} (h : Bs w g n p) (hb : Below B w w') (hB : w.heap.size ≤ B) : Bs w' g n p :=
  ⟨Nat.lt_of_lt_of_le h.1 hb.size, fun j hj => (hb.cell (p := ⟨g, j, none⟩) (by show g < B; have := h.1; omega)).trans (h.2 j hj)⟩

set_option maxHeartbeats 4000000 in
set_option maxRecDepth 20000 in
theorem cnFails_any (v : Value) (cs : List Nat) (m : Nat) (w : World) (h : Sp w v (iL cs)) (hc : Cn cs) (hm : m ≤ 1048576) :
    Calls Try.prog 66 #[v, .int .i64 m] w fun e w' => e = .returned (.slice (some ⟨w.heap.size, 0, none⟩) (m + 1) (m + 1)) ∧ Bs w' w.heap.size (m + 1) (fun a => decide (Fails cs a)) ∧ Below w.heap.size w w' := by
  have B1 : Below w.heap.size w (w.alloc (.cells (madeCells #[.bool false] (m + 1)) 4)) := (Below.refl _ w).alloc (Nat.le_refl _) _
  have CF := Lib.hid (cnFew_any v cs m _ ((h.below B1 (Nat.le_refl _)).sv) hc.pos hc.eight hm)
  have CG := fun (a : Nat) (ha : a ≤ m) (W : World) (hW : Below w.heap.size w W) => Lib.hid (cnGreedy_any v cs a W ((h.below hW (Nat.le_refl _)).sv) hc.pos (by have := hc.eight; omega) (by omega))
  have CG := Lib.hid CG
  have GT := Lib.hid (fun a => gr_tot hc.pos a)
  have GL := Lib.hid (fun a => gr_len cs a)
  have h8 := hc.eight
  have hfl := fewT_len cs m
  have FA := Lib.hid (fewT_at cs m)
  have hmk := run_make_row' (P := Try.prog) 55 4 (.bool false) 1 Try.underlying55 Try.infoB rfl .i64 .i64 (m + 1) (by omega) (by omega)
  rw [Int.natCast_succ] at hmk
  have R0 := World.rowIs_made w (.bool false) (m + 1) 4
  obtain ⟨b, off, cap, rfl, hx⟩ := h
  clear hx hc
  go_enter Try.func66, Try.ntmps66
  go_wp2_with fail
  refine CF.out.mono ?_
  rintro e w1 ⟨u, rfl, ho, hoa, b1⟩
  have R1 := rowIs_keep R0 b1
  have b2 : Below w.heap.size w w1 := nxt B1 b1
  obtain ⟨p, cap2, rfl, hx⟩ := ho.sv
  rw [hfl] at hx ⊢
  obtain ⟨g, o, rfl, hg, hct⟩ := hx (by omega)
  have HCT : Hid (∀ j, j < m + 1 → w1.cell? ⟨g, o + j, none⟩ = some (.int .i64 (fwI cs j))) := Lib.hid (fun j hj => by rw [hct j hj, FA.out j hj])
  have hgw : w.heap.size < g := by
    unfold OwnAt at hoa
    simp [Value.ownBlock] at hoa
    omega
  clear hct hx ho hoa b1 CF hfl R0 B1 hmk
  go_wp2
  go_loopw [17] (fun q wr => ∃ k : Nat, k ≤ m + 1 ∧ q = .int .i64 (k : Int) ∧ wr.rowIs w.heap.size 4 (m + 1) (fun j => .bool (if j < k then decide (Fails cs j) else false)) ∧ Below w.heap.size w wr ∧ wr.heap[g]? = w1.heap[g]? ∧ g < wr.heap.size) (fun q _ => m + 1 - (intOf q).toNat)
  case atStart => exact ⟨0, Nat.zero_le _, rfl, R1.congr (fun j _ => by simp), b2, rfl, hg⟩
  case round =>
    clear R1 b2
    obtain ⟨k, hk, rfl, hrow, hb, hgk, hgs⟩ := hrel
    by_cases hlt : k < m + 1
    · have hcell := (cell_blk hgk).trans (HCT.out k hlt)
      have hz := hb.size
      have C1 := CG.out k (by omega) wr hb
      have hgt := GT.out k
      have hgl := GL.out k
      have j0 : (0 : Int) ≤ k := by omega
      have j1 : (k : Int) < (m : Int) + 1 := by omega
      have REL : Hid (∀ (W : World) (t : Bool), Below wr.heap.size wr W → t = decide (Fails cs k) → (W.setCell ⟨w.heap.size, k, none⟩ (.bool t)).rowIs w.heap.size 4 (m + 1) (fun j => .bool (if j < k + 1 then decide (Fails cs j) else false)) ∧ Below w.heap.size w (W.setCell ⟨w.heap.size, k, none⟩ (.bool t)) ∧ (W.setCell ⟨w.heap.size, k, none⟩ (.bool t)).heap[g]? = w1.heap[g]? ∧ g < (W.setCell ⟨w.heap.size, k, none⟩ (.bool t)).heap.size) := Lib.hid (fun W t hW ht => by
        refine ⟨((rowIs_keep hrow hW).set k _).congr (fun j hj => ?_), (hb.trans (hW.mono hz)).setCell (Nat.le_refl _) _, (blk_other _ _ _ (by show g ≠ w.heap.size; omega)).trans ((hW.block g hgs).trans hgk), by have := hW.size; simp [World.setCell]; omega⟩
        by_cases e : j = k
        · subst e; rw [if_pos rfl, if_pos (by omega), ht]
        · rw [if_neg e]
          by_cases h2 : j < k
          · rw [if_pos h2, if_pos (show j < k + 1 by omega)]
          · rw [if_neg h2, if_neg (show ¬ j < k + 1 by omega)])
      have CELL : Hid (∀ (W : World), Below wr.heap.size wr W → W.cell? ⟨w.heap.size, k, none⟩ = some (.bool (if k < k then decide (Fails cs k) else false)) ∧ W.frozen? ⟨w.heap.size, k, none⟩ = false) := Lib.hid (fun W hW => ⟨(rowIs_keep hrow hW).cell (i := k) hlt, (rowIs_keep hrow hW).frozen k⟩)
      by_cases hf : fo cs k < big
      · rw [fwI_yes hf] at hcell
        have hd : decide ((0 : Int) ≤ ((fo cs k : Nat) : Int)) = true := by simp only [decide_eq_true_eq]; omega
        by_cases hz2 : (gr cs k).2 = 0
        · have dz : decide ((gr cs k).2 = 0) = true := by simpa using hz2
          rw [dz] at C1
          have PS := fun (u : Value) (W : World) (hs : Sv W u (iL (gr cs k).1)) => Lib.hid (piSum_any u (gr cs k).1 W hs (by omega) (by omega))
          have AN : Hid (decide (fo cs k < tot (gr cs k).1) = decide (Fails cs k)) := Lib.hid (fails_few hf hz2).symm
          obtain ⟨x, ex⟩ : ∃ x, fo cs k = x := ⟨_, rfl⟩
          rw [ex] at hcell hd AN
          obtain ⟨y, ey⟩ : ∃ y, tot (gr cs k).1 = y := ⟨_, rfl⟩
          rw [ey] at PS AN
          have PS := Lib.hid PS
          clear hf hz2 dz hgt hgl ex ey hrow
          go_wp2_with fail
          refine C1.out.mono ?_
          rintro e w2 ⟨u, rfl, ho, b2⟩
          have P1 := PS.out u w2 ho.sv
          obtain ⟨c1, c2⟩ := CELL.out w2 b2
          go_wp2_with fail
          refine P1.out.mono ?_
          rintro e w3 ⟨rfl, rfl⟩
          clear PS P1 ho
          go_wp2
          go_roundw
          case rel =>
            obtain ⟨q1, q2, q3, q4⟩ := REL.out w2 _ b2 AN.out
            exact ⟨k + 1, by omega, by go_num, q1, q2, q3, q4⟩
          case measure => simp only [intOf]; omega
        · have dz : decide ((gr cs k).2 = 0) = false := by simpa using hz2
          rw [dz] at C1
          have AN : Hid (true = decide (Fails cs k)) := Lib.hid (fails_rest hf hz2).symm
          obtain ⟨x, ex⟩ : ∃ x, fo cs k = x := ⟨_, rfl⟩
          rw [ex] at hcell hd
          clear hf hz2 dz hgt hgl ex hrow
          go_wp2_with fail
          refine C1.out.mono ?_
          rintro e w2 ⟨u, rfl, ho, b2⟩
          obtain ⟨c1, c2⟩ := CELL.out w2 b2
          clear ho
          go_wp2
          go_roundw
          case rel =>
            obtain ⟨q1, q2, q3, q4⟩ := REL.out w2 _ b2 AN.out
            exact ⟨k + 1, by omega, by go_num, q1, q2, q3, q4⟩
          case measure => simp only [intOf]; omega
      · rw [fwI_no hf] at hcell
        have AN : Hid (false = decide (Fails cs k)) := Lib.hid (fails_free hf).symm
        clear hf hgt hgl hrow
        go_wp2_with fail
        refine C1.out.mono ?_
        rintro e w2 ⟨u, rfl, ho, b2⟩
        obtain ⟨c1, c2⟩ := CELL.out w2 b2
        clear ho
        go_wp2
        go_roundw
        case rel =>
          obtain ⟨q1, q2, q3, q4⟩ := REL.out w2 _ b2 AN.out
          exact ⟨k + 1, by omega, by go_num, q1, q2, q3, q4⟩
        case measure => simp only [intOf]; omega
    · have hke : k = m + 1 := by omega
      go_wp2
      go_ret
      refine ⟨rfl, ⟨by obtain ⟨c, hc, _⟩ := hrow; exact (Array.getElem?_eq_some_iff.1 hc).1, fun j hj => ?_⟩, hb⟩
      have := hrow.cell (i := j) hj
      rw [if_pos (by omega)] at this
      exact this
end Go.Proofs.Ytdgadabfahmdmaa
