/-
  The model's table of the fewest coins, by its contract. Conditions: coins (at least one kind) of at least 1, amounts of at most 2^20.
-/
import Derived.Test.YtdgadabfahmdmaaVgd
import Derived.Test.YtdgadabfahmdmaaVfe
import Derived.Deep.RegionWith
import Derived.IntWalk
namespace Go.Proofs.Ytdgadabfahmdmaa
open Go.RowKit

set_option maxHeartbeats 4000000 in
set_option maxRecDepth 20000 in
theorem cnFew_any (v : Value) (cs : List Nat) (m : Nat) (w : World) (h : Sv w v (iL cs)) (hp : Pos cs) (hl : cs.length ≤ 8) (hm : m ≤ 1048576) :
    Calls Try.prog 61 #[v, .int .i64 m] w fun e w' => ∃ u, e = .returned u ∧ Ow w' w.heap.size u (fewT cs m) ∧ OwnAt u w.heap.size ∧ Below w.heap.size w w' := by
  have hlen := iL_len cs
  obtain ⟨p, cap, rfl, hx⟩ := h
  rw [hlen] at hx ⊢
  have hmk := run_make_row' (P := Try.prog) 22 3 (.int .i64 0) 8 Try.underlying22 Try.infoI rfl .i64 .i64 (m + 1) (by omega) (by omega)
  rw [Int.natCast_succ] at hmk
  have HP := Lib.hid hp
  have HX : Hid (0 < cs.length → ∃ b off, p = some ⟨b, off, none⟩ ∧ b < w.heap.size ∧ ∀ j, j < cs.length → w.cell? ⟨b, off + j, none⟩ = some (.int .i64 ((cs.getD j 0 : Nat) : Int))) := Lib.hid (fun h0 => by
    obtain ⟨b, off, h1, h2, h3⟩ := hx h0
    exact ⟨b, off, h1, h2, fun j hj => by rw [← iL_at]; exact h3 j hj⟩)
  clear hp hx hlen
  go_enter Try.func61, Try.ntmps61
  go_wp2
  go_loopw [6] (fun i wr => ∃ val : Nat, 1 ≤ val ∧ val ≤ m + 1 ∧ i = .int .i64 val ∧ wr.rowIs w.heap.size 3 (m + 1) (fun j => .int .i64 (if j < val then fwI cs j else 0)) ∧ Below w.heap.size w wr) (fun i _ => m + 1 - (intOf i).toNat)
  case atStart => exact ⟨1, Nat.le_refl _, by omega, rfl, (World.rowIs_made w _ _ _).congr (fun j _ => by by_cases e : j < 1; (have : j = 0 := by omega); (subst this; simp [fwI_zero HP.out]); simp [e]), (Below.refl _ _).alloc (Nat.le_refl _) _⟩
  case round =>
    obtain ⟨val, hv1, hv2, rfl, hrow, hb⟩ := hrel
    by_cases hlt : val ≤ m
    · have hold := hrow.cell (i := val) (by omega)
      have hfr := hrow.frozen val
      have hi1 : (val : Int) < (m : Int) + 1 := by omega
      have hi0 : (0 : Int) ≤ val := by omega
      clear hmk
      go_wp2
      go_loopw [22] (fun i wr => ∃ k : Nat, k ≤ cs.length ∧ i = .int .i64 k ∧ wr.rowIs w.heap.size 3 (m + 1) (fun j => .int .i64 (fwAt cs val k j)) ∧ Below w.heap.size w wr) (fun i _ => cs.length - (intOf i).toNat)
      case atStart =>
        refine ⟨0, Nat.zero_le _, rfl, (hrow.set val _).congr (fun j _ => ?_), hb.setCell (Nat.le_refl _) _⟩
        by_cases e : j = val
        · subst e; simp [fwAt, fwS]
        · by_cases h2 : j < val <;> simp [fwAt, e, h2]
      case round =>
        obtain ⟨k, hk, rfl, hrow, hb⟩ := hrel
        by_cases hkl : k < cs.length
        · obtain ⟨b, off, rfl, hbl, hc⟩ := HX.out (by omega)
          have hcell := (hb.cell (p := ⟨b, off + k, none⟩) hbl).trans (hc k hkl)
          have hn1 := HP.out (cs.getD k 0) (at_mem hkl)
          have NX := fwAt_next (v := val) hkl
          obtain ⟨q, eq⟩ : ∃ q, cs.getD k 0 = q := ⟨_, rfl⟩
          rw [eq] at hcell hn1 NX
          have c1 := hrow.cell (i := val) (by omega)
          rw [fwAt_self] at c1
          have f1 := hrow.frozen val
          have bd1 := fwS_bd HP.out val (cs.take k)
          obtain ⟨x, ex⟩ : ∃ x, fwS (fwI cs) val (cs.take k) (-1) = x := ⟨_, rfl⟩
          rw [ex] at c1 bd1 NX
          obtain ⟨bd3, bd4⟩ := bd1
          have hi1 : (val : Int) < (m : Int) + 1 := by omega
          have hi0 : (0 : Int) ≤ val := by omega
          have hki0 : (0 : Int) ≤ k := by omega
          have hki1 : (k : Int) < cs.length := by omega
          clear hc eq
          by_cases hnv : q ≤ val
          · have c2 := hrow.cell (i := val - q) (by omega)
            rw [fwAt_low (by omega)] at c2
            have bd2 := fwI_bd HP.out (val - q)
            obtain ⟨y, ey⟩ : ∃ y, fwI cs (val - q) = y := ⟨_, rfl⟩
            rw [ey] at c2 bd2 NX
            obtain ⟨bd5, bd6⟩ := bd2
            have j0 : (0 : Int) ≤ (val : Int) - q := by omega
            have j1 : (val : Int) - q < (m : Int) + 1 := by omega
            have j2 : ((val : Int) - q).toNat = val - q := by omega
            have hw1 : IntKind.i64.wrap (y + 1) = y + 1 := IntWalk.i64_in _ (by omega)
            have hw2 : IntKind.i64.wrap ((val : Int) - q) = (val : Int) - q := IntWalk.i64_in _ (by omega)
            have hqi : decide ((q : Int) ≤ (val : Int)) = true := by simp only [decide_eq_true_eq]; omega
            have ex' := Lib.hid ex
            clear ex ey
            by_cases hy : 0 ≤ y
            · have dy : decide (0 ≤ y) = true := by simpa using hy
              by_cases hx0 : x < 0
              · have dx : decide (x < 0) = true := by simpa using hx0
                have NX := Lib.hid (NX.trans (if_pos ⟨hnv, hy, .inl hx0⟩))
                go_wp2
                go_quiet (fail)
                go_wp2
                go_roundw
                case rel =>
                  refine ⟨k + 1, by omega, by go_num, (hrow.drew.set val _).congr (fun j _ => ?_), (below_drewN hb _).setCell (Nat.le_refl _) _⟩
                  by_cases e : j = val
                  · subst e; simp only [if_true]; rw [fwAt_self, NX.out]
                  · by_cases h2 : j < val <;> simp [fwAt, e, h2]
                case measure => simp [intOf]; omega
              · have dx : decide (x < 0) = false := by simpa using hx0
                by_cases hxy : y + 1 < x
                · have dz : decide (y + 1 < x) = true := by simpa using hxy
                  have NX := Lib.hid (NX.trans (if_pos ⟨hnv, hy, .inr hxy⟩))
                  go_wp2
                  go_quiet (fail)
                  go_wp2
                  go_roundw
                  case rel =>
                    refine ⟨k + 1, by omega, by go_num, (hrow.drew.set val _).congr (fun j _ => ?_), (below_drewN hb _).setCell (Nat.le_refl _) _⟩
                    by_cases e : j = val
                    · subst e; simp only [if_true]; rw [fwAt_self, NX.out]
                    · by_cases h2 : j < val <;> simp [fwAt, e, h2]
                  case measure => simp [intOf]; omega
                · have dz : decide (y + 1 < x) = false := by simpa using hxy
                  have NX := Lib.hid (NX.trans (if_neg (by omega)))
                  go_wp2
                  go_quiet (fail)
                  go_wp2
                  go_roundw
                  case rel =>
                    refine ⟨k + 1, by omega, by go_num, hrow.drew.congr (fun j _ => ?_), below_drewN hb _⟩
                    by_cases e : j = val
                    · subst e; rw [fwAt_self, fwAt_self, NX.out, ex'.out]
                    · by_cases h2 : j < val <;> simp [fwAt, e, h2]
                  case measure => simp [intOf]; omega
            · have dy : decide (0 ≤ y) = false := by simpa using hy
              have NX := Lib.hid (NX.trans (if_neg (by omega)))
              go_wp2
              go_quiet (fail)
              go_wp2
              go_roundw
              case rel =>
                refine ⟨k + 1, by omega, by go_num, hrow.drew.congr (fun j _ => ?_), below_drewN hb _⟩
                by_cases e : j = val
                · subst e; rw [fwAt_self, fwAt_self, NX.out, ex'.out]
                · by_cases h2 : j < val <;> simp [fwAt, e, h2]
              case measure => simp [intOf]; omega
          · have ex' := Lib.hid ex
            clear ex
            have hqi : decide ((q : Int) ≤ (val : Int)) = false := by simp only [decide_eq_false_iff_not]; omega
            have NX := Lib.hid (NX.trans (if_neg (by omega)))
            go_wp2
            go_quiet (fail)
            go_wp2
            go_roundw
            case rel =>
              refine ⟨k + 1, by omega, by go_num, hrow.drew.congr (fun j _ => ?_), below_drewN hb _⟩
              by_cases e : j = val
              · subst e; rw [fwAt_self, fwAt_self, NX.out, ex'.out]
              · by_cases h2 : j < val <;> simp [fwAt, e, h2]
            case measure => simp [intOf]; omega
        · have hke : k = cs.length := by omega
          go_wp2
          go_roundw
          case rel =>
            refine ⟨val + 1, by omega, by omega, by go_num, hrow.congr (fun j _ => ?_), hb⟩
            by_cases e : j = val
            · subst e
              rw [fwAt_self, hke, List.take_length, fwS_all HP.out (by omega) (by unfold big; omega), if_pos (by omega)]
            · by_cases h2 : j < val
              · rw [fwAt_low h2, if_pos (by omega)]
              · have h3 : ¬ j < val + 1 := by omega
                simp [fwAt, e, h2, h3]
          case measure => simp [intOf]; omega
    · clear hmk
      have hve : val = m + 1 := by omega
      go_wp2
      go_ret
      subst hve
      refine ⟨_, rfl, ow_of_row hrow (by rw [fewT_len]) (by unfold maxLen; omega) (fun j hj => by rw [if_pos hj, fewT_at _ _ _ hj]), rfl, hb⟩
end Go.Proofs.Ytdgadabfahmdmaa
