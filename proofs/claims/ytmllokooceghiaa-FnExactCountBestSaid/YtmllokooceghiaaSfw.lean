/-
  The model's table of the fewest stamps, and the reach, by their contracts. Condition: stamps.
-/
import Derived.Test.YtmllokooceghiaaSst
import Derived.Deep.RegionWith
import Derived.IntWalk
namespace Go.Proofs.Ytmllokooceghiaa
open Go.RowKit

/-- The table's cell j while value v is being told, k kinds of which are done. -/
def fwAt (st : List Int) (v k j : Nat) : Int := if j < v then fw st j else if j = v then fwStep (fw st) v (st.take k) stNone else 0
theorem fwAt_low {st : List Int} {v k j : Nat} (h : j < v) : fwAt st v k j = fw st j := by simp [fwAt, h]
theorem fwAt_self (st : List Int) (v k : Nat) : fwAt st v k v = fwStep (fw st) v (st.take k) stNone := by simp [fwAt]
theorem take_snoc {xs : List Int} {k : Nat} {x : Int} (hk : k < xs.length) (hx : xs.getD k 0 = x) : xs.take (k + 1) = xs.take k ++ [x] := by
  rw [List.take_add_one, List.getElem?_eq_getElem hk]
  rw [List.getD_eq_getElem?_getD, List.getElem?_eq_getElem hk] at hx
  simp only [Option.getD_some] at hx
  rw [hx]
  rfl
theorem fwStep_bd {st : List Int} (h : ∀ n ∈ st, 1 ≤ n) (v : Nat) : ∀ (l : List Int) (a : Int), 0 ≤ a → a ≤ stNone → 0 ≤ fwStep (fw st) v l a ∧ fwStep (fw st) v l a ≤ stNone := by
  intro l
  induction l with
  | nil => intro a h0 h1; exact ⟨h0, h1⟩
  | cons n t ih =>
    intro a h0 h1
    have := fw_bd h (v - n.toNat)
    simp only [fwStep]
    split
    · exact ih _ (by omega) (by omega)
    · exact ih _ h0 h1
theorem fwAt_next {st : List Int} {v k : Nat} {n : Int} (hk : k < st.length) (hn : st.getD k 0 = n) (h : n ≤ (v : Int)) : fwStep (fw st) v (st.take (k + 1)) stNone = min (fwStep (fw st) v (st.take k) stNone) (fw st (v - n.toNat) + 1) := by
  rw [take_snoc hk hn, fwStep_snoc, if_pos h]
theorem fwAt_skip {st : List Int} {v k : Nat} {n : Int} (hk : k < st.length) (hn : st.getD k 0 = n) (h : ¬ n ≤ (v : Int)) : fwStep (fw st) v (st.take (k + 1)) stNone = fwStep (fw st) v (st.take k) stNone := by
  rw [take_snoc hk hn, fwStep_snoc, if_neg h]
def fewT (st : List Int) (m : Nat) : List Int := (List.range (m + 1)).map (fw st)
theorem fewT_len (st : List Int) (m : Nat) : (fewT st m).length = m + 1 := by simp [fewT]
theorem fewT_at (st : List Int) (m j : Nat) (h : j < m + 1) : (fewT st m).getD j 0 = fw st j := by simp [fewT, List.getD, h]

set_option maxHeartbeats 4000000 in
set_option maxRecDepth 20000 in
theorem stFew_any (v : Value) (st : List Int) (m : Nat) (w : World) (h : Sv w v st) (hs : Stm st) (hm : m ≤ 4001) :
    Calls Try.prog 52 #[v, .int .i64 m] w fun e w' => ∃ u, e = .returned u ∧ Ow w' w.heap.size u (fewT st m) ∧ OwnAt u w.heap.size ∧ Below w.heap.size w w' := by
  have h1 : ∀ n ∈ st, 1 ≤ n := fun n hn => (hs.mem n hn).1
  have h6 := hs.six
  obtain ⟨p, cap, rfl, hx⟩ := h
  have hmk := run_make_row' (P := Try.prog) 22 3 (.int .i64 0) 8 Try.underlying22 Try.infoI rfl .i64 .i64 (m + 1) (by omega) (by omega)
  rw [Int.natCast_succ] at hmk
  have HS := Lib.hid hs
  clear hs
  go_enter Try.func52, Try.ntmps52
  go_wp2
  go_loopw [6] (fun i wr => ∃ val : Nat, 1 ≤ val ∧ val ≤ m + 1 ∧ i = .int .i64 val ∧ wr.rowIs w.heap.size 3 (m + 1) (fun j => .int .i64 (if j < val then fw st j else 0)) ∧ Below w.heap.size w wr) (fun i _ => m + 1 - (intOf i).toNat)
  case atStart => exact ⟨1, Nat.le_refl _, by omega, rfl, (World.rowIs_made w _ _ _).congr (fun j _ => by by_cases e : j < 1; (have : j = 0 := by omega); (subst this; simp [fw_zero]); simp [e]), (Below.refl _ _).alloc (Nat.le_refl _) _⟩
  case round =>
    obtain ⟨val, hv1, hv2, rfl, hrow, hb⟩ := hrel
    by_cases hlt : val ≤ m
    · have hold := hrow.cell (i := val) (by omega)
      have hfr := hrow.frozen val
      have hi1 : (val : Int) < (m : Int) + 1 := by omega
      have hi0 : (0 : Int) ≤ val := by omega
      clear hmk
      go_wp2
      go_loopw [22] (fun i wr => ∃ k : Nat, k ≤ st.length ∧ i = .int .i64 k ∧ wr.rowIs w.heap.size 3 (m + 1) (fun j => .int .i64 (fwAt st val k j)) ∧ Below w.heap.size w wr) (fun i _ => st.length - (intOf i).toNat)
      case atStart =>
        refine ⟨0, Nat.zero_le _, rfl, (hrow.set val _).congr (fun j _ => ?_), hb.setCell (Nat.le_refl _) _⟩
        by_cases e : j = val
        · subst e; simp [fwAt, fwStep, stNone]
        · by_cases h2 : j < val <;> simp [fwAt, e, h2]
      case round =>
        obtain ⟨k, hk, rfl, hrow, hb⟩ := hrel
        by_cases hkl : k < st.length
        · obtain ⟨b, off, rfl, hbl, hc⟩ := hx (by omega)
          have hcell := (hb.cell (p := ⟨b, off + k, none⟩) hbl).trans (hc k hkl)
          have hn1 := h1 (st.getD k 0) (by rw [List.getD_eq_getElem?_getD, List.getElem?_eq_getElem hkl]; exact List.getElem_mem hkl)
          obtain ⟨n, en⟩ : ∃ n, st.getD k 0 = n := ⟨_, rfl⟩
          rw [en] at hcell hn1
          obtain ⟨q, rfl⟩ : ∃ q : Nat, n = q := ⟨n.toNat, by omega⟩
          by_cases hnv : (q : Int) ≤ (val : Int)
          · have NX := fwAt_next hkl en hnv
            rw [Int.toNat_natCast] at NX
            have c1 := hrow.cell (i := val) (by omega)
            have c2 := hrow.cell (i := val - q) (by omega)
            rw [fwAt_self] at c1
            rw [fwAt_low (by omega)] at c2
            have f1 := hrow.frozen val
            have bd1 := fwStep_bd h1 val (st.take k) stNone (by decide) (by decide)
            have bd2 := fw_bd h1 (val - q)
            obtain ⟨x, ex⟩ : ∃ x, fwStep (fw st) val (st.take k) stNone = x := ⟨_, rfl⟩
            obtain ⟨y, ey⟩ : ∃ y, fw st (val - q) = y := ⟨_, rfl⟩
            rw [ex] at c1 bd1 NX
            rw [ey] at c2 bd2 NX
            unfold stNone at bd1 bd2
            have NX := Lib.hid NX
            have j0 : (0 : Int) ≤ (val : Int) - q := by omega
            have j1 : (val : Int) - q < (m : Int) + 1 := by omega
            have j2 : ((val : Int) - q).toNat = val - q := by omega
            have hw1 : IntKind.i64.wrap (y + 1) = y + 1 := IntWalk.i64_in _ (by omega)
            have hw2 : IntKind.i64.wrap ((val : Int) - q) = (val : Int) - q := IntWalk.i64_in _ (by omega)
            have LE := fun w => Lib.hid (least_any x (y + 1) w)
            obtain ⟨bd3, bd4⟩ := bd1
            obtain ⟨bd5, bd6⟩ := bd2
            clear hc hx ex ey en
            go_wp2
            go_region_with (go_at_call 63; refine ((LE _).out).mono ?_; rintro e w' ⟨rfl, rfl⟩)
            all_goals
              go_wp2
              go_roundw
              case rel =>
                refine ⟨k + 1, by omega, by go_num, (hrow.set val _).congr (fun j _ => ?_), (below_drewN hb _).setCell (Nat.le_refl _) _⟩
                by_cases e : j = val
                · subst e; simp only [if_true]; rw [fwAt_self, NX.out]
                · by_cases h2 : j < val <;> simp [fwAt, e, h2]
              case measure => simp [intOf]; omega
          · have NX := Lib.hid (fwAt_skip hkl en hnv)
            clear hc hx en
            go_wp2
            go_roundw
            case rel =>
              refine ⟨k + 1, by omega, by go_num, hrow.congr (fun j _ => ?_), hb⟩
              by_cases e : j = val
              · subst e; rw [fwAt_self, fwAt_self, NX.out]
              · by_cases h2 : j < val <;> simp [fwAt, e, h2]
            case measure => simp [intOf]; omega
        · clear hx
          have hke : k = st.length := by omega
          go_wp2
          go_roundw
          case rel =>
            refine ⟨val + 1, by omega, by omega, by go_num, hrow.congr (fun j _ => ?_), hb⟩
            obtain ⟨u, rfl⟩ : ∃ u, val = u + 1 := ⟨val - 1, by omega⟩
            by_cases e : j = u + 1
            · subst e
              rw [fwAt_self, hke, List.take_length, ← fw_step h1, if_pos (by omega)]
            · by_cases h2 : j < u + 1
              · rw [fwAt_low h2, if_pos (by omega)]
              · have h3 : ¬ j < u + 1 + 1 := by omega
                simp [fwAt, e, h2, h3]
          case measure => simp [intOf]; omega
    · clear hmk hx
      have hve : val = m + 1 := by omega
      go_wp2
      go_ret
      subst hve
      refine ⟨_, rfl, ow_of_row hrow (by rw [fewT_len]) (by unfold maxLen; omega) (fun j hj => by rw [if_pos hj, fewT_at _ _ _ hj]), rfl, hb⟩
end Go.Proofs.Ytmllokooceghiaa
