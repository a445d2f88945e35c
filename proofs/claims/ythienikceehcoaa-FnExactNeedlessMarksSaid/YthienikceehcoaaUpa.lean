/-
  How many pairs of marks measure each length, in the program, by its contract. Condition: a ruler.
-/
import Derived.Test.YthienikceehcoaaUar
namespace Go.Proofs.Ythienikceehcoaa
open Go.RowKit

theorem dnat {a b : Int} {l : Nat} (h : 0 ≤ a - b) (k : a - b < (l : Int)) : ∃ d : Nat, a - b = d ∧ d < l := ⟨(a - b).toNat, by omega, by omega⟩
set_option maxHeartbeats 4000000 in
set_option maxRecDepth 20000 in
theorem measure_any (B b off c i : Nat) (p : Option Addr) (ms : List Int) (w : World) (S : Rul ms) (hi : i < ms.length) (hp : 0 < i → p = some ⟨b, off, none⟩) (hb : b ≠ B) (hc : ∀ j, j < ms.length → w.cell? ⟨b, off + j, none⟩ = some (.int .i64 (ms.getD j 0)))
    (hr : w.rowIs B 40 61 (fun j => .int .i64 (qK ms i 0 (j : Int)))) :
    Calls Try.prog 39 #[.int .i64 (ms.getD i 0), .slice p i c, .pointer (some ⟨B, 0, none⟩)] w fun e w' => e = .returned (.tuple #[]) ∧ w'.rowIs B 40 61 (fun j => .int .i64 (qK ms i i (j : Int))) ∧ Xc B w w' := by
  have hlb := S.last_bd
  have HS := Lib.hid S
  have hi61 : i < 61 := by omega
  have HP := Lib.hid hp
  have HC := Lib.hid hc
  have HR := Lib.hid hr
  obtain ⟨m, em⟩ : ∃ m, ms.getD i 0 = m := ⟨_, rfl⟩
  have hmb := S.bd i hi
  rw [em] at hmb ⊢
  have EM := Lib.hid em
  clear S hp hc hr em
  go_enter Try.func39, Try.ntmps39
  go_wp2
  go_loopw [9] (fun x wr => ∃ k : Nat, k ≤ i ∧ x = .int .i64 k ∧ wr.rowIs B 40 61 (fun j => .int .i64 (qK ms i k (j : Int))) ∧ Xc B w wr) (fun x _ => i - (intOf x).toNat)
  case atStart => exact ⟨0, Nat.zero_le _, rfl, HR.out, Xc.refl _ _⟩
  case round =>
    obtain ⟨k, hk, rfl, hrow, hx⟩ := hrel
    by_cases hlt : k < i
    · have hpe := HP.out (by omega)
      subst hpe
      have hcell := (hx.cell (p := ⟨b, off + k, none⟩) hb).trans (HC.out k (by omega))
      have hdf := HS.out.diff (i := k) (j := i) hlt hi
      rw [EM.out] at hdf
      have QN := Lib.hid (qK_next (ms := ms) (i := i) (k := k) (by omega))
      obtain ⟨y, ey⟩ : ∃ y, ms.getD k 0 = y := ⟨_, rfl⟩
      rw [ey, EM.out] at QN
      rw [ey] at hcell hdf
      obtain ⟨d, ed, hd⟩ := dnat (a := m) (b := y) (l := 61) (by omega) (by omega)
      have hyb := (HS.out.bd k (by omega))
      rw [ey] at hyb
      clear ey
      have hw : IntKind.i64.wrap (m - y) = (d : Int) := by rw [ed]; exact IntWalk.i64_in _ (by omega)
      have hold : wr.cell? ⟨B, d, none⟩ = some (.int .i64 (qK ms i k (d : Int))) := hrow.cell hd
      have hfz := hrow.frozen d
      have hqb := qK_bd (ms := ms) hlb.2.2 i k (d : Int)
      obtain ⟨q, eq⟩ : ∃ q, qK ms i k (d : Int) = q := ⟨_, rfl⟩
      rw [eq] at hold hqb
      have EQ := Lib.hid eq
      have hd61 : (d : Int) < 61 := by omega
      have HW := Lib.hid hrow
      have ED := Lib.hid ed
      clear eq hrow ed hdf hyb hlb hmb
      go_wp2
      go_roundw
      case rel =>
        refine ⟨k + 1, by omega, by go_num, (HW.out.set d _).congr (fun j hj => ?_), hx.setCell _ _⟩
        show (if j = d then _ else _) = _
        rw [QN.out]
        by_cases e : j = d
        · subst e
          rw [if_pos rfl, if_pos ED.out, EQ.out]
        · have e2 : ¬ m - y = (j : Int) := by rw [ED.out]; omega
          rw [if_neg e, if_neg e2]
      case measure => simp [intOf]; omega
    · have hke : k = i := by omega
      subst hke
      go_wp2
      go_end0
      exact ⟨rfl, hrow, hx⟩

theorem arr_pairs {w : World} {b : Nat} {t : TypeId} {p : Int → Int} (h : w.rowIs b t 61 (fun j => .int .i64 (p (j : Int)))) : w.heap[b]? = some (.cells (iA p) t (0, 0)) := arG_row h
set_option maxHeartbeats 8000000 in
set_option maxRecDepth 20000 in
theorem pairsOf_any (v : Value) (ms : List Int) (w : World) (h : Sp w v ms) (S : Rul ms) :
    Calls Try.prog 35 #[v] w fun e w' => e = .returned (.agg (iA (tm ms))) ∧ Below w.heap.size w w' := by
  have hlb := S.last_bd
  have HS := Lib.hid S
  obtain ⟨b, off, cap, rfl, hcap, hcm, hbl, hc⟩ := h
  have HC := Lib.hid hc
  have hcm : cap ≤ 9223372036854775807 := by unfold maxLen at hcm; exact hcm
  have h61 : ms.length ≤ 61 := hlb.2.2
  have hr0 : Hid (((w.alloc (.cells litI 40)).alloc (.cells litI 40)).rowIs (w.heap.size + 1) 40 61 (fun j => .int .i64 (tm (ms.take 0) (j : Int)))) :=
    Lib.hid ((row_arG (by rw [litI_eq]; exact blk_b w _ _)).congr fun j _ => by rw [qK_first])
  have hz0 : Hid (((w.alloc (.cells litI 40)).alloc (.cells litI 40)).heap[w.heap.size]? = some (.cells litI 40 (0, 0))) := Lib.hid (blk_a w _ _)
  have hb0 : Below w.heap.size w ((w.alloc (.cells litI 40)).alloc (.cells litI 40)) := ((Below.refl _ _).alloc (Nat.le_refl _) _).alloc (by simp) _
  have hmf : ∀ (fn : Fn) (first cp : Array Value) (w : World), (Instr.makeFunc fn first cp).run Try.prog w = .ok (.func fn first cp) w := fun _ _ _ _ => rfl
  clear S hc hlb
  go_enter Try.func35, Try.ntmps35
  go_wp2_with (refine wpList_store_row rfl 40 _ _ rfl (w.heap.size + 1) litI rfl rfl 40 litI (by exact blk_b w _ _) (by kernel_rfl) rfl (by kernel_rfl) ?_; erw [set_same])
  go_loopw [11] (fun x wr => ∃ i : Nat, i ≤ ms.length ∧ x = .int .i64 i ∧ wr.rowIs (w.heap.size + 1) 40 61 (fun j => .int .i64 (tm (ms.take i) (j : Int))) ∧ wr.heap[w.heap.size]? = some (.cells litI 40 (0, 0)) ∧ Below w.heap.size w wr) (fun x _ => ms.length - (intOf x).toNat)
  case atStart => exact ⟨0, Nat.zero_le _, rfl, hr0.out, hz0.out, hb0⟩
  case round =>
    clear hb0 hr0 hz0
    obtain ⟨i, hi, rfl, hrow, hz, hbw⟩ := hrel
    have HZ := Lib.hid hz
    have HW := Lib.hid hrow
    clear hz hrow
    by_cases hlt : i < ms.length
    · have hcell := (hbw.cell (p := ⟨b, off + i, none⟩) hbl).trans (HC.out i hlt)
      have MA := fun (p : Option Addr) (c : Nat) (hp : 0 < i → p = some ⟨b, off, none⟩) => Lib.hid (measure_any (w.heap.size + 1) b off c i p ms wr HS.out hlt hp (by omega) (fun j hj => (hbw.cell (p := ⟨b, off + j, none⟩) hbl).trans (HC.out j hj)) (HW.out.congr fun j _ => by rw [qK_zero]))
      have QA := Lib.hid (qK_all (ms := ms) hlt)
      obtain ⟨y, ey⟩ : ∃ y, ms.getD i 0 = y := ⟨_, rfl⟩
      rw [ey] at hcell MA
      clear ey
      go_wp2_with fail
      refine (MA _ _ (fun _ => rfl)).out.mono ?_
      rintro e w2 ⟨rfl, hrow2, hx2⟩
      go_wp2
      go_roundw
      case rel => exact ⟨i + 1, by omega, by go_num, hrow2.congr (fun j _ => by rw [QA.out]), (hx2.same _ (by omega)).trans HZ.out, hx2.below hbw (by omega)⟩
      case measure => simp [intOf]; omega
    · have hie : i = ms.length := by omega
      subst hie
      have hA := HW.out
      rw [List.take_length] at hA
      have HA := Lib.hid (arr_pairs hA)
      clear hA HW
      obtain ⟨C, hC⟩ : ∃ C, iA (tm ms) = C := ⟨_, rfl⟩
      have HCe := Lib.hid hC
      have HCs : Hid (C.size = 61) := Lib.hid (by rw [← hC]; exact iA_size _)
      have HCo : Hid (C.all (·.oneCell') = true) := Lib.hid (by rw [← hC]; exact iA_one _)
      rw [hC] at HA
      clear hC
      go_wp2_with (first
        | (refine wpList_load_row rfl 40 _ rfl (w.heap.size + 1) rfl 40 C (0, 0) _ (by exact HA.out) Try.prsU rfl (by rw [HCs.out]; exact Try.prsI) ?_)
        | (refine wpList_store_row rfl 40 _ _ rfl w.heap.size C rfl rfl 40 litI (by exact HZ.out) (by rw [HCs.out]; exact Try.prsI) (by rw [HCs.out]; rfl) HCo.out ?_))
      have hb2 : Below w.heap.size w (wr.setRow w.heap.size C) := below_setRow hbw (Nat.le_refl _) C
      have hg2 : (wr.setRow w.heap.size C).heap[w.heap.size]? = some (.cells C 40 (0, 0)) := setRow_heap _ _ _ _ _ _ HZ.out
      refine bodyPost_ret (v := .agg C) ?_ rfl ⟨by rw [HCe.out], hb2⟩
      exact results_cell_row rfl _ _ w.heap.size _ C (0, 0) _ rfl hg2 Try.prsU rfl (by rw [HCs.out]; exact Try.prsI)
end Go.Proofs.Ythienikceehcoaa
