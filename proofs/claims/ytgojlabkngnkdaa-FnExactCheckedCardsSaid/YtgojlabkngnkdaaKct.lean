/-
  Checked cards in the program: powers of two, and the check of a power, by contract. Conditions: at most twelve places.
-/
import Derived.Test.YtgojlabkngnkdaaKcq
import Derived.Test.YtgojlabkngnkdaaQc
import Derived.Test.YtgojlabkngnkdaaQe
import Derived.Test.YtgojlabkngnkdaaQj
import Derived.Laws.BitsAllLaws
namespace Go.Proofs.Ytgojlabkngnkdaa
open Go.RowKit

def ocA (x : Nat) : Nat := (x / 2) &&& 6148914691236517205
def ocB (x : Nat) : Nat := x &&& 6148914691236517205
def ocC (x : Nat) : Nat := ((ocA x + ocB x) / 4) &&& 3689348814741910323
def ocD (x : Nat) : Nat := (ocA x + ocB x) &&& 3689348814741910323
def ocE (x : Nat) : Nat := ((ocC x + ocD x) / 16 + (ocC x + ocD x)) &&& 1085102592571150095
theorem oc_facts : ∀ x : Fin 256, ocA x.val ≤ 255 ∧ ocB x.val ≤ 255 ∧ ocC x.val ≤ 255 ∧ ocD x.val ≤ 255 ∧ ocE x.val ≤ 8 := by decide +kernel
theorem and127 : ∀ d : Fin 9, bits .and .i64 (d.val : Int) 127 = (d.val : Int) := by decide +kernel

set_option maxHeartbeats 4000000 in
set_option maxRecDepth 20000 in
theorem onesCount64_any (x : Nat) (w : World) (hx : x < 256) :
    Calls Try.prog 79 #[.int .u64 x] w fun e w' => e = .returned (.int .i64 (ocE x : Nat)) ∧ w = w' := by
  obtain ⟨h1, h2, h3, h4, h6⟩ := oc_facts ⟨x, hx⟩
  simp only at h1 h2 h3 h4 h6
  have eA : bits .and .u64 ((x : Int) / 2) 6148914691236517205 = (ocA x : Nat) := by
    have := u64_and_nat (x / 2) 6148914691236517205 (by omega) (by omega); simpa [ocA] using this
  have eB : bits .and .u64 (x : Int) 6148914691236517205 = (ocB x : Nat) := by
    have := u64_and_nat x 6148914691236517205 (by omega) (by omega); simpa [ocB] using this
  have eC : bits .and .u64 (((ocA x : Nat) + (ocB x : Nat) : Int) / 4) 3689348814741910323 = (ocC x : Nat) := by
    have := u64_and_nat ((ocA x + ocB x) / 4) 3689348814741910323 (by omega) (by omega); simpa [ocC] using this
  have eD : bits .and .u64 ((ocA x : Nat) + (ocB x : Nat) : Int) 3689348814741910323 = (ocD x : Nat) := by
    have := u64_and_nat (ocA x + ocB x) 3689348814741910323 (by omega) (by omega); simpa [ocD] using this
  have eE : bits .and .u64 (((ocC x : Nat) + (ocD x : Nat) : Int) / 16 + ((ocC x : Nat) + (ocD x : Nat))) 1085102592571150095 = (ocE x : Nat) := by
    have := u64_and_nat ((ocC x + ocD x) / 16 + (ocC x + ocD x)) 1085102592571150095 (by omega) (by omega); simpa [ocE] using this
  have e127 := and127 ⟨ocE x, by omega⟩
  simp only at e127
  obtain ⟨a, ea⟩ : ∃ a, ocA x = a := ⟨_, rfl⟩
  obtain ⟨b, eb⟩ : ∃ b, ocB x = b := ⟨_, rfl⟩
  obtain ⟨c, ec⟩ : ∃ c, ocC x = c := ⟨_, rfl⟩
  obtain ⟨d, ed⟩ : ∃ d, ocD x = d := ⟨_, rfl⟩
  obtain ⟨e, ee⟩ : ∃ e, ocE x = e := ⟨_, rfl⟩
  rw [ea] at h1 eA eC eD
  rw [eb] at h2 eB eC eD
  rw [ec] at h3 eC eE
  rw [ed] at h4 eD eE
  rw [ee] at h6 eE e127
  have EE := Lib.hid ee
  have z1 : (e : Int) / 256 = 0 := by omega
  have z2 : (e : Int) / 65536 = 0 := by omega
  have z3 : (e : Int) / 4294967296 = 0 := by omega
  clear ea eb ec ed ee
  go_enter Try.func79, Try.ntmps79
  go_wp2
  go_ret
  exact ⟨ret_int (by rw [EE.out]), rfl⟩

set_option maxHeartbeats 1000000 in
theorem onesCount_any (x : Nat) (w : World) (hx : x < 256) :
    Calls Try.prog 71 #[.int .u64 x] w fun e w' => e = .returned (.int .i64 (ocE x : Nat)) ∧ w = w' := by
  go_enter Try.func71, Try.ntmps71
  go_wp2_with (go_at_call 79; refine (onesCount64_any _ _ hx).mono ?_; rintro e w' ⟨rfl, rfl⟩)
  go_ret
  exact ⟨rfl, rfl⟩
theorem oc_pw : ∀ q : Fin 12, (((ocE (q.val + 1) : Nat) : Int) == 1) = isPw (q.val + 1) := by decide +kernel

set_option maxHeartbeats 1000000 in
theorem isPower_any (l : Nat) (w : World) (hl : l < 12) :
    Calls Try.prog 62 #[.int .i64 ((l : Int) + 1)] w fun e w' => e = .returned (.bool (isPw (l + 1))) ∧ w = w' := by
  have OC := fun W => onesCount_any (l + 1) W (by omega)
  have HQ := oc_pw ⟨l, hl⟩
  simp only at HQ
  rw [Int.natCast_add] at OC
  obtain ⟨z, ez⟩ : ∃ z, ocE (l + 1) = z := ⟨_, rfl⟩
  rw [ez] at OC HQ
  obtain ⟨b, eb⟩ : ∃ b, isPw (l + 1) = b := ⟨_, rfl⟩
  rw [eb] at HQ ⊢
  have OC := fun W => Lib.hid (OC W)
  clear ez eb
  go_enter Try.func62, Try.ntmps62
  go_wp2_with (go_at_call 71; refine (OC _).out.mono ?_; rintro e w' ⟨rfl, rfl⟩)
  go_ret
  exact ⟨by first | rfl | rw [HQ], rfl⟩

theorem set_same (w : World) (o : Obj) (c : Array Value) (t : TypeId) : ((w.alloc o).alloc (.cells c t)).setRow (w.heap.size + 1) c = (w.alloc o).alloc (.cells c t) := by
  have h := World.setRow_alloc_new (w.alloc o) c c t
  rwa [World.size_alloc] at h
theorem below_setRow {B : Nat} {w w1 : World} (h : Below B w w1) {g : Nat} (hg : B ≤ g) (C : Array Value) : Below B w (w1.setRow g C) :=
  ⟨h.os, h.tape, h.output, by rw [setRow_size]; exact h.size, fun k hk => by rw [setRow_other _ _ _ _ (by omega)]; exact h.block k hk⟩
/-- The first j numbers go by g, the others by f. -/
def mixF (f g : Int → Bool) (j : Nat) (x : Int) : Bool := if 0 ≤ x ∧ x < (j : Int) then g x else f x
theorem mixF_zero (f g : Int → Bool) : mixF f g 0 = f := by funext x; unfold mixF; rw [if_neg (by omega)]
theorem mixF_at (f g : Int → Bool) (j : Nat) : mixF f g j (j : Int) = f j := by unfold mixF; rw [if_neg (by omega)]
theorem mixF_succ (f g : Int → Bool) (j : Nat) : (fun x => if x = (j : Int) then g j else mixF f g j x) = mixF f g (j + 1) := by
  funext x
  unfold mixF
  by_cases e : x = (j : Int)
  · subst e; rw [if_pos rfl, if_pos (by omega)]
  · rw [if_neg e]
    by_cases h : 0 ≤ x ∧ x < (j : Int)
    · rw [if_pos h, if_pos (by omega)]
    · rw [if_neg h, if_neg (by omega)]
theorem bA_ext {p q : Int → Bool} (h : ∀ j : Nat, j < 128 → p j = q j) : bA p = bA q := by
  refine arG_of (bA_size p) fun j hj => ?_
  rw [bA_at p hj, h j hj]
theorem mixF_all (f g : Int → Bool) : bA (mixF f g 128) = bA g := bA_ext fun j hj => by unfold mixF; rw [if_pos (by omega)]

theorem idx_card {C : Array Value} {b : Bool} {k : Nat} (h1 : C[k]? = some (.bool b)) (hk : k < 128) (w : World) :
    (Instr.index 82 (.agg C) (.int .i64 (k : Int))).run Try.prog w = .ok (.bool b) w := by
  have h2 : (0 : Int) ≤ (k : Int) ∧ (k : Int) < ((128 : Nat) : Int) := by omega
  simp [Instr.index, run_underlying Try.setU, asIntOf, h2, h1, go_sem]
  intro h; omega

set_option maxHeartbeats 8000000 in
set_option maxRecDepth 100000 in
theorem check_any (P cb : Nat) (v : Value) (ps : List (Int → Bool)) (w : World) (hcb : w.cell? ⟨cb, 0, none⟩ = some v) (h : Dr w v ps) (hl : ps.length ≤ 11) (hbits : ∀ i : Nat, i < 12 → (bits .and .i64 ((i : Int) + 1) (P : Int) == 0) = decide ((i + 1) &&& P = 0)) :
    Calls Try.prog 63 #[.int .i64 (P : Int), .pointer (some ⟨cb, 0, none⟩)] w fun e w' => e = .returned (.agg (bA fun x => xorK ps P ps.length x)) ∧ Below w.heap.size w w' := by
  obtain ⟨p, cap, rfl⟩ := h.form
  have HCB := Lib.hid hcb
  have HBT := Lib.hid hbits
  have H := Lib.hid h
  have lcb : cb < w.heap.size := World.block_lt_of_cell? _ _ hcb
  clear h hbits hcb
  have kcb : ∀ W, Below w.heap.size w W → W.cell? ⟨cb, 0, none⟩ = some (.slice p ps.length cap) := fun W hW => (hW.cell (p := ⟨cb, 0, none⟩) lcb).trans HCB.out
  have KCB := Lib.hid kcb
  clear kcb
  go_enter Try.func63, Try.ntmps63
  have hc0 : (((w.alloc (.cells Try.zeroCells82 82)).alloc (.cells Try.zeroCells82 82)).setRow (w.heap.size + 1) Try.zeroCells82).cell? ⟨cb, 0, none⟩ = some (.slice p ps.length cap) := by rw [set_same]; exact KCB.out _ (((Below.refl _ _).alloc (Nat.le_refl _) _).alloc (by simp) _)
  go_wp2_with (refine wpList_store_row rfl 82 _ _ rfl (w.heap.size + 1) Try.zeroCells82 rfl rfl 82 Try.zeroCells82 (by exact blk_b w _ _) (by rw [Try.zcS]; exact Try.setI) rfl Try.zcO ?_)
  rw [set_same]
  obtain ⟨W, eW⟩ : ∃ W, (w.alloc (.cells Try.zeroCells82 82)).alloc (.cells Try.zeroCells82 82) = W := ⟨_, rfl⟩
  have hA : W.heap[w.heap.size]? = some (.cells Try.zeroCells82 82 (0, 0)) := by rw [← eW]; exact blk_a w _ _
  have hB : W.heap[w.heap.size + 1]? = some (.cells (bA fun x => xorK ps P 0 x) 82 (0, 0)) := by rw [← eW, show (fun x => xorK ps P 0 x) = fun _ => false from rfl]; rw [Try.zcE]; exact blk_b w _ _
  have hb0 : Below w.heap.size w W := by rw [← eW]; exact ((Below.refl _ _).alloc (Nat.le_refl _) _).alloc (by simp) _
  have hz0 : w.heap.size + 1 + 1 ≤ W.heap.size := by rw [← eW]; simp
  rw [eW]
  clear eW hc0
  go_loopw [12] (fun i wr => ∃ k : Nat, k ≤ ps.length ∧ i = .int .i64 (k : Int) ∧ wr.heap[w.heap.size]? = some (.cells Try.zeroCells82 82 (0, 0)) ∧ wr.heap[w.heap.size + 1]? = some (.cells (bA fun x => xorK ps P k x) 82 (0, 0)) ∧ Below w.heap.size w wr ∧ w.heap.size + 1 + 1 ≤ wr.heap.size) (fun i _ => ps.length - (intOf i).toNat)
  case atStart => exact ⟨0, Nat.zero_le _, rfl, hA, hB, hb0, hz0⟩
  case round =>
    clear hA hB hb0 hz0
    obtain ⟨k, hk, rfl, hA, hB, hb, hz⟩ := hrel
    by_cases hlt : k < ps.length
    · obtain ⟨g, o, rfl, hg, hc⟩ := H.out.row (by omega)
      obtain ⟨q, hq⟩ : ∃ q, ps[k]? = some q := ⟨_, List.getElem?_eq_getElem hlt⟩
      have hpart : ∀ j v, (bA q)[j]? = some v → wr.cell? ⟨g, o + k * 128 + j, none⟩ = some v := fun j v hv => by
        have hj : j < 128 := by
          by_cases e : j < 128
          · exact e
          · rw [Array.getElem?_eq_none (by rw [bA_size]; omega)] at hv; cases hv
        rw [bA_at q hj] at hv
        have := (hb.cell (p := ⟨g, o + (k * 128 + j), none⟩) hg).trans (hc k q hq j hj)
        rw [Nat.add_assoc, this]
        exact hv
      have HP := Lib.hid hpart
      have HCs : Hid ((bA q).size = 128) := Lib.hid (bA_size q)
      have HCo : Hid ((bA q).all (·.oneCell') = true) := Lib.hid (bA_one q)
      have HAT : Hid (∀ j : Nat, j < 128 → (bA q)[j]? = some (.bool (q (j : Int)))) := Lib.hid (fun j hj => bA_at q hj)
      have HB3 := HBT.out k (by omega)
      have SKIP := fun h => Lib.hid (xorK_skip (ps := ps) (j := P) (i := k) h)
      have ADD := fun h => Lib.hid (xorK_add (ps := ps) (j := P) (i := k) h hq)
      obtain ⟨C, eC⟩ : ∃ C, bA q = C := ⟨_, rfl⟩
      rw [eC] at HP HCs HCo HAT
      have HA := Lib.hid hA
      have HB := Lib.hid hB
      have hbn := hb.alloc hb.size (.cells C 82)
      have hzn : w.heap.size + 1 + 1 ≤ (wr.alloc (.cells C 82)).heap.size := by simp; omega
      have A2 := (heap_alloc_old wr (.cells C 82) (show w.heap.size < wr.heap.size by omega)).trans hA
      have B2 := (heap_alloc_old wr (.cells C 82) (show w.heap.size + 1 < wr.heap.size by omega)).trans hB
      have A2 := Lib.hid A2
      have B2 := Lib.hid B2
      clear hpart hc hq eC hA hB
      by_cases hp0 : (k + 1) &&& P = 0
      · have hbt : (bits .and .i64 ((k : Int) + 1) (P : Int) == 0) = true := by rw [HB3, decide_eq_true hp0]
        have HN := SKIP hp0
        clear hp0 SKIP ADD HB3
        go_wp2_with (first
          | (refine wl_load_part rfl 82 _ rfl g (o + k * 128) rfl C _ (by exact HP.out) Try.setU rfl (by rw [HCs.out]; exact Try.setI) ?_)
          | (refine wpList_store_row rfl 82 _ _ rfl wr.heap.size C rfl rfl 82 Try.zeroCells82 (by exact heap_alloc_new wr _) (by rw [HCs.out]; exact Try.setI) (by rw [HCs.out]; exact Try.zcS) HCo.out ?_; rw [World.setRow_alloc_new]))
        go_roundw
        case rel => exact ⟨k + 1, by omega, by go_num, A2.out, by rw [B2.out]; congr 3; funext x; exact (HN.out x).symm, hbn, hzn⟩
        case measure => simp only [intOf]; omega
      · have hbt : (bits .and .i64 ((k : Int) + 1) (P : Int) == 0) = false := by rw [HB3, decide_eq_false hp0]
        have HN := ADD hp0
        clear hp0 SKIP ADD HB3
        have HNF : Hid ((fun x => xorK ps P (k + 1) x) = fun x => (xorK ps P k x != q x)) := Lib.hid (funext fun x => HN.out x)
        obtain ⟨F0, eF0⟩ : ∃ F0 : Int → Bool, (fun x => xorK ps P k x) = F0 := ⟨_, rfl⟩
        have HG0 : Hid ((fun x => xorK ps P (k + 1) x) = fun x => (F0 x != q x)) := Lib.hid (by rw [HNF.out, ← eF0])
        rw [eF0] at B2
        have B3 : Hid ((wr.alloc (.cells C 82)).heap[w.heap.size + 1]? = some (.cells (bA (mixF F0 (fun x => (F0 x != q x)) 0)) 82 (0, 0))) := Lib.hid (by rw [mixF_zero]; exact B2.out)
        obtain ⟨G0, eG0⟩ : ∃ G0 : Int → Bool, (fun x => (F0 x != q x)) = G0 := ⟨_, rfl⟩
        have HGA : Hid (∀ j : Nat, G0 (j : Int) = (F0 j != q j)) := Lib.hid (fun j => by rw [← eG0])
        rw [eG0] at B3 HG0
        clear HNF HN eF0 eG0 B2
        go_wp2_with (first
          | (refine wl_load_part rfl 82 _ rfl g (o + k * 128) rfl C _ (by exact HP.out) Try.setU rfl (by rw [HCs.out]; exact Try.setI) ?_)
          | (refine wpList_store_row rfl 82 _ _ rfl wr.heap.size C rfl rfl 82 Try.zeroCells82 (by exact heap_alloc_new wr _) (by rw [HCs.out]; exact Try.setI) (by rw [HCs.out]; exact Try.zcS) HCo.out ?_; rw [World.setRow_alloc_new])
          | (refine wpList_load_row rfl 82 _ rfl wr.heap.size rfl 82 C (0, 0) _ (by exact heap_alloc_new wr _) Try.setU rfl (by rw [HCs.out]; exact Try.setI) ?_))
        obtain ⟨wo, ewo⟩ : ∃ wo, wo = wr := ⟨_, rfl⟩
        subst ewo
        go_loopw [23] (fun i wz => ∃ j : Nat, j ≤ 128 ∧ i = .int .i64 (j : Int) ∧ wz.heap[w.heap.size]? = some (.cells Try.zeroCells82 82 (0, 0)) ∧ wz.heap[w.heap.size + 1]? = some (.cells (bA (mixF F0 G0 j)) 82 (0, 0)) ∧ Below w.heap.size w wz ∧ w.heap.size + 1 + 1 ≤ wz.heap.size) (fun i _ => 128 - (intOf i).toNat)
        case atStart => exact ⟨0, by omega, rfl, A2.out, B3.out, hbn, hzn⟩
        case round =>
          clear hbn hzn
          obtain ⟨j, hj, rfl, hA, hB, hbj, hzj⟩ := hrel
          by_cases hj8 : j < 128
          · have hd0 : (0 : Int) ≤ (j : Int) := by omega
            have hd1 : (j : Int) < 128 := by omega
            have hold : wr.cell? ⟨w.heap.size + 1, j, none⟩ = some (.bool (F0 (j : Int))) := by rw [cell_of_row _ _ _ _ _ _ hB, ← mixF_at F0 G0 j]; exact bA_at _ hj8
            have hfr : wr.frozen? ⟨w.heap.size + 1, j, none⟩ = false := frozen_of_row _ _ _ _ _ hB
            have hat := HAT.out j hj8
            have hnew := heap_setCell_same wr (w.heap.size + 1) j _ _ (.bool (G0 (j : Int))) hB
            rw [bA_set _ hj8, mixF_succ, HGA.out j] at hnew
            have hA2 : ∀ v, (wr.setCell ⟨w.heap.size + 1, j, none⟩ v).heap[w.heap.size]? = some (.cells Try.zeroCells82 82 (0, 0)) := fun v => by rw [heap_setCell_other _ _ _ _ (by show w.heap.size ≠ w.heap.size + 1; omega)]; exact hA
            have hb2 := fun v => hbj.setCell (p := ⟨w.heap.size + 1, j, none⟩) (by show w.heap.size ≤ w.heap.size + 1; omega) v
            obtain ⟨y1, e1⟩ : ∃ y1, F0 (j : Int) = y1 := ⟨_, rfl⟩
            obtain ⟨y2, e2⟩ : ∃ y2, q (j : Int) = y2 := ⟨_, rfl⟩
            rw [e1] at hold hnew
            rw [e2] at hat hnew
            have hix := idx_card hat hj8 wr
            have HNW := Lib.hid hnew
            have HA2 := Lib.hid hA2
            have HB2 := Lib.hid hb2
            clear e1 e2 hA hB hbj hnew hA2 hb2
            cases y1 <;> cases y2
            all_goals
              go_wp2_with fail
              go_roundw
              case rel => exact ⟨j + 1, by omega, by go_num, HA2.out _, by exact HNW.out, HB2.out _, by simp [World.setCell]; omega⟩
              case measure => simp only [intOf]; omega
          · obtain rfl : j = 128 := by omega
            rw [mixF_all] at hB
            have HBf : Hid (wr.heap[w.heap.size + 1]? = some (.cells (bA fun x => xorK ps P (k + 1) x) 82 (0, 0))) := Lib.hid (by rw [HG0.out]; exact hB)
            have HAf := Lib.hid hA
            clear hA hB
            go_wp2_with fail
            go_roundw
            case rel => exact ⟨k + 1, by omega, by go_num, HAf.out, HBf.out, hbj, hzj⟩
            case measure => simp only [intOf]; omega
    · obtain rfl : k = ps.length := by omega
      have HS : Hid ((bA fun x => xorK ps P ps.length x).size = 128) := Lib.hid (bA_size _)
      have HO : Hid ((bA fun x => xorK ps P ps.length x).all (·.oneCell') = true) := Lib.hid (bA_one _)
      obtain ⟨C, eC⟩ : ∃ C, (bA fun x => xorK ps P ps.length x) = C := ⟨_, rfl⟩
      rw [eC] at hB HS HO
      have EC := Lib.hid eC
      have HA := Lib.hid hA
      have HBB := Lib.hid hB
      clear eC hA hB
      go_wp2_with (first
        | (refine wpList_load_row rfl 82 _ rfl (w.heap.size + 1) rfl 82 C (0, 0) _ (by exact HBB.out) Try.setU rfl (by rw [HS.out]; exact Try.setI) ?_)
        | (refine wpList_store_row rfl 82 _ _ rfl w.heap.size C rfl rfl 82 Try.zeroCells82 (by exact HA.out) (by rw [HS.out]; exact Try.setI) (by rw [HS.out]; exact Try.zcS) HO.out ?_))
      have hg2 := setRow_heap wr w.heap.size _ C _ _ HA.out
      refine bodyPost_ret (v := .agg C) ?_ rfl ⟨by rw [EC.out], below_setRow hb (Nat.le_refl _) C⟩
      exact results_cell_row rfl _ _ w.heap.size _ C (0, 0) _ rfl hg2 Try.setU rfl (by rw [HS.out]; exact Try.setI)
end Go.Proofs.Ytgojlabkngnkdaa
