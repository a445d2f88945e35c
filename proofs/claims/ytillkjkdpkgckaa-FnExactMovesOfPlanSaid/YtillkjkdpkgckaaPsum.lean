/-
  The sum of what is held and the moves of all days in the program, by their contracts. Condition: few pieces and a plan.
-/
import Derived.Test.YtillkjkdpkgckaaPimp
namespace Go.Proofs.Ytillkjkdpkgckaa
open Go.RowKit

set_option maxHeartbeats 1000000 in
theorem with_any (a b : Int) (w : World) (ha : 0 ≤ a) (ha2 : a ≤ 1000000) (hb : 0 ≤ b) (hb2 : b ≤ 1000000) :
    Calls Try.prog 84 #[.agg #[.int .i64 a], .int .i64 b] w fun e w' => e = .returned (.agg #[.int .i64 (a + b)]) ∧ Below w.heap.size w w' := by
  go_enter Try.func84, Try.ntmps84
  go_wp2
  exact bodyPost_ret (v := .agg #[.int .i64 (a + b)]) (by simp [results, Try.results84, go_sem]) rfl ⟨rfl, (((Below.refl _ _).alloc (Nat.le_refl _) _).alloc (by simp) _)⟩

set_option maxHeartbeats 4000000 in
set_option maxRecDepth 20000 in
theorem sum_any (m : Nat) (v : Value) (xs ys : List Int) (w : World) (hv : Sv w v xs) (hg : Good xs) (hm : m < 256) (hy : idx m = ys) (hr : Rs 0 ((xs.length : Int) - 1) ys) :
    Calls Try.prog 64 #[.int .u64 m, v] w fun e w' => e = .returned (.int .i64 (sumAt xs 0 ys)) ∧ Below w.heap.size w w' := by
  have hl20 := hg.1
  obtain ⟨q, cap1, rfl, hq⟩ := hv
  have hl8 : ys.length ≤ 8 := by rw [← hy]; exact idx_len m
  have HG := Lib.hid hg
  have HR := Lib.hid hr
  have hal : Below w.heap.size w (w.alloc (.cells #[.int .i64 0] 76)) := (Below.refl _ _).alloc (Nat.le_refl _) _
  have c0 : (w.alloc (.cells #[.int .i64 0] 76)).cell? ⟨w.heap.size, 0, none⟩ = some (.int .i64 0) := by simp
  have f0 : (w.alloc (.cells #[.int .i64 0] 76)).frozen? ⟨w.heap.size, 0, none⟩ = false := by simp
  clear hg hr
  go_enter Try.func64, Try.ntmps64
  go_wp2_with fail
  refine (indices_any _ _ hm).mono ?_
  rintro e w1 ⟨r, rfl, o1, b1⟩
  rw [hy] at o1
  have o1 : Ow w1 (w.heap.size + 1) r ys := by simpa using o1
  obtain ⟨p2, c2, rfl, hx⟩ := o1.sv
  have c1 : w1.cell? ⟨w.heap.size, 0, none⟩ = some (.int .i64 0) := (b1.cell (p := ⟨w.heap.size, 0, none⟩) (by simp)).trans c0
  have f1 : w1.frozen? ⟨w.heap.size, 0, none⟩ = false := (b1.frozen (p := ⟨w.heap.size, 0, none⟩) (by simp)).trans f0
  have s1 : w.heap.size + 1 ≤ w1.heap.size := by have := b1.size; simp at this; exact this
  have B1 := hal.trans (b1.mono hal.size)
  clear c0 f0 b1 hal
  go_wp2
  go_loopw [12] (fun i wr => ∃ (k : Nat) (s : Int), k ≤ ys.length ∧ i = .int .i64 k ∧ 0 ≤ s ∧ s ≤ 10000 * k ∧ Hid (sumAt xs 0 (ys.take k) = s) ∧ wr.cell? ⟨w.heap.size, 0, none⟩ = some (.int .i64 s) ∧ wr.frozen? ⟨w.heap.size, 0, none⟩ = false ∧
      Ow wr (w.heap.size + 1) (.slice p2 ys.length c2) ys ∧ w.heap.size + 1 ≤ wr.heap.size ∧ Below w.heap.size w wr) (fun i _ => ys.length - (intOf i).toNat)
  case atStart => exact ⟨0, 0, Nat.zero_le _, rfl, by omega, by omega, Lib.hid rfl, c1, f1, o1, s1, B1⟩
  case round =>
    obtain ⟨k, s, hk, rfl, hs0, hs1, HS, c1, f1, hsy, hsz, hb⟩ := hrel
    have HSY := Lib.hid hsy
    clear hx
    obtain ⟨p3, c3, e3, hx⟩ := hsy.sv
    clear hsy
    cases e3
    by_cases hlt : k < ys.length
    · obtain ⟨b, off, rfl, hbl, hc⟩ := hx (by omega)
      have hcell := hc k hlt
      have hin := HR.out.mem (ys.getD k 0) (by rw [List.getD_eq_getElem?_getD, List.getElem?_eq_getElem hlt]; exact List.getElem_mem hlt)
      have hst := sumAt_step xs ys k hlt
      obtain ⟨x, ex⟩ : ∃ x, ys.getD k 0 = x := ⟨_, rfl⟩
      rw [ex] at hcell hin hst
      obtain ⟨i, rfl⟩ : ∃ i : Nat, x = i := ⟨x.toNat, by omega⟩
      obtain ⟨b2, off2, rfl, hbl2, hc2⟩ := hq (by omega)
      have hil : i < xs.length := by omega
      have hcell2 : wr.cell? ⟨b2, off2 + i, none⟩ = some (.int .i64 (xs.getD i 0)) := (hb.cell (p := ⟨b2, off2 + i, none⟩) hbl2).trans (hc2 i hil)
      have hbd := HG.out.2.1 i hil
      rw [Int.toNat_natCast] at hst
      obtain ⟨y, ey⟩ : ∃ y, xs.getD i 0 = y := ⟨_, rfl⟩
      rw [ey] at hcell2 hbd hst
      obtain ⟨hb1, hb2⟩ := hbd
      have ST := Lib.hid hst
      have i0 : (0 : Int) ≤ i := by omega
      have i1 : (i : Int) < xs.length := by omega
      clear hc hx hc2 hq ex ey hst hin
      go_wp2
      go_region_with (go_at_call 84; refine (with_any s y _ hs0 (by omega) (by omega) (by omega)).mono ?_; rintro e w2 ⟨rfl, b2⟩; have b2 : Below wr.heap.size wr w2 := (below_drewN (Below.refl _ _) _).trans b2; have d1 : w2.cell? ⟨w.heap.size, 0, none⟩ = some (.int .i64 s) := (b2.cell (p := ⟨w.heap.size, 0, none⟩) (by show w.heap.size < _; omega)).trans c1; have g1 : w2.frozen? ⟨w.heap.size, 0, none⟩ = false := (b2.frozen (p := ⟨w.heap.size, 0, none⟩) (by show w.heap.size < _; omega)).trans f1)
      all_goals
        have z2 := b2.size
        have b3 := hb.trans (b2.mono hb.size)
        have SY2 := Lib.hid (HSY.out.below b2 (Nat.le_refl _))
        clear c1 f1 b2 hb hcell
        go_wp2
        go_roundw
        case rel =>
          refine ⟨k + 1, s + y, by omega, by go_num, by omega, by omega, Lib.hid (by rw [ST.out, HS.out]), World.cell?_setCell_same _ _ _ d1, (World.frozen?_setCell _ _ _ _).trans g1, ow_far SY2.out (by omega) _, by simp [World.setCell]; omega, b3.setCell (Nat.le_refl _) _⟩
        case measure => simp [intOf]; omega
    · clear hx hq
      go_wp2
      go_ret
      have hke : k = ys.length := by omega
      have e := HS.out
      rw [hke, List.take_length] at e
      exact ⟨ret_int e.symm, hb⟩

set_option maxHeartbeats 4000000 in
set_option maxRecDepth 20000 in
theorem movesOf_any (B : Nat) (v : Value) (pl : List (List Int)) (n : Nat) (w : World) (h : Cs w B v (chgL pl)) (hp : PlanOk n pl) (h8 : n ≤ 8) :
    Calls Try.prog 67 #[v] w fun e w' => e = .returned (.int .i64 (mvTo pl pl.length)) ∧ Below w.heap.size w w' := by
  have hcl := chgL_len pl
  have h60 := hp.1
  obtain ⟨p, cap, rfl, hx⟩ := or_cells h
  rw [hcl] at hx ⊢
  have HP := Lib.hid hp
  clear h hp
  go_enter Try.func67, Try.ntmps67
  go_wp2
  go_loopw [3, 8] (fun t i wr => ∃ (k : Nat) (s : Int), k ≤ pl.length ∧ i = .int .i64 k ∧ t = .int .i64 s ∧ Hid (mvTo pl k = s) ∧ Below w.heap.size w wr) (fun _ i _ => pl.length - (intOf i).toNat)
  case atStart => exact ⟨0, 0, Nat.zero_le _, rfl, rfl, Lib.hid rfl, Below.refl _ _⟩
  case round =>
    obtain ⟨k, s, hk, rfl, rfl, HS, hb⟩ := hrel
    have hz := hb.size
    by_cases hlt : k < pl.length
    · obtain ⟨g, rfl, hg, hcap, hc⟩ := hx (by omega)
      have hat := cV_at _ _ _ (chgL_at hlt)
      have hb1 := mvTo_bd HP.out h8 k hk
      rw [HS.out] at hb1
      have hm := mvAt_bd HP.out h8 hlt
      have R1 := (HP.out.row h8 hlt).2
      have R2 := (HP.out.bef h8 hlt).2
      have L1 := mask_lt R1
      have L2 := mask_lt R2
      have M : Hid ((idx (maskL (befL pl k) ^^^ maskL (nowL pl k))).length = mvAt pl k) := Lib.hid (by rw [moves_only R2 R1]; simp [mvAt])
      have S : Hid (mvTo pl (k + 1) = mvTo pl k + mvAt pl k) := Lib.hid rfl
      obtain ⟨x, ex⟩ : ∃ x, maskL (befL pl k) = x := ⟨_, rfl⟩
      obtain ⟨y, ey⟩ : ∃ y, maskL (nowL pl k) = y := ⟨_, rfl⟩
      obtain ⟨z, ez⟩ : ∃ z, mvAt pl k = z := ⟨_, rfl⟩
      rw [ex, ey] at hat M
      rw [ex] at L2
      rw [ey] at L1
      rw [ez] at hm M S
      simp only at hat
      have e1 : wr.cell? ⟨g, k * 2, none⟩ = some (.int .u64 (x : Nat)) := (hb.cell (p := ⟨g, k * 2, none⟩) hg).trans (hc _ _ hat.1)
      have e2 : wr.cell? ⟨g, k * 2 + 1, none⟩ = some (.int .u64 (y : Nat)) := (hb.cell (p := ⟨g, k * 2 + 1, none⟩) hg).trans (hc _ _ hat.2)
      obtain ⟨hm1, hm2⟩ := hm
      obtain ⟨hb2, hb3⟩ := hb1
      have HM := fun w => Lib.hid (moves_any x y w L2 L1)
      rw [M.out] at HM
      clear hc hx hat ex ey ez R1 R2 M
      go_wp2_with (go_at_call 72; refine (HM _).out.mono ?_; rintro e w2 ⟨rfl, b2⟩)
      have b3 : Below w.heap.size w w2 := by
        refine Below.trans ?_ (Below.mono b2 (by simp; omega))
        first
          | exact ((hb.alloc hz _).setCell (by simp; omega) _).setCell (by simp; omega) _
          | exact hb.alloc hz _
      go_roundw
      case rel => exact ⟨k + 1, s + z, by omega, by go_num, by go_num, Lib.hid (by rw [S.out, HS.out]), b3⟩
      case measure => simp only [intOf]; omega
    · clear hx
      go_wp2
      go_ret
      have hke : k = pl.length := by omega
      subst hke
      exact ⟨ret_int HS.out.symm, hb⟩
end Go.Proofs.Ytillkjkdpkgckaa
