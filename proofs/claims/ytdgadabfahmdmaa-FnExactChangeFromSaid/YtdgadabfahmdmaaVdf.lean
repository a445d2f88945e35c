/-
  The model's table of what can be paid from a purse, by its contract. Conditions: coins (perhaps none) of at least 1, at most eight; a purse for them; amounts of at most 2^20.
-/
import Derived.Test.YtdgadabfahmdmaaVdp
import Derived.Test.YtdgadabfahmdmaaVfm
import Derived.Test.YtdgadabfahmdmaaVbm
import Derived.Deep.RegionWith
import Derived.IntWalk
namespace Go.Proofs.Ytdgadabfahmdmaa
open Go.RowKit

theorem zip_take {cs pl : List Nat} {i : Nat} (hl : cs.length = pl.length) (hi : i < cs.length) : (cs.zip pl).take (i + 1) = (cs.zip pl).take i ++ [(cs.getD i 0, pl.getD i 0)] := by
  have hz : i < (cs.zip pl).length := by rw [List.length_zip]; omega
  rw [List.take_add_one, List.getElem?_eq_getElem hz, List.getElem_zip]
  rw [List.getD_eq_getElem?_getD, List.getD_eq_getElem?_getD, List.getElem?_eq_getElem hi, List.getElem?_eq_getElem (show i < pl.length by omega)]
  rfl
def f0 : Nat → Bool := fun a => decide (a = 0)
theorem cF_take {cs pl : List Nat} {i : Nat} (hl : cs.length = pl.length) (hi : i < cs.length) : cF ((cs.zip pl).take (i + 1)) f0 = cn (cs.getD i 0) (pl.getD i 0) (cF ((cs.zip pl).take i) f0) := by
  rw [zip_take hl hi, cF_snoc]
theorem cF_all {cs pl : List Nat} (hp : Pos cs) (hl : cs.length = pl.length) : cF ((cs.zip pl).take cs.length) f0 = cB cs pl := by
  rw [List.take_of_length_le (by rw [List.length_zip]; omega)]
  exact cF_cB cs pl hp

set_option maxHeartbeats 8000000 in
set_option maxRecDepth 20000 in
theorem cnFrom_any (v u : Value) (cs pl : List Nat) (m : Nat) (w : World) (h : Sv w v (iL cs)) (g : Sv w u (iL pl)) (hp : Pos cs) (hlp : cs.length = pl.length) (hl : cs.length ≤ 8) (hm : m ≤ 1048576) :
    Calls Try.prog 72 #[v, u, .int .i64 m] w fun e w' => e = .returned (.slice (some ⟨w.heap.size, 0, none⟩) (m + 1) (m + 1)) ∧ w'.rowIs w.heap.size 4 (m + 1) (fun j => .bool (cB cs pl j)) ∧ Below w.heap.size w w' := by
  have hlen := iL_len cs
  have hlen2 := iL_len pl
  obtain ⟨p, cap, rfl, hx⟩ := h
  obtain ⟨p2, cap2, rfl, gx⟩ := g
  rw [hlen] at hx ⊢
  rw [hlen2] at gx ⊢
  have hmk := run_make_row' (P := Try.prog) 22 3 (.int .i64 0) 8 Try.underlying22 Try.infoI rfl .i64 .i64 (m + 1) (by omega) (by omega)
  have hmb := run_make_row' (P := Try.prog) 55 4 (.bool false) 1 Try.underlying55 Try.infoB rfl .i64 .i64 (m + 1) (by omega) (by omega)
  rw [Int.natCast_succ] at hmk hmb
  have HP := Lib.hid hp
  have HLP := Lib.hid hlp
  have HX : Hid (0 < cs.length → ∃ b off, p = some ⟨b, off, none⟩ ∧ b < w.heap.size ∧ ∀ j, j < cs.length → w.cell? ⟨b, off + j, none⟩ = some (.int .i64 ((cs.getD j 0 : Nat) : Int))) := Lib.hid (fun h0 => by
    obtain ⟨b, off, h1, h2, h3⟩ := hx h0
    exact ⟨b, off, h1, h2, fun j hj => by rw [← iL_at]; exact h3 j hj⟩)
  have GX : Hid (0 < pl.length → ∃ b off, p2 = some ⟨b, off, none⟩ ∧ b < w.heap.size ∧ ∀ j, j < pl.length → w.cell? ⟨b, off + j, none⟩ = some (.int .i64 ((pl.getD j 0 : Nat) : Int))) := Lib.hid (fun h0 => by
    obtain ⟨b, off, h1, h2, h3⟩ := gx h0
    exact ⟨b, off, h1, h2, fun j hj => by rw [← iL_at]; exact h3 j hj⟩)
  have CE := Lib.hid (cF_all hp hlp)
  have hl2 : pl.length ≤ 8 := by omega
  clear hp hx gx hlen hlen2 hlp
  have hrow0 : (w.alloc (.cells (madeCells #[.bool false] (m + 1)) 4)).rowIs w.heap.size 4 (m + 1) (fun _ => .bool false) := World.rowIs_made w _ _ _
  have hfr0 := hrow0.frozen 0
  have hb0 : Below w.heap.size w (w.alloc (.cells (madeCells #[.bool false] (m + 1)) 4)) := (Below.refl _ _).alloc (Nat.le_refl _) _
  have hc0 := hrow0.cell (i := 0) (by omega)
  have hrow1 := hrow0.set 0 (.bool true)
  rw [World.setCell_alloc_new] at hrow1
  go_enter Try.func72, Try.ntmps72
  go_wp2
  go_loopw [20] (fun i wr => ∃ k : Nat, k ≤ cs.length ∧ i = .int .i64 k ∧ wr.rowIs w.heap.size 4 (m + 1) (fun j => .bool (cF ((cs.zip pl).take k) f0 j)) ∧ Below w.heap.size w wr) (fun i _ => cs.length - (intOf i).toNat)
  case atStart =>
    refine ⟨0, Nat.zero_le _, rfl, hrow1.congr (fun j _ => ?_), (Below.refl _ _).alloc (Nat.le_refl _) _⟩
    by_cases e : j = 0
    · subst e; rfl
    · rw [if_neg e]; simp [cF, f0, e]
  case round =>
    clear hrow0 hfr0 hb0 hc0 hrow1
    obtain ⟨k, hk, rfl, hrow, hb⟩ := hrel
    by_cases hlt : k < cs.length
    · obtain ⟨b, off, rfl, hbl, hc⟩ := HX.out (by omega)
      obtain ⟨b2, off2, rfl, hbl2, hc2⟩ := GX.out (by have := HLP.out; omega)
      have hcell := (hb.cell (p := ⟨b, off + k, none⟩) hbl).trans (hc k hlt)
      have hcel2 := (hb.cell (p := ⟨b2, off2 + k, none⟩) hbl2).trans (hc2 k (by have := HLP.out; omega))
      have hc1 := HP.out _ (at_mem hlt)
      have CT := cF_take HLP.out hlt
      obtain ⟨c, ec⟩ : ∃ c, cs.getD k 0 = c := ⟨_, rfl⟩
      obtain ⟨pp, ep⟩ : ∃ p, pl.getD k 0 = p := ⟨_, rfl⟩
      rw [ec] at hcell hc1 CT
      rw [ep] at hcel2 CT
      have CT := Lib.hid CT
      obtain ⟨f, ef⟩ : ∃ f, cF ((cs.zip pl).take k) f0 = f := ⟨_, rfl⟩
      rw [ef] at hrow CT
      have hk2 : (k : Int) < (pl.length : Int) := by have := HLP.out; omega
      have hk0 : (0 : Int) ≤ (k : Int) := by omega
      have hzw := hb.size
      have HC2 := Lib.hid hcel2
      have hbl3 : b2 < w.heap.size := hbl2
      clear hc hc2 ec ep ef
      have hrowU : (wr.alloc (.cells (madeCells #[.int .i64 0] (m + 1)) 3)).rowIs wr.heap.size 3 (m + 1) (fun _ => .int .i64 0) := World.rowIs_made wr _ _ _
      have hbU : Below wr.heap.size wr (wr.alloc (.cells (madeCells #[.int .i64 0] (m + 1)) 3)) := (Below.refl _ _).alloc (Nat.le_refl _) _
      go_wp2
      obtain ⟨wo, ewo⟩ : ∃ wo, wo = wr := ⟨_, rfl⟩
      rw [← ewo] at hrow hb hzw HC2 hrowU hbU ⊢
      clear hcel2 hcell ewo
      go_loopw [30] (fun i wr => ∃ a : Nat, a ≤ m + 1 ∧ i = .int .i64 a ∧ wr.rowIs wo.heap.size 3 (m + 1) (fun j => .int .i64 (if j < a then us c pp f j else 0)) ∧ Below wo.heap.size wo wr) (fun i _ => m + 1 - (intOf i).toNat)
      case atStart => exact ⟨0, Nat.zero_le _, rfl, hrowU.congr (fun j _ => by simp), hbU⟩
      case round =>
        clear hrowU hbU
        obtain ⟨a, ha, rfl, hru, hbu⟩ := hrel
        have hrc := rowIs_keep hrow hbu
        by_cases ham : a ≤ m
        · have cc := hrc.cell (i := a) (by omega)
          have cu := hru.cell (i := a) (by omega)
          rw [if_neg (Nat.lt_irrefl a)] at cu
          have fu := hru.frozen a
          have i1 : (a : Int) < (m : Int) + 1 := by omega
          have i0 : (0 : Int) ≤ (a : Int) := by omega
          have hzu := hbu.size
          have US := fun (W : World) (x : Int) (hW : W.rowIs wo.heap.size 3 (m + 1) (fun j => .int .i64 (if j < a then us c pp f j else 0))) (e : us c pp f a = x) => Lib.hid ((hW.set a (.int .i64 x)).congr (t := 3) (f := fun j => if j = a then .int .i64 x else .int .i64 (if j < a then us c pp f j else 0)) (g := fun j => .int .i64 (if j < a + 1 then us c pp f j else 0)) (fun j _ => by
            by_cases h1 : j = a
            · subst h1; simp only [if_true]; rw [if_pos (by omega), e]
            · rw [if_neg h1]
              by_cases h2 : j < a
              · rw [if_pos h2, if_pos (by omega)]
              · rw [if_neg h2, if_neg (by omega)]))
          cases hfa : f a with
          | true =>
            rw [hfa] at cc
            have US0 := fun (W : World) hW => US W 0 hW (us_yes hc1 hfa)
            clear US hfa
            go_wp2
            go_roundw
            case rel => exact ⟨a + 1, by omega, by go_num, (US0 wr hru).out, hbu.setCell (Nat.le_refl _) _⟩
            case measure => simp only [intOf]; omega
          | false =>
            rw [hfa] at cc
            by_cases hca : c ≤ a
            · have UH := us_high (p := pp) hc1 hfa hca
              have cv := hru.cell (i := a - c) (by omega)
              rw [if_pos (by omega)] at cv
              have ub := us_bd (p := pp) (f := f) hc1 (a - c)
              obtain ⟨y, ey⟩ : ∃ y, us c pp f (a - c) = y := ⟨_, rfl⟩
              rw [ey] at cv ub UH
              have cpp := (hbu.cell (p := ⟨b2, off2 + k, none⟩) (by show b2 < _; omega)).trans HC2.out
              have dca : decide ((c : Int) ≤ (a : Int)) = true := by simp only [decide_eq_true_eq]; omega
              have j0 : (0 : Int) ≤ (a : Int) - c := by omega
              have j1 : (a : Int) - c < (m : Int) + 1 := by omega
              have j2 : ((a : Int) - c).toNat = a - c := by omega
              have jw : IntKind.i64.wrap ((a : Int) - c) = (a : Int) - c := IntWalk.i64_in _ (by omega)
              have jw2 : IntKind.i64.wrap (y + 1) = y + 1 := IntWalk.i64_in _ (by omega)
              clear ey hfa
              by_cases hy : 0 ≤ y
              · have dy : decide (0 ≤ y) = true := by simpa using hy
                by_cases hyp : y < (pp : Int)
                · have dyp : decide (y < (pp : Int)) = true := by simpa using hyp
                  have US1 := fun (W : World) hW => US W (y + 1) hW (UH.trans (if_pos ⟨hy, hyp⟩))
                  clear US UH ub
                  go_wp2
                  go_quiet (fail)
                  go_wp2
                  go_roundw
                  case rel => exact ⟨a + 1, by omega, by go_num, (US1 _ hru.drew).out, (below_drewN hbu _).setCell (Nat.le_refl _) _⟩
                  case measure => simp only [intOf]; omega
                · have dyp : decide (y < (pp : Int)) = false := by simpa using hyp
                  have US1 := fun (W : World) hW => US W (-1) hW (UH.trans (if_neg (by omega)))
                  clear US UH ub
                  go_wp2
                  go_quiet (fail)
                  go_wp2
                  go_roundw
                  case rel => exact ⟨a + 1, by omega, by go_num, (US1 _ hru.drew).out, (below_drewN hbu _).setCell (Nat.le_refl _) _⟩
                  case measure => simp only [intOf]; omega
              · have dy : decide (0 ≤ y) = false := by simpa using hy
                have US1 := fun (W : World) hW => US W (-1) hW (UH.trans (if_neg (by omega)))
                clear US UH ub
                go_wp2
                go_quiet (fail)
                go_wp2
                go_roundw
                case rel => exact ⟨a + 1, by omega, by go_num, (US1 _ hru.drew).out, (below_drewN hbu _).setCell (Nat.le_refl _) _⟩
                case measure => simp only [intOf]; omega
            · have US1 := fun (W : World) hW => US W (-1) hW (us_low hfa (by omega))
              have dca : decide ((c : Int) ≤ (a : Int)) = false := by simp only [decide_eq_false_iff_not]; omega
              clear US hfa
              go_wp2
              go_quiet (fail)
              go_wp2
              go_roundw
              case rel => exact ⟨a + 1, by omega, by go_num, (US1 _ hru.drew).out, (below_drewN hbu _).setCell (Nat.le_refl _) _⟩
              case measure => simp only [intOf]; omega
        · have ea : a = m + 1 := by omega
          subst ea
          have hru2 : Hid (wr.rowIs wo.heap.size 3 (m + 1) (fun j => .int .i64 (us c pp f j))) := Lib.hid (hru.congr (fun j hj => by rw [if_pos hj]))
          have hzu := hbu.size
          have hbw : Below w.heap.size w wr := hb.trans (hbu.mono hzw)
          have hor := rowIs_lt hrow
          clear hru
          go_wp2
          obtain ⟨wq, ewq⟩ : ∃ wq, wq = wr := ⟨_, rfl⟩
          rw [← ewq] at hrc hru2 hbw hzu ⊢
          clear hbu ewq
          go_loopw [83] (fun i wr => ∃ a : Nat, a ≤ m + 1 ∧ i = .int .i64 a ∧ wr.rowIs w.heap.size 4 (m + 1) (fun j => .bool (if j < a then cn c pp f j else f j)) ∧ Below w.heap.size w wr ∧ wr.heap[wo.heap.size]? = wq.heap[wo.heap.size]?) (fun i _ => m + 1 - (intOf i).toNat)
          case atStart => exact ⟨0, Nat.zero_le _, rfl, hrc.congr (fun j _ => by simp), hbw, rfl⟩
          case round =>
            clear hrc hbw
            obtain ⟨a, ha, rfl, hrc, hbw, hgk⟩ := hrel
            by_cases ham : a ≤ m
            · have cc := hrc.cell (i := a) (by omega)
              have fc := hrc.frozen a
              have cu := (cell_blk hgk).trans (hru2.out.cell (i := a) (by omega))
              have i1 : (a : Int) < (m : Int) + 1 := by omega
              have i0 : (0 : Int) ≤ (a : Int) := by omega
              have hcn : Hid (cn c pp f a = decide (0 ≤ us c pp f a)) := Lib.hid rfl
              obtain ⟨y, ey⟩ : ∃ y, us c pp f a = y := ⟨_, rfl⟩
              rw [ey] at cu hcn
              have hgne : wo.heap.size ≠ w.heap.size := by omega
              clear ey
              go_wp2
              go_roundw
              case rel =>
                refine ⟨a + 1, by omega, by go_num, (hrc.set a _).congr (fun j _ => ?_), hbw.setCell (Nat.le_refl _) _, (blk_other _ _ _ hgne).trans hgk⟩
                by_cases h1 : j = a
                · subst h1; simp only [if_true]; rw [if_pos (by omega), hcn.out]
                · rw [if_neg h1]
                  by_cases h2 : j < a
                  · rw [if_pos h2, if_pos (by omega)]
                  · rw [if_neg h2, if_neg (by omega)]
              case measure => simp only [intOf]; omega
            · have ea : a = m + 1 := by omega
              subst ea
              go_wp2
              go_roundw
              case rel => exact ⟨k + 1, by omega, by go_num, hrc.congr (fun j hj => by rw [if_pos hj, CT.out]), hbw⟩
              case measure => simp only [intOf]; omega
    · have hkl : k = cs.length := by omega
      subst hkl
      go_wp2
      go_ret
      rw [CE.out] at hrow
      exact ⟨rfl, hrow, hb⟩
end Go.Proofs.Ytdgadabfahmdmaa
