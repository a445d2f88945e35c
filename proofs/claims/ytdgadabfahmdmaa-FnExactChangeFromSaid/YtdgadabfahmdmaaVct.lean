/-
  Coins counted out of an amount: the program's countOut, by its contract, for each of the three closures that tell which come next. Conditions: at most 1024 kinds of at least 1, an amount of at most 2^20, a closure that takes no more than there is.
-/
import Derived.Test.YtdgadabfahmdmaaVcn
namespace Go.Proofs.Ytdgadabfahmdmaa
open Go.RowKit

theorem coJ_start (w : World) (b off cap m : Nat) (cs : List Nat) : CoJ w w.heap.size b off cap cs (List.replicate cs.length 0) m (((((w.alloc (.cells #[.slice (some ⟨b, off, none⟩) cs.length cap] 22)).alloc (.cells #[.slice (some ⟨w.heap.size + 1 + 1 + 1, 0, none⟩) cs.length cs.length] 22)).alloc (.cells #[.bool false] 4)).alloc (.cells (madeCells #[.int .i64 0] cs.length) 3)).alloc (.cells #[.int .i64 (m : Int)] 3)) := by
  refine ⟨?_, ?_, ?_, ?_, ?_, ?_, by simp⟩
  · exact (((((Boxed.new w 22 _).alloc _).alloc _).alloc _).alloc _)
  · have := ((((Boxed.new (w.alloc (.cells #[.slice (some ⟨b, off, none⟩) cs.length cap] 22)) 22 (.slice (some ⟨w.heap.size + 1 + 1 + 1, 0, none⟩) cs.length cs.length)).alloc (.cells #[.bool false] 4)).alloc (.cells (madeCells #[.int .i64 0] cs.length) 3)).alloc (.cells #[.int .i64 (m : Int)] 3))
    simpa using this
  · have := (((Boxed.new ((w.alloc (.cells #[.slice (some ⟨b, off, none⟩) cs.length cap] 22)).alloc (.cells #[.slice (some ⟨w.heap.size + 1 + 1 + 1, 0, none⟩) cs.length cs.length] 22)) 4 (.bool false)).alloc (.cells (madeCells #[.int .i64 0] cs.length) 3)).alloc (.cells #[.int .i64 (m : Int)] 3))
    simpa using this
  · have h1 : ((((w.alloc (.cells #[.slice (some ⟨b, off, none⟩) cs.length cap] 22)).alloc (.cells #[.slice (some ⟨w.heap.size + 1 + 1 + 1, 0, none⟩) cs.length cs.length] 22)).alloc (.cells #[.bool false] 4)).alloc (.cells (madeCells #[.int .i64 0] cs.length) 3)).rowIs (((w.alloc (.cells #[.slice (some ⟨b, off, none⟩) cs.length cap] 22)).alloc (.cells #[.slice (some ⟨w.heap.size + 1 + 1 + 1, 0, none⟩) cs.length cs.length] 22)).alloc (.cells #[.bool false] 4)).heap.size 3 cs.length (fun _ => .int .i64 0) := World.rowIs_made _ _ _ _
    have h2 := (rowIs_keep h1 ((Below.refl _ _).alloc (Nat.le_refl _) (.cells #[.int .i64 (m : Int)] 3))).congr (g := fun j => .int .i64 (((List.replicate cs.length 0).getD j 0 : Nat) : Int)) (fun j hj => by simp [hj])
    simpa using h2
  · have := Boxed.new ((((w.alloc (.cells #[.slice (some ⟨b, off, none⟩) cs.length cap] 22)).alloc (.cells #[.slice (some ⟨w.heap.size + 1 + 1 + 1, 0, none⟩) cs.length cs.length] 22)).alloc (.cells #[.bool false] 4)).alloc (.cells (madeCells #[.int .i64 0] cs.length) 3)) 3 (.int .i64 (m : Int))
    simpa using this
  · exact (((((Below.refl _ _).alloc (Nat.le_refl _) _).alloc (by simp) _).alloc (by simp; omega) _).alloc (by simp; omega) _).alloc (by simp; omega) _
def cNat (o : Option Value) : Nat := match o with | some (.int _ n) => n.toNat | _ => 0

set_option maxHeartbeats 8000000 in
set_option maxRecDepth 20000 in
theorem countOutG_any (w : World) (b off cap : Nat) (cs : List Nat) (m : Nat) (cp : Value) (step : Nat → List Nat) (hbl : b < w.heap.size)
    (hcl : ∀ j, j < cs.length → w.cell? ⟨b, off + j, none⟩ = some (.int .i64 ((cs.getD j 0 : Nat) : Int))) (hp : Pos cs) (hn : cs.length ≤ 1024) (hm : m ≤ 1048576) (hs : StepOk cs step m)
    (H : ∀ (l : Nat) (W : World), Below w.heap.size w W → 0 < l → l ≤ m → Calls Try.prog 57 #[.int .i64 (l : Int), cp] W fun e W' => ∃ u, e = .returned u ∧ Ow W' W.heap.size u (iL (step l)) ∧ Below W.heap.size W W') :
    Calls Try.prog 56 #[.slice (some ⟨b, off, none⟩) cs.length cap, .int .i64 (m : Int), .func (.func 57) #[] #[cp]] w fun e w' => ∃ u, e = .returned (.tuple #[u, .bool (coB cs step m)]) ∧ Ow w' w.heap.size u (iL (coR cs step m)) ∧ Below w.heap.size w w' := by
  have hmf : ∀ (fn : Fn) (first cap : Array Value) (w : World), (Instr.makeFunc fn first cap).run Try.prog w = .ok (.func fn first cap) w := fun _ _ _ _ => rfl
  have hmk := run_make_row' (P := Try.prog) 22 3 (.int .i64 0) 8 Try.underlying22 Try.infoI rfl .i64 .i64 cs.length (by omega) (by omega)
  have HCL := Lib.hid hcl
  have HP := Lib.hid hp
  have HS := Lib.hid hs
  have HH := Lib.hid H
  have HM := Lib.hid hm
  clear hcl hp hs H
  go_enter_defers Try.func56, Try.ntmps56
  go_wp2
  have J0 : CoJ w w.heap.size b off cap cs (List.replicate cs.length 0) m (((((w.alloc (.cells #[.slice (some ⟨b, off, none⟩) cs.length cap] 22)).alloc (.cells #[.slice (some ⟨w.heap.size + 1 + 1 + 1, 0, none⟩) cs.length cs.length] 22)).alloc (.cells #[.bool false] 4)).alloc (.cells (madeCells #[.int .i64 0] cs.length) 3)).alloc (.cells #[.int .i64 (m : Int)] 3)) := coJ_start w b off cap m cs
  have hzW : w.heap.size ≤ w.heap.size := Nat.le_refl _
  obtain ⟨W0, eW⟩ : ∃ W0, (((((w.alloc (.cells #[.slice (some ⟨b, off, none⟩) cs.length cap] 22)).alloc (.cells #[.slice (some ⟨w.heap.size + 1 + 1 + 1, 0, none⟩) cs.length cs.length] 22)).alloc (.cells #[.bool false] 4)).alloc (.cells (madeCells #[.int .i64 0] cs.length) 3)).alloc (.cells #[.int .i64 (m : Int)] 3)) = W0 := ⟨_, rfl⟩
  rw [eW] at J0 ⊢
  obtain ⟨N, hN⟩ : ∃ N, w.heap.size = N := ⟨_, rfl⟩
  rw [hN] at J0 hbl HH ⊢
  have J0 := Lib.hid J0
  clear eW hmk hzW
  have Z0 : Hid (∀ j, (List.replicate cs.length 0).getD j 0 + m ≤ m) := Lib.hid (fun j => by rw [List.getD_eq_getElem?_getD, List.getElem?_replicate]; split <;> simp)
  go_loopw [] (fun wr => ∃ (z : List Nat) (l f : Nat), l ≤ f ∧ l ≤ m ∧ (∀ j, z.getD j 0 + l ≤ m) ∧ co cs step f z l = co cs step m (List.replicate cs.length 0) m ∧ CoJ w N b off cap cs z l wr) (fun wr => cNat (wr.cell? ⟨N + 4, 0, none⟩))
  case atStart => exact ⟨_, m, m, Nat.le_refl _, Nat.le_refl _, Z0.out, rfl, J0.out⟩
  case round =>
    clear J0 Z0
    obtain ⟨z, l, f, hlf, hlm, hzb, hco, hJ⟩ := hrel
    have x2 := hJ.left.cell
    have y1 := hJ.ch.cell
    have y2 := hJ.okb.cell
    have y3 := hJ.ch.frozen
    have y4 := hJ.okb.frozen
    have MS : Hid (cNat (wr.cell? ⟨N + 4, 0, none⟩) = l) := Lib.hid (by rw [x2]; simp [cNat])
    by_cases hl0 : l = 0
    · subst hl0
      have E1 := co_stop cs step f z (l := 0) (.inl rfl)
      rw [E1] at hco
      have RB : Hid (coB cs step m = true) := Lib.hid (by unfold coB; rw [← hco]; rfl)
      have RR : Hid (coR cs step m = z) := Lib.hid (by unfold coR; rw [if_pos RB.out, ← hco])
      have HJ := Lib.hid hJ
      have x2 : wr.cell? ⟨N + 4, 0, none⟩ = some (.int .i64 0) := x2
      clear E1 hco hJ hzb
      go_wp2
      refine leaves_cons (f := 84) (args := #[.pointer (some ⟨N + 4, 0, none⟩), .pointer (some ⟨N + 1, 0, none⟩), .pointer (some ⟨N + 2, 0, none⟩)]) (by simp) (by simp [go_sem]) ?_
      have D1 : ((wr.setCell ⟨N + 1, 0, none⟩ (.slice (some ⟨N + 3, 0, none⟩) cs.length cs.length)).setCell ⟨N + 2, 0, none⟩ (.bool true)).cell? ⟨N + 4, 0, none⟩ = some (.int .i64 0) := (World.cell?_setCell_other _ _ _ _ (by simp)).trans ((World.cell?_setCell_other _ _ _ _ (by simp)).trans x2)
      refine (end_idle N _ D1).mono ?_
      rintro e u' w'' ⟨rfl, rfl, rfl⟩
      have hb := HJ.out.bel
      have R1 := rowIs_other (rowIs_other HJ.out.row ⟨N + 1, 0, none⟩ (.slice (some ⟨N + 3, 0, none⟩) cs.length cs.length) (by show N + 3 ≠ N + 1; omega)) ⟨N + 2, 0, none⟩ (.bool true) (by show N + 3 ≠ N + 2; omega)
      have B1 : Below N w ((wr.setCell ⟨N + 1, 0, none⟩ (.slice (some ⟨N + 3, 0, none⟩) cs.length cs.length)).setCell ⟨N + 2, 0, none⟩ (.bool true)) := (hb.setCell (p := ⟨N + 1, 0, none⟩) (by show N ≤ N + 1; omega) _).setCell (p := ⟨N + 2, 0, none⟩) (by show N ≤ N + 2; omega) _
      have C1 : ((wr.setCell ⟨N + 1, 0, none⟩ (.slice (some ⟨N + 3, 0, none⟩) cs.length cs.length)).setCell ⟨N + 2, 0, none⟩ (.bool true)).cell? ⟨N + 1, 0, none⟩ = some (.slice (some ⟨N + 3, 0, none⟩) cs.length cs.length) := (World.cell?_setCell_other _ _ _ _ (by simp)).trans (World.cell?_setCell_same _ _ _ y1)
      have C2 : ((wr.setCell ⟨N + 1, 0, none⟩ (.slice (some ⟨N + 3, 0, none⟩) cs.length cs.length)).setCell ⟨N + 2, 0, none⟩ (.bool true)).cell? ⟨N + 2, 0, none⟩ = some (.bool true) := World.cell?_setCell_same _ _ _ ((World.cell?_setCell_other _ _ _ _ (by simp)).trans y2)
      have hzl := HJ.out.len
      refine ⟨.tuple #[.slice (some ⟨N + 3, 0, none⟩) cs.length cs.length, .bool true], ?_, .slice (some ⟨N + 3, 0, none⟩) cs.length cs.length, by rw [RB.out], ?_, by rw [hN]; exact B1⟩
      · simp [results, Try.results56, go_sem, C1, C2]
      · rw [RR.out]
        exact (ow_of_row R1 (by rw [iL_len, hzl]) (by unfold maxLen; omega) (fun j hj => by rw [iL_at])).mono (by omega)
    · have h0 : 0 < l := by omega
      have hd : (0 : Int) < (l : Int) := by omega
      have hN5 : N + 5 ≤ wr.heap.size := hJ.left.lt
      have KD := HS.out.kd l h0 hlm
      have LE := HS.out.le l h0 hlm
      have CLN := cost_len HP.out KD
      have HJ := Lib.hid hJ
      have HZ := Lib.hid hzb
      have hbel := hJ.bel
      clear hJ hzb
      go_wp2_with fail
      refine (HH.out l wr hbel h0 hlm).mono ?_
      rintro e w2 ⟨u, rfl, ou, b2⟩
      have J2 := HJ.out.keep b2
      have CN := Lib.hid (count_any w N wr.heap.size b off cap cs z (step l) l w2 u J2 hbl HCL.out ou hN5 KD LE HP.out (by omega) (fun j => by have := HZ.out j; omega) (by omega))
      clear J2 hbel
      by_cases hst : step l = []
      · rw [hst] at CN
        have E1 := co_stop cs step f z (l := l) (.inr hst)
        rw [E1] at hco
        have RB : Hid (coB cs step m = false) := Lib.hid (by unfold coB; rw [← hco]; simp [hl0])
        have RR : Hid (coR cs step m = []) := Lib.hid (by unfold coR; rw [if_neg (by rw [RB.out]; simp)])
        clear E1 hco ou KD LE CLN
        go_wp2_with fail
        refine CN.out.mono ?_
        rintro e w3 ⟨rfl, J3⟩
        have x2 := J3.left.cell
        have y1 := J3.ch.cell
        have y2 := J3.okb.cell
        have y3 := J3.ch.frozen
        have y4 := J3.okb.frozen
        have e9 : l - cost cs [] = l := rfl
        rw [e9] at x2
        have J3 := Lib.hid J3
        simp only [List.length_nil, Nat.lt_irrefl, decide_false]
        clear CN
        go_wp2
        refine leaves_cons (f := 84) (args := #[.pointer (some ⟨N + 4, 0, none⟩), .pointer (some ⟨N + 1, 0, none⟩), .pointer (some ⟨N + 2, 0, none⟩)]) (by simp) (by simp [go_sem]) ?_
        have D1 : ((w3.setCell ⟨N + 1, 0, none⟩ (.slice (some ⟨N + 3, 0, none⟩) cs.length cs.length)).setCell ⟨N + 2, 0, none⟩ (.bool true)).cell? ⟨N + 4, 0, none⟩ = some (.int .i64 (l : Int)) := (World.cell?_setCell_other _ _ _ _ (by simp)).trans ((World.cell?_setCell_other _ _ _ _ (by simp)).trans x2)
        have D2 : ((w3.setCell ⟨N + 1, 0, none⟩ (.slice (some ⟨N + 3, 0, none⟩) cs.length cs.length)).setCell ⟨N + 2, 0, none⟩ (.bool true)).cell? ⟨N + 1, 0, none⟩ = some (.slice (some ⟨N + 3, 0, none⟩) cs.length cs.length) := (World.cell?_setCell_other _ _ _ _ (by simp)).trans (World.cell?_setCell_same _ _ _ y1)
        have D3 : ((w3.setCell ⟨N + 1, 0, none⟩ (.slice (some ⟨N + 3, 0, none⟩) cs.length cs.length)).setCell ⟨N + 2, 0, none⟩ (.bool true)).cell? ⟨N + 2, 0, none⟩ = some (.bool true) := World.cell?_setCell_same _ _ _ ((World.cell?_setCell_other _ _ _ _ (by simp)).trans y2)
        refine (end_fail N l h0 _ D1 _ _ D2 (by rw [World.frozen?_setCell, World.frozen?_setCell]; exact y3) D3 (by rw [World.frozen?_setCell, World.frozen?_setCell]; exact y4)).mono ?_
        rintro e u' w'' ⟨rfl, rfl, rfl⟩
        obtain ⟨W5, eW5⟩ : ∃ W5, ((w3.setCell ⟨N + 1, 0, none⟩ (.slice (some ⟨N + 3, 0, none⟩) cs.length cs.length)).setCell ⟨N + 2, 0, none⟩ (.bool true)) = W5 := ⟨_, rfl⟩
        have B5 : Below N w W5 := by rw [← eW5]; exact (J3.out.bel.setCell (p := ⟨N + 1, 0, none⟩) (by show N ≤ N + 1; omega) _).setCell (p := ⟨N + 2, 0, none⟩) (by show N ≤ N + 2; omega) _
        rw [eW5] at D2 D3 ⊢
        have B6 : Below N w ((W5.setCell ⟨N + 1, 0, none⟩ (.slice none 0 0)).setCell ⟨N + 2, 0, none⟩ (.bool false)) := (B5.setCell (p := ⟨N + 1, 0, none⟩) (by show N ≤ N + 1; omega) _).setCell (p := ⟨N + 2, 0, none⟩) (by show N ≤ N + 2; omega) _
        have C1 : ((W5.setCell ⟨N + 1, 0, none⟩ (.slice none 0 0)).setCell ⟨N + 2, 0, none⟩ (.bool false)).cell? ⟨N + 1, 0, none⟩ = some (.slice none 0 0) := (World.cell?_setCell_other _ _ _ _ (by simp)).trans (World.cell?_setCell_same _ _ _ D2)
        have C2 : ((W5.setCell ⟨N + 1, 0, none⟩ (.slice none 0 0)).setCell ⟨N + 2, 0, none⟩ (.bool false)).cell? ⟨N + 2, 0, none⟩ = some (.bool false) := World.cell?_setCell_same _ _ _ ((World.cell?_setCell_other _ _ _ _ (by simp)).trans D3)
        refine ⟨.tuple #[.slice none 0 0, .bool false], ?_, .slice none 0 0, by rw [RB.out], ?_, by rw [hN]; exact B6⟩
        · simp [results, Try.results56, go_sem, C1, C2]
        · rw [RR.out]; exact ow_nil _ _
      · have hlen : 0 < (step l).length := List.length_pos_iff.2 hst
        have hdl : decide (0 < (step l).length) = true := by simpa using hlen
        rw [hdl] at CN
        have LT := HS.out.lt HP.out h0 hlm hst
        have ZB := bump_bd HP.out (ks := step l) (z := z) KD HJ.out.len
        obtain ⟨f', rfl⟩ : ∃ f', f = f' + 1 := ⟨f - 1, by omega⟩
        have E1 : co cs step (f' + 1) z l = co cs step f' (bump z (step l)) (l - cost cs (step l)) := by
          simp only [co]; rw [if_neg (by intro h; rcases h with h | h; exact hl0 h; exact hst h)]
        rw [E1] at hco
        have HCO := Lib.hid hco
        have HZB : Hid (∀ j, (bump z (step l)).getD j 0 + (l - cost cs (step l)) ≤ m) := Lib.hid (fun j => by have := ZB j; have := HZ.out j; omega)
        clear E1 hco ou KD CLN hlen hdl ZB hst
        go_wp2_with fail
        refine CN.out.mono ?_
        rintro e w3 ⟨rfl, J3⟩
        have MS3 : Hid (cNat (w3.cell? ⟨N + 4, 0, none⟩) = l - cost cs (step l)) := Lib.hid (by rw [J3.left.cell]; simp [cNat])
        have J3 := Lib.hid J3
        clear CN
        go_wp2
        go_roundw
        case rel => exact ⟨_, _, f', by omega, by omega, HZB.out, HCO.out, J3.out⟩
        case measure => rw [MS3.out, MS.out]; exact LT

set_option maxHeartbeats 8000000 in
set_option maxRecDepth 20000 in
theorem countOutB_any (w : World) (b off cap : Nat) (cs : List Nat) (m : Nat) (cp : Value) (step : Nat → List Nat) (hbl : b < w.heap.size)
    (hcl : ∀ j, j < cs.length → w.cell? ⟨b, off + j, none⟩ = some (.int .i64 ((cs.getD j 0 : Nat) : Int))) (hp : Pos cs) (hn : cs.length ≤ 1024) (hm : m ≤ 1048576) (hs : StepOk cs step m)
    (H : ∀ (l : Nat) (W : World), Below w.heap.size w W → 0 < l → l ≤ m → Calls Try.prog 64 #[.int .i64 (l : Int), cp] W fun e W' => ∃ u, e = .returned u ∧ Ow W' W.heap.size u (iL (step l)) ∧ Below W.heap.size W W') :
    Calls Try.prog 56 #[.slice (some ⟨b, off, none⟩) cs.length cap, .int .i64 (m : Int), .func (.func 64) #[] #[cp]] w fun e w' => ∃ u, e = .returned (.tuple #[u, .bool (coB cs step m)]) ∧ Ow w' w.heap.size u (iL (coR cs step m)) ∧ Below w.heap.size w w' := by
  have hmf : ∀ (fn : Fn) (first cap : Array Value) (w : World), (Instr.makeFunc fn first cap).run Try.prog w = .ok (.func fn first cap) w := fun _ _ _ _ => rfl
  have hmk := run_make_row' (P := Try.prog) 22 3 (.int .i64 0) 8 Try.underlying22 Try.infoI rfl .i64 .i64 cs.length (by omega) (by omega)
  have HCL := Lib.hid hcl
  have HP := Lib.hid hp
  have HS := Lib.hid hs
  have HH := Lib.hid H
  have HM := Lib.hid hm
  clear hcl hp hs H
  go_enter_defers Try.func56, Try.ntmps56
  go_wp2
  have J0 : CoJ w w.heap.size b off cap cs (List.replicate cs.length 0) m (((((w.alloc (.cells #[.slice (some ⟨b, off, none⟩) cs.length cap] 22)).alloc (.cells #[.slice (some ⟨w.heap.size + 1 + 1 + 1, 0, none⟩) cs.length cs.length] 22)).alloc (.cells #[.bool false] 4)).alloc (.cells (madeCells #[.int .i64 0] cs.length) 3)).alloc (.cells #[.int .i64 (m : Int)] 3)) := coJ_start w b off cap m cs
  have hzW : w.heap.size ≤ w.heap.size := Nat.le_refl _
  obtain ⟨W0, eW⟩ : ∃ W0, (((((w.alloc (.cells #[.slice (some ⟨b, off, none⟩) cs.length cap] 22)).alloc (.cells #[.slice (some ⟨w.heap.size + 1 + 1 + 1, 0, none⟩) cs.length cs.length] 22)).alloc (.cells #[.bool false] 4)).alloc (.cells (madeCells #[.int .i64 0] cs.length) 3)).alloc (.cells #[.int .i64 (m : Int)] 3)) = W0 := ⟨_, rfl⟩
  rw [eW] at J0 ⊢
  obtain ⟨N, hN⟩ : ∃ N, w.heap.size = N := ⟨_, rfl⟩
  rw [hN] at J0 hbl HH ⊢
  have J0 := Lib.hid J0
  clear eW hmk hzW
  have Z0 : Hid (∀ j, (List.replicate cs.length 0).getD j 0 + m ≤ m) := Lib.hid (fun j => by rw [List.getD_eq_getElem?_getD, List.getElem?_replicate]; split <;> simp)
  go_loopw [] (fun wr => ∃ (z : List Nat) (l f : Nat), l ≤ f ∧ l ≤ m ∧ (∀ j, z.getD j 0 + l ≤ m) ∧ co cs step f z l = co cs step m (List.replicate cs.length 0) m ∧ CoJ w N b off cap cs z l wr) (fun wr => cNat (wr.cell? ⟨N + 4, 0, none⟩))
  case atStart => exact ⟨_, m, m, Nat.le_refl _, Nat.le_refl _, Z0.out, rfl, J0.out⟩
  case round =>
    clear J0 Z0
    obtain ⟨z, l, f, hlf, hlm, hzb, hco, hJ⟩ := hrel
    have x2 := hJ.left.cell
    have y1 := hJ.ch.cell
    have y2 := hJ.okb.cell
    have y3 := hJ.ch.frozen
    have y4 := hJ.okb.frozen
    have MS : Hid (cNat (wr.cell? ⟨N + 4, 0, none⟩) = l) := Lib.hid (by rw [x2]; simp [cNat])
    by_cases hl0 : l = 0
    · subst hl0
      have E1 := co_stop cs step f z (l := 0) (.inl rfl)
      rw [E1] at hco
      have RB : Hid (coB cs step m = true) := Lib.hid (by unfold coB; rw [← hco]; rfl)
      have RR : Hid (coR cs step m = z) := Lib.hid (by unfold coR; rw [if_pos RB.out, ← hco])
      have HJ := Lib.hid hJ
      have x2 : wr.cell? ⟨N + 4, 0, none⟩ = some (.int .i64 0) := x2
      clear E1 hco hJ hzb
      go_wp2
      refine leaves_cons (f := 84) (args := #[.pointer (some ⟨N + 4, 0, none⟩), .pointer (some ⟨N + 1, 0, none⟩), .pointer (some ⟨N + 2, 0, none⟩)]) (by simp) (by simp [go_sem]) ?_
      have D1 : ((wr.setCell ⟨N + 1, 0, none⟩ (.slice (some ⟨N + 3, 0, none⟩) cs.length cs.length)).setCell ⟨N + 2, 0, none⟩ (.bool true)).cell? ⟨N + 4, 0, none⟩ = some (.int .i64 0) := (World.cell?_setCell_other _ _ _ _ (by simp)).trans ((World.cell?_setCell_other _ _ _ _ (by simp)).trans x2)
      refine (end_idle N _ D1).mono ?_
      rintro e u' w'' ⟨rfl, rfl, rfl⟩
      have hb := HJ.out.bel
      have R1 := rowIs_other (rowIs_other HJ.out.row ⟨N + 1, 0, none⟩ (.slice (some ⟨N + 3, 0, none⟩) cs.length cs.length) (by show N + 3 ≠ N + 1; omega)) ⟨N + 2, 0, none⟩ (.bool true) (by show N + 3 ≠ N + 2; omega)
      have B1 : Below N w ((wr.setCell ⟨N + 1, 0, none⟩ (.slice (some ⟨N + 3, 0, none⟩) cs.length cs.length)).setCell ⟨N + 2, 0, none⟩ (.bool true)) := (hb.setCell (p := ⟨N + 1, 0, none⟩) (by show N ≤ N + 1; omega) _).setCell (p := ⟨N + 2, 0, none⟩) (by show N ≤ N + 2; omega) _
      have C1 : ((wr.setCell ⟨N + 1, 0, none⟩ (.slice (some ⟨N + 3, 0, none⟩) cs.length cs.length)).setCell ⟨N + 2, 0, none⟩ (.bool true)).cell? ⟨N + 1, 0, none⟩ = some (.slice (some ⟨N + 3, 0, none⟩) cs.length cs.length) := (World.cell?_setCell_other _ _ _ _ (by simp)).trans (World.cell?_setCell_same _ _ _ y1)
      have C2 : ((wr.setCell ⟨N + 1, 0, none⟩ (.slice (some ⟨N + 3, 0, none⟩) cs.length cs.length)).setCell ⟨N + 2, 0, none⟩ (.bool true)).cell? ⟨N + 2, 0, none⟩ = some (.bool true) := World.cell?_setCell_same _ _ _ ((World.cell?_setCell_other _ _ _ _ (by simp)).trans y2)
      have hzl := HJ.out.len
      refine ⟨.tuple #[.slice (some ⟨N + 3, 0, none⟩) cs.length cs.length, .bool true], ?_, .slice (some ⟨N + 3, 0, none⟩) cs.length cs.length, by rw [RB.out], ?_, by rw [hN]; exact B1⟩
      · simp [results, Try.results56, go_sem, C1, C2]
      · rw [RR.out]
        exact (ow_of_row R1 (by rw [iL_len, hzl]) (by unfold maxLen; omega) (fun j hj => by rw [iL_at])).mono (by omega)
    · have h0 : 0 < l := by omega
      have hd : (0 : Int) < (l : Int) := by omega
      have hN5 : N + 5 ≤ wr.heap.size := hJ.left.lt
      have KD := HS.out.kd l h0 hlm
      have LE := HS.out.le l h0 hlm
      have CLN := cost_len HP.out KD
      have HJ := Lib.hid hJ
      have HZ := Lib.hid hzb
      have hbel := hJ.bel
      clear hJ hzb
      go_wp2_with fail
      refine (HH.out l wr hbel h0 hlm).mono ?_
      rintro e w2 ⟨u, rfl, ou, b2⟩
      have J2 := HJ.out.keep b2
      have CN := Lib.hid (count_any w N wr.heap.size b off cap cs z (step l) l w2 u J2 hbl HCL.out ou hN5 KD LE HP.out (by omega) (fun j => by have := HZ.out j; omega) (by omega))
      clear J2 hbel
      by_cases hst : step l = []
      · rw [hst] at CN
        have E1 := co_stop cs step f z (l := l) (.inr hst)
        rw [E1] at hco
        have RB : Hid (coB cs step m = false) := Lib.hid (by unfold coB; rw [← hco]; simp [hl0])
        have RR : Hid (coR cs step m = []) := Lib.hid (by unfold coR; rw [if_neg (by rw [RB.out]; simp)])
        clear E1 hco ou KD LE CLN
        go_wp2_with fail
        refine CN.out.mono ?_
        rintro e w3 ⟨rfl, J3⟩
        have x2 := J3.left.cell
        have y1 := J3.ch.cell
        have y2 := J3.okb.cell
        have y3 := J3.ch.frozen
        have y4 := J3.okb.frozen
        have e9 : l - cost cs [] = l := rfl
        rw [e9] at x2
        have J3 := Lib.hid J3
        simp only [List.length_nil, Nat.lt_irrefl, decide_false]
        clear CN
        go_wp2
        refine leaves_cons (f := 84) (args := #[.pointer (some ⟨N + 4, 0, none⟩), .pointer (some ⟨N + 1, 0, none⟩), .pointer (some ⟨N + 2, 0, none⟩)]) (by simp) (by simp [go_sem]) ?_
        have D1 : ((w3.setCell ⟨N + 1, 0, none⟩ (.slice (some ⟨N + 3, 0, none⟩) cs.length cs.length)).setCell ⟨N + 2, 0, none⟩ (.bool true)).cell? ⟨N + 4, 0, none⟩ = some (.int .i64 (l : Int)) := (World.cell?_setCell_other _ _ _ _ (by simp)).trans ((World.cell?_setCell_other _ _ _ _ (by simp)).trans x2)
        have D2 : ((w3.setCell ⟨N + 1, 0, none⟩ (.slice (some ⟨N + 3, 0, none⟩) cs.length cs.length)).setCell ⟨N + 2, 0, none⟩ (.bool true)).cell? ⟨N + 1, 0, none⟩ = some (.slice (some ⟨N + 3, 0, none⟩) cs.length cs.length) := (World.cell?_setCell_other _ _ _ _ (by simp)).trans (World.cell?_setCell_same _ _ _ y1)
        have D3 : ((w3.setCell ⟨N + 1, 0, none⟩ (.slice (some ⟨N + 3, 0, none⟩) cs.length cs.length)).setCell ⟨N + 2, 0, none⟩ (.bool true)).cell? ⟨N + 2, 0, none⟩ = some (.bool true) := World.cell?_setCell_same _ _ _ ((World.cell?_setCell_other _ _ _ _ (by simp)).trans y2)
        refine (end_fail N l h0 _ D1 _ _ D2 (by rw [World.frozen?_setCell, World.frozen?_setCell]; exact y3) D3 (by rw [World.frozen?_setCell, World.frozen?_setCell]; exact y4)).mono ?_
        rintro e u' w'' ⟨rfl, rfl, rfl⟩
        obtain ⟨W5, eW5⟩ : ∃ W5, ((w3.setCell ⟨N + 1, 0, none⟩ (.slice (some ⟨N + 3, 0, none⟩) cs.length cs.length)).setCell ⟨N + 2, 0, none⟩ (.bool true)) = W5 := ⟨_, rfl⟩
        have B5 : Below N w W5 := by rw [← eW5]; exact (J3.out.bel.setCell (p := ⟨N + 1, 0, none⟩) (by show N ≤ N + 1; omega) _).setCell (p := ⟨N + 2, 0, none⟩) (by show N ≤ N + 2; omega) _
        rw [eW5] at D2 D3 ⊢
        have B6 : Below N w ((W5.setCell ⟨N + 1, 0, none⟩ (.slice none 0 0)).setCell ⟨N + 2, 0, none⟩ (.bool false)) := (B5.setCell (p := ⟨N + 1, 0, none⟩) (by show N ≤ N + 1; omega) _).setCell (p := ⟨N + 2, 0, none⟩) (by show N ≤ N + 2; omega) _
        have C1 : ((W5.setCell ⟨N + 1, 0, none⟩ (.slice none 0 0)).setCell ⟨N + 2, 0, none⟩ (.bool false)).cell? ⟨N + 1, 0, none⟩ = some (.slice none 0 0) := (World.cell?_setCell_other _ _ _ _ (by simp)).trans (World.cell?_setCell_same _ _ _ D2)
        have C2 : ((W5.setCell ⟨N + 1, 0, none⟩ (.slice none 0 0)).setCell ⟨N + 2, 0, none⟩ (.bool false)).cell? ⟨N + 2, 0, none⟩ = some (.bool false) := World.cell?_setCell_same _ _ _ ((World.cell?_setCell_other _ _ _ _ (by simp)).trans D3)
        refine ⟨.tuple #[.slice none 0 0, .bool false], ?_, .slice none 0 0, by rw [RB.out], ?_, by rw [hN]; exact B6⟩
        · simp [results, Try.results56, go_sem, C1, C2]
        · rw [RR.out]; exact ow_nil _ _
      · have hlen : 0 < (step l).length := List.length_pos_iff.2 hst
        have hdl : decide (0 < (step l).length) = true := by simpa using hlen
        rw [hdl] at CN
        have LT := HS.out.lt HP.out h0 hlm hst
        have ZB := bump_bd HP.out (ks := step l) (z := z) KD HJ.out.len
        obtain ⟨f', rfl⟩ : ∃ f', f = f' + 1 := ⟨f - 1, by omega⟩
        have E1 : co cs step (f' + 1) z l = co cs step f' (bump z (step l)) (l - cost cs (step l)) := by
          simp only [co]; rw [if_neg (by intro h; rcases h with h | h; exact hl0 h; exact hst h)]
        rw [E1] at hco
        have HCO := Lib.hid hco
        have HZB : Hid (∀ j, (bump z (step l)).getD j 0 + (l - cost cs (step l)) ≤ m) := Lib.hid (fun j => by have := ZB j; have := HZ.out j; omega)
        clear E1 hco ou KD CLN hlen hdl ZB hst
        go_wp2_with fail
        refine CN.out.mono ?_
        rintro e w3 ⟨rfl, J3⟩
        have MS3 : Hid (cNat (w3.cell? ⟨N + 4, 0, none⟩) = l - cost cs (step l)) := Lib.hid (by rw [J3.left.cell]; simp [cNat])
        have J3 := Lib.hid J3
        clear CN
        go_wp2
        go_roundw
        case rel => exact ⟨_, _, f', by omega, by omega, HZB.out, HCO.out, J3.out⟩
        case measure => rw [MS3.out, MS.out]; exact LT

set_option maxHeartbeats 8000000 in
set_option maxRecDepth 20000 in
theorem countOutF_any (w : World) (b off cap : Nat) (cs : List Nat) (m : Nat) (cp : Value) (step : Nat → List Nat) (hbl : b < w.heap.size)
    (hcl : ∀ j, j < cs.length → w.cell? ⟨b, off + j, none⟩ = some (.int .i64 ((cs.getD j 0 : Nat) : Int))) (hp : Pos cs) (hn : cs.length ≤ 1024) (hm : m ≤ 1048576) (hs : StepOk cs step m)
    (H : ∀ (l : Nat) (W : World), Below w.heap.size w W → 0 < l → l ≤ m → Calls Try.prog 75 #[.int .i64 (l : Int), cp] W fun e W' => ∃ u, e = .returned u ∧ Ow W' W.heap.size u (iL (step l)) ∧ Below W.heap.size W W') :
    Calls Try.prog 56 #[.slice (some ⟨b, off, none⟩) cs.length cap, .int .i64 (m : Int), .func (.func 75) #[] #[cp]] w fun e w' => ∃ u, e = .returned (.tuple #[u, .bool (coB cs step m)]) ∧ Ow w' w.heap.size u (iL (coR cs step m)) ∧ Below w.heap.size w w' := by
  have hmf : ∀ (fn : Fn) (first cap : Array Value) (w : World), (Instr.makeFunc fn first cap).run Try.prog w = .ok (.func fn first cap) w := fun _ _ _ _ => rfl
  have hmk := run_make_row' (P := Try.prog) 22 3 (.int .i64 0) 8 Try.underlying22 Try.infoI rfl .i64 .i64 cs.length (by omega) (by omega)
  have HCL := Lib.hid hcl
  have HP := Lib.hid hp
  have HS := Lib.hid hs
  have HH := Lib.hid H
  have HM := Lib.hid hm
  clear hcl hp hs H
  go_enter_defers Try.func56, Try.ntmps56
  go_wp2
  have J0 : CoJ w w.heap.size b off cap cs (List.replicate cs.length 0) m (((((w.alloc (.cells #[.slice (some ⟨b, off, none⟩) cs.length cap] 22)).alloc (.cells #[.slice (some ⟨w.heap.size + 1 + 1 + 1, 0, none⟩) cs.length cs.length] 22)).alloc (.cells #[.bool false] 4)).alloc (.cells (madeCells #[.int .i64 0] cs.length) 3)).alloc (.cells #[.int .i64 (m : Int)] 3)) := coJ_start w b off cap m cs
  have hzW : w.heap.size ≤ w.heap.size := Nat.le_refl _
  obtain ⟨W0, eW⟩ : ∃ W0, (((((w.alloc (.cells #[.slice (some ⟨b, off, none⟩) cs.length cap] 22)).alloc (.cells #[.slice (some ⟨w.heap.size + 1 + 1 + 1, 0, none⟩) cs.length cs.length] 22)).alloc (.cells #[.bool false] 4)).alloc (.cells (madeCells #[.int .i64 0] cs.length) 3)).alloc (.cells #[.int .i64 (m : Int)] 3)) = W0 := ⟨_, rfl⟩
  rw [eW] at J0 ⊢
  obtain ⟨N, hN⟩ : ∃ N, w.heap.size = N := ⟨_, rfl⟩
  rw [hN] at J0 hbl HH ⊢
  have J0 := Lib.hid J0
  clear eW hmk hzW
  have Z0 : Hid (∀ j, (List.replicate cs.length 0).getD j 0 + m ≤ m) := Lib.hid (fun j => by rw [List.getD_eq_getElem?_getD, List.getElem?_replicate]; split <;> simp)
  go_loopw [] (fun wr => ∃ (z : List Nat) (l f : Nat), l ≤ f ∧ l ≤ m ∧ (∀ j, z.getD j 0 + l ≤ m) ∧ co cs step f z l = co cs step m (List.replicate cs.length 0) m ∧ CoJ w N b off cap cs z l wr) (fun wr => cNat (wr.cell? ⟨N + 4, 0, none⟩))
  case atStart => exact ⟨_, m, m, Nat.le_refl _, Nat.le_refl _, Z0.out, rfl, J0.out⟩
  case round =>
    clear J0 Z0
    obtain ⟨z, l, f, hlf, hlm, hzb, hco, hJ⟩ := hrel
    have x2 := hJ.left.cell
    have y1 := hJ.ch.cell
    have y2 := hJ.okb.cell
    have y3 := hJ.ch.frozen
    have y4 := hJ.okb.frozen
    have MS : Hid (cNat (wr.cell? ⟨N + 4, 0, none⟩) = l) := Lib.hid (by rw [x2]; simp [cNat])
    by_cases hl0 : l = 0
    · subst hl0
      have E1 := co_stop cs step f z (l := 0) (.inl rfl)
      rw [E1] at hco
      have RB : Hid (coB cs step m = true) := Lib.hid (by unfold coB; rw [← hco]; rfl)
      have RR : Hid (coR cs step m = z) := Lib.hid (by unfold coR; rw [if_pos RB.out, ← hco])
      have HJ := Lib.hid hJ
      have x2 : wr.cell? ⟨N + 4, 0, none⟩ = some (.int .i64 0) := x2
      clear E1 hco hJ hzb
      go_wp2
      refine leaves_cons (f := 84) (args := #[.pointer (some ⟨N + 4, 0, none⟩), .pointer (some ⟨N + 1, 0, none⟩), .pointer (some ⟨N + 2, 0, none⟩)]) (by simp) (by simp [go_sem]) ?_
      have D1 : ((wr.setCell ⟨N + 1, 0, none⟩ (.slice (some ⟨N + 3, 0, none⟩) cs.length cs.length)).setCell ⟨N + 2, 0, none⟩ (.bool true)).cell? ⟨N + 4, 0, none⟩ = some (.int .i64 0) := (World.cell?_setCell_other _ _ _ _ (by simp)).trans ((World.cell?_setCell_other _ _ _ _ (by simp)).trans x2)
      refine (end_idle N _ D1).mono ?_
      rintro e u' w'' ⟨rfl, rfl, rfl⟩
      have hb := HJ.out.bel
      have R1 := rowIs_other (rowIs_other HJ.out.row ⟨N + 1, 0, none⟩ (.slice (some ⟨N + 3, 0, none⟩) cs.length cs.length) (by show N + 3 ≠ N + 1; omega)) ⟨N + 2, 0, none⟩ (.bool true) (by show N + 3 ≠ N + 2; omega)
      have B1 : Below N w ((wr.setCell ⟨N + 1, 0, none⟩ (.slice (some ⟨N + 3, 0, none⟩) cs.length cs.length)).setCell ⟨N + 2, 0, none⟩ (.bool true)) := (hb.setCell (p := ⟨N + 1, 0, none⟩) (by show N ≤ N + 1; omega) _).setCell (p := ⟨N + 2, 0, none⟩) (by show N ≤ N + 2; omega) _
      have C1 : ((wr.setCell ⟨N + 1, 0, none⟩ (.slice (some ⟨N + 3, 0, none⟩) cs.length cs.length)).setCell ⟨N + 2, 0, none⟩ (.bool true)).cell? ⟨N + 1, 0, none⟩ = some (.slice (some ⟨N + 3, 0, none⟩) cs.length cs.length) := (World.cell?_setCell_other _ _ _ _ (by simp)).trans (World.cell?_setCell_same _ _ _ y1)
      have C2 : ((wr.setCell ⟨N + 1, 0, none⟩ (.slice (some ⟨N + 3, 0, none⟩) cs.length cs.length)).setCell ⟨N + 2, 0, none⟩ (.bool true)).cell? ⟨N + 2, 0, none⟩ = some (.bool true) := World.cell?_setCell_same _ _ _ ((World.cell?_setCell_other _ _ _ _ (by simp)).trans y2)
      have hzl := HJ.out.len
      refine ⟨.tuple #[.slice (some ⟨N + 3, 0, none⟩) cs.length cs.length, .bool true], ?_, .slice (some ⟨N + 3, 0, none⟩) cs.length cs.length, by rw [RB.out], ?_, by rw [hN]; exact B1⟩
      · simp [results, Try.results56, go_sem, C1, C2]
      · rw [RR.out]
        exact (ow_of_row R1 (by rw [iL_len, hzl]) (by unfold maxLen; omega) (fun j hj => by rw [iL_at])).mono (by omega)
    · have h0 : 0 < l := by omega
      have hd : (0 : Int) < (l : Int) := by omega
      have hN5 : N + 5 ≤ wr.heap.size := hJ.left.lt
      have KD := HS.out.kd l h0 hlm
      have LE := HS.out.le l h0 hlm
      have CLN := cost_len HP.out KD
      have HJ := Lib.hid hJ
      have HZ := Lib.hid hzb
      have hbel := hJ.bel
      clear hJ hzb
      go_wp2_with fail
      refine (HH.out l wr hbel h0 hlm).mono ?_
      rintro e w2 ⟨u, rfl, ou, b2⟩
      have J2 := HJ.out.keep b2
      have CN := Lib.hid (count_any w N wr.heap.size b off cap cs z (step l) l w2 u J2 hbl HCL.out ou hN5 KD LE HP.out (by omega) (fun j => by have := HZ.out j; omega) (by omega))
      clear J2 hbel
      by_cases hst : step l = []
      · rw [hst] at CN
        have E1 := co_stop cs step f z (l := l) (.inr hst)
        rw [E1] at hco
        have RB : Hid (coB cs step m = false) := Lib.hid (by unfold coB; rw [← hco]; simp [hl0])
        have RR : Hid (coR cs step m = []) := Lib.hid (by unfold coR; rw [if_neg (by rw [RB.out]; simp)])
        clear E1 hco ou KD LE CLN
        go_wp2_with fail
        refine CN.out.mono ?_
        rintro e w3 ⟨rfl, J3⟩
        have x2 := J3.left.cell
        have y1 := J3.ch.cell
        have y2 := J3.okb.cell
        have y3 := J3.ch.frozen
        have y4 := J3.okb.frozen
        have e9 : l - cost cs [] = l := rfl
        rw [e9] at x2
        have J3 := Lib.hid J3
        simp only [List.length_nil, Nat.lt_irrefl, decide_false]
        clear CN
        go_wp2
        refine leaves_cons (f := 84) (args := #[.pointer (some ⟨N + 4, 0, none⟩), .pointer (some ⟨N + 1, 0, none⟩), .pointer (some ⟨N + 2, 0, none⟩)]) (by simp) (by simp [go_sem]) ?_
        have D1 : ((w3.setCell ⟨N + 1, 0, none⟩ (.slice (some ⟨N + 3, 0, none⟩) cs.length cs.length)).setCell ⟨N + 2, 0, none⟩ (.bool true)).cell? ⟨N + 4, 0, none⟩ = some (.int .i64 (l : Int)) := (World.cell?_setCell_other _ _ _ _ (by simp)).trans ((World.cell?_setCell_other _ _ _ _ (by simp)).trans x2)
        have D2 : ((w3.setCell ⟨N + 1, 0, none⟩ (.slice (some ⟨N + 3, 0, none⟩) cs.length cs.length)).setCell ⟨N + 2, 0, none⟩ (.bool true)).cell? ⟨N + 1, 0, none⟩ = some (.slice (some ⟨N + 3, 0, none⟩) cs.length cs.length) := (World.cell?_setCell_other _ _ _ _ (by simp)).trans (World.cell?_setCell_same _ _ _ y1)
        have D3 : ((w3.setCell ⟨N + 1, 0, none⟩ (.slice (some ⟨N + 3, 0, none⟩) cs.length cs.length)).setCell ⟨N + 2, 0, none⟩ (.bool true)).cell? ⟨N + 2, 0, none⟩ = some (.bool true) := World.cell?_setCell_same _ _ _ ((World.cell?_setCell_other _ _ _ _ (by simp)).trans y2)
        refine (end_fail N l h0 _ D1 _ _ D2 (by rw [World.frozen?_setCell, World.frozen?_setCell]; exact y3) D3 (by rw [World.frozen?_setCell, World.frozen?_setCell]; exact y4)).mono ?_
        rintro e u' w'' ⟨rfl, rfl, rfl⟩
        obtain ⟨W5, eW5⟩ : ∃ W5, ((w3.setCell ⟨N + 1, 0, none⟩ (.slice (some ⟨N + 3, 0, none⟩) cs.length cs.length)).setCell ⟨N + 2, 0, none⟩ (.bool true)) = W5 := ⟨_, rfl⟩
        have B5 : Below N w W5 := by rw [← eW5]; exact (J3.out.bel.setCell (p := ⟨N + 1, 0, none⟩) (by show N ≤ N + 1; omega) _).setCell (p := ⟨N + 2, 0, none⟩) (by show N ≤ N + 2; omega) _
        rw [eW5] at D2 D3 ⊢
        have B6 : Below N w ((W5.setCell ⟨N + 1, 0, none⟩ (.slice none 0 0)).setCell ⟨N + 2, 0, none⟩ (.bool false)) := (B5.setCell (p := ⟨N + 1, 0, none⟩) (by show N ≤ N + 1; omega) _).setCell (p := ⟨N + 2, 0, none⟩) (by show N ≤ N + 2; omega) _
        have C1 : ((W5.setCell ⟨N + 1, 0, none⟩ (.slice none 0 0)).setCell ⟨N + 2, 0, none⟩ (.bool false)).cell? ⟨N + 1, 0, none⟩ = some (.slice none 0 0) := (World.cell?_setCell_other _ _ _ _ (by simp)).trans (World.cell?_setCell_same _ _ _ D2)
        have C2 : ((W5.setCell ⟨N + 1, 0, none⟩ (.slice none 0 0)).setCell ⟨N + 2, 0, none⟩ (.bool false)).cell? ⟨N + 2, 0, none⟩ = some (.bool false) := World.cell?_setCell_same _ _ _ ((World.cell?_setCell_other _ _ _ _ (by simp)).trans D3)
        refine ⟨.tuple #[.slice none 0 0, .bool false], ?_, .slice none 0 0, by rw [RB.out], ?_, by rw [hN]; exact B6⟩
        · simp [results, Try.results56, go_sem, C1, C2]
        · rw [RR.out]; exact ow_nil _ _
      · have hlen : 0 < (step l).length := List.length_pos_iff.2 hst
        have hdl : decide (0 < (step l).length) = true := by simpa using hlen
        rw [hdl] at CN
        have LT := HS.out.lt HP.out h0 hlm hst
        have ZB := bump_bd HP.out (ks := step l) (z := z) KD HJ.out.len
        obtain ⟨f', rfl⟩ : ∃ f', f = f' + 1 := ⟨f - 1, by omega⟩
        have E1 : co cs step (f' + 1) z l = co cs step f' (bump z (step l)) (l - cost cs (step l)) := by
          simp only [co]; rw [if_neg (by intro h; rcases h with h | h; exact hl0 h; exact hst h)]
        rw [E1] at hco
        have HCO := Lib.hid hco
        have HZB : Hid (∀ j, (bump z (step l)).getD j 0 + (l - cost cs (step l)) ≤ m) := Lib.hid (fun j => by have := ZB j; have := HZ.out j; omega)
        clear E1 hco ou KD CLN hlen hdl ZB hst
        go_wp2_with fail
        refine CN.out.mono ?_
        rintro e w3 ⟨rfl, J3⟩
        have MS3 : Hid (cNat (w3.cell? ⟨N + 4, 0, none⟩) = l - cost cs (step l)) := Lib.hid (by rw [J3.left.cell]; simp [cNat])
        have J3 := Lib.hid J3
        clear CN
        go_wp2
        go_roundw
        case rel => exact ⟨_, _, f', by omega, by omega, HZB.out, HCO.out, J3.out⟩
        case measure => rw [MS3.out, MS.out]; exact LT

end Go.Proofs.Ytdgadabfahmdmaa
