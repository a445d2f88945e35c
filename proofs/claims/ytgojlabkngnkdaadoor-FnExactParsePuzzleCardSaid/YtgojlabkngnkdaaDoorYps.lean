/-
  The model's reading of a puzzle's text, by its contract. Condition: a text of at most 2^20 bytes.
-/
import Derived.Test.YtgojlabkngnkdaaDoorYph
namespace Go.Proofs.YtgojlabkngnkdaaDoor
open Go.RowKit

set_option maxHeartbeats 16000000 in
set_option maxRecDepth 20000 in
theorem pzParse_any (l : List UInt8) (w : World) (hl : l.length ≤ 1048576) :
    Calls Tryd.prog 46 #[.string (bstr l)] w fun e w' => ∃ p n c, e = .returned (.tuple #[.agg #[.slice p n c], .bool (ppB l)]) ∧ (ppB l = true → Ck w' w.heap.size (.slice p n c) (ppR l)) ∧ Below w.heap.size w w' := by
  have hsz := bstr_size l
  obtain ⟨s, es⟩ : ∃ s, bstr l = s := ⟨_, rfl⟩
  have ES := Lib.hid es
  rw [es] at hsz ⊢
  clear es
  obtain ⟨W, eW⟩ : ∃ W, (w.alloc (.cells #[.slice none 0 0] 43)).alloc (.cells #[.slice none 0 0] 43) = W := ⟨_, rfl⟩
  have hb0 : Below w.heap.size w W := by rw [← eW]; exact ((Below.refl _ _).alloc (Nat.le_refl _) _).alloc (by simp) _
  have ZW : W.heap.size = w.heap.size + 1 + 1 := by rw [← eW]; simp
  have HR := Lib.hid (show W.heap[w.heap.size]? = some (.cells #[.slice none 0 0] 43 (0, 0)) by rw [← eW]; exact blk_a w _ _)
  have HP := Lib.hid (show W.heap[w.heap.size + 1]? = some (.cells #[.slice none 0 0] 43 (0, 0)) by rw [← eW]; exact blk_b w _ _)
  by_cases h100 : (100 : Int) < (l.length : Int)
  · have N := pp_no (l := l) fun cs hg ht => by
      have := txt_short hg
      rw [ht] at this
      omega
    rw [N.1]
    clear N
    obtain ⟨cR, fR⟩ := cells1_of HR.out
    obtain ⟨cP, fP⟩ := cells1_of HP.out
    go_enter Tryd.func46, Tryd.ntmps46
    go_wp2_with fail
    exact bodyPost_ret (v := .tuple #[.agg #[.slice none 0 0], .bool false]) (by simp [results, Tryd.results46, go_sem, cR]) rfl ⟨_, _, _, rfl, (fun h => by cases h), hb0.setCell (Nat.le_refl _) _⟩
  by_cases h0 : l = []
  · have hm : ((l.length : Nat) : Int) = 0 := by rw [h0]; rfl
    have hR := HR.out
    have hP := HP.out
    have hb := hb0
    have HC : Hid (Ck W W.heap.size (.slice none 0 0) (pf l)) := Lib.hid (by rw [h0]; exact Ck.nil _ _)
    have HLT : Hid (w.heap.size < W.heap.size) := Lib.hid (by omega)
    have hlen : (pf l).length ≤ 1048577 := by rw [h0]; simp [pf]
    clear HR HP hb0
    obtain ⟨wr, hwr⟩ : ∃ x, x = W := ⟨_, rfl⟩
    subst hwr
    clear h0
    go_enter Tryd.func46, Tryd.ntmps46
    
    have SA := fun (W' : World) (h : Below wr.heap.size wr W') => And.intro (cells1_of ((h.block _ (box_lt hR)).trans hR)).1 (And.intro (cells1_of ((h.block _ (box_lt hR)).trans hR)).2 (cells1_of ((h.block _ (box_lt hP)).trans hP)).1)
    have HSA := Lib.hid SA
    have PG0 := fun (W' : World) (h : Below wr.heap.size wr W') => pzGood_any _ (pf l) W' (HC.out.cv.below h (Nat.le_refl _)) (by omega)
    obtain ⟨ga1, ga2, ga3⟩ := SA wr (Below.refl _ _)
    obtain ⟨gb1, gb2, gb3⟩ := SA wr.drew (Below.refl _ _).drew
    clear SA
    rcases pp_cases l with ⟨hg, hp⟩ | ⟨hg, hp, hpr, ht⟩ | ⟨hg, hp, ht⟩
    · rw [hg] at PG0
      have PG := fun W' h => Lib.hid (PG0 W' h)
      have N := Lib.hid hp
      clear PG0 hg hp
      go_upto_region 13 with (fail)
      refine wp_region_held_drew (S := fun w' => w'.cell? ⟨w.heap.size + 1, 0, none⟩ = some (.slice none 0 0)) (by kernel_rfl) gb3 (fun hH => ?_)
      refine wpAnyH_take (i := 0) (v := ?vx1) rfl (by kernel_rfl) (by kernel_rfl) (by kernel_rfl) (fun _ _ _ h => h) (Or.inl ⟨by rfl, ?hyx1⟩) hH ?restx1
      case hyx1 => (intro w hSw; (try dsimp only at hSw); go_simp <;> with_reducible rfl)
      try simp only [Act.put]
      refine wpAnyH_take (i := 1) (v := ?vx2) rfl (by kernel_rfl) (by kernel_rfl) (by kernel_rfl) (fun _ _ _ h => h) (Or.inl ⟨by rfl, ?hyx2⟩) hH ?restx2
      case hyx2 => (intro w hSw; (try dsimp only at hSw); go_simp <;> with_reducible rfl)
      try simp only [Act.put]
      refine wpAnyH_ready (rs := [2]) (by kernel_rfl) (by simp) (AllReadyH.cons rfl (fun K hK => ?_) AllReadyH.nil)
      go_simp
      go_at_call 41
      refine ((PG _ (Below.refl _ _).drew).out).mono ?_
      rintro e w7 ⟨rfl, b7⟩
      have B7 : Below wr.heap.size wr w7 := (Below.refl _ _).drew.trans b7
      obtain ⟨h1, h2, h3⟩ := HSA.out w7 B7
      go_wp2_with fail
      refine hK.out _ _ h3 (fun hH => ?_)
      clear hK K
      try simp only [Act.put]
      refine wpAnyH_take (i := 3) (v := ?vx3) rfl (by kernel_rfl) (by kernel_rfl) (by kernel_rfl) (fun _ _ _ h => h) (Or.inl ⟨by rfl, ?hyx3⟩) hH ?restx3
      case hyx3 => (intro w hSw; (try dsimp only at hSw); go_simp <;> with_reducible rfl)
      try simp only [Act.put]
      refine wpAnyH_take (i := 4) (v := undef) rfl (by kernel_rfl) (by kernel_rfl) (by kernel_rfl) (fun _ _ _ h => h) (Or.inr ⟨by rfl, rfl⟩) hH ?_
      try simp only [Act.put]
      refine wpAnyH_take (i := 5) (v := undef) rfl (by kernel_rfl) (by kernel_rfl) (by kernel_rfl) (fun _ _ _ h => h) (Or.inr ⟨by rfl, rfl⟩) hH ?_
      try simp only [Act.put]
      refine wpAnyH_take (i := 6) (v := undef) rfl (by kernel_rfl) (by kernel_rfl) (by kernel_rfl) (fun _ _ _ h => h) (Or.inr ⟨by rfl, rfl⟩) hH ?_
      try simp only [Act.put]
      refine wpAnyH_take (i := 7) (v := undef) rfl (by kernel_rfl) (by kernel_rfl) (by kernel_rfl) (fun _ _ _ h => h) (Or.inr ⟨by rfl, rfl⟩) hH ?_
      try simp only [Act.put]
      refine wpAnyH_take (i := 8) (v := ?vx4) rfl (by kernel_rfl) (by kernel_rfl) (by kernel_rfl) (fun _ _ _ h => h) (Or.inl ⟨by rfl, ?hyx4⟩) hH ?restx4
      case hyx4 => (intro w hSw; (try dsimp only at hSw); go_simp <;> with_reducible rfl)
      try simp only [Act.put]
      refine wpAnyH_ready (rs := [9]) (by kernel_rfl) (by simp) (AllReadyH.cons rfl (fun K hK => ?_) AllReadyH.nil)
      go_simp
      refine hK.out _ _ (cell_far h3 (by omega)) (fun hH => ?_)
      clear hK K
      try simp only [Act.put]
      refine wpAnyH_ready (rs := [10]) (by kernel_rfl) (by simp) (AllReadyH.cons rfl (fun K hK => ?_) AllReadyH.nil)
      go_simp
      refine hK.out _ _ hH (fun hH => ?_)
      clear hK K
      try simp only [Act.put]
      refine wpAnyH_done (by kernel_rfl) ?_ _
      all_goals
        go_wp2_with fail
        exact bodyPost_ret (v := .tuple #[.agg #[.slice none 0 0], .bool false]) (by simp [results, Tryd.results46, go_sem, h1]) rfl ⟨_, _, _, ret_pz N.out.symm, (fun h => by rw [N.out] at h; cases h), (nxt hb B7).setCell (Nat.le_refl _) _⟩
    · have TT0 := fun (W' : World) (h : Below wr.heap.size wr W') => pzText_any _ (pf l) W' (HC.out.cv.below h (Nat.le_refl _)) hg
      rw [hg] at PG0
      have PG := fun W' h => Lib.hid (PG0 W' h)
      have N := Lib.hid hp
      have NR := Lib.hid hpr
      have hq : ((bstr (txtP (pf l) (pf l).length)).toList == s.toList) = true := by rw [ht, ES.out]; simp
      generalize bstr (txtP (pf l) (pf l).length) = D at *
      have TT := fun W' h => Lib.hid (TT0 W' h)
      clear PG0 TT0 hg hp hpr ht
      go_upto_region 13 with (fail)
      go_region_law (first | (go_simp; go_at_call 41; refine ((PG _ (by first | exact Below.refl _ _ | exact (Below.refl _ _).drew)).out).mono ?_; rintro e w7 ⟨rfl, b7⟩; have B7 : Below wr.heap.size wr w7 := (by first | exact b7 | exact (Below.refl _ _).drew.trans b7); obtain ⟨h1, h2, h3⟩ := HSA.out w7 B7) | (go_simp; go_at_call 42; refine ((TT _ B7).out).mono ?_; rintro e w8 ⟨rfl, b8⟩; have B8 := nxt B7 b8; obtain ⟨i1, i2, i3⟩ := HSA.out w8 B8))
      all_goals
        go_wp2_with fail
        exact bodyPost_ret (v := .tuple #[.agg #[.slice none 0 0], .bool true]) (by simp [results, Tryd.results46, go_sem, i1]) rfl ⟨_, _, _, ret_pz N.out.symm, (fun _ => by rw [NR.out]; exact (Ck.abv (HC.out.below B8 (Nat.le_refl _)) ((Abv.refl _ _).setCell HLT.out _ _)).mono (by omega)), (nxt hb B8).setCell (Nat.le_refl _) _⟩
    · have TT0 := fun (W' : World) (h : Below wr.heap.size wr W') => pzText_any _ (pf l) W' (HC.out.cv.below h (Nat.le_refl _)) hg
      rw [hg] at PG0
      have PG := fun W' h => Lib.hid (PG0 W' h)
      have N := Lib.hid hp
      have hq : ((bstr (txtP (pf l) (pf l).length)).toList == s.toList) = false := by
        rw [← ES.out, bstr_list, bstr_list]; simpa using ht
      generalize bstr (txtP (pf l) (pf l).length) = D at *
      have TT := fun W' h => Lib.hid (TT0 W' h)
      clear PG0 TT0 hg hp ht
      go_upto_region 13 with (fail)
      go_region_law (first | (go_simp; go_at_call 41; refine ((PG _ (by first | exact Below.refl _ _ | exact (Below.refl _ _).drew)).out).mono ?_; rintro e w7 ⟨rfl, b7⟩; have B7 : Below wr.heap.size wr w7 := (by first | exact b7 | exact (Below.refl _ _).drew.trans b7); obtain ⟨h1, h2, h3⟩ := HSA.out w7 B7) | (go_simp; go_at_call 42; refine ((TT _ B7).out).mono ?_; rintro e w8 ⟨rfl, b8⟩; have B8 := nxt B7 b8; obtain ⟨i1, i2, i3⟩ := HSA.out w8 B8))
      all_goals
        go_wp2_with fail
        exact bodyPost_ret (v := .tuple #[.agg #[.slice none 0 0], .bool false]) (by simp [results, Tryd.results46, go_sem, i1]) rfl ⟨_, _, _, ret_pz N.out.symm, (fun h => by rw [N.out] at h; cases h), (nxt hb B8).setCell (Nat.le_refl _) _⟩
  have hpos : (0 : Int) < (l.length : Int) := by
    have : l.length ≠ 0 := fun e => h0 (List.length_eq_zero_iff.1 e)
    omega
  obtain ⟨n, en⟩ : ∃ n, (C.splitW l).length = n := ⟨_, rfl⟩
  have EN := Lib.hid en
  have hn0 : 0 < n := by
    have : (C.splitW l).length ≠ 0 := fun e => C.splitW_ne l (List.length_eq_zero_iff.1 e)
    omega
  have hn2 : n ≤ 101 := by have := C.splitW_len l; omega
  have SP := Lib.hid (C.l1Split_any l W (by omega))
  rw [ES.out] at SP
  have H0 := Lib.hid h0
  clear h0 en
  go_enter Tryd.func46, Tryd.ntmps46
  go_wp2_with fail
  clear eW
  refine SP.out.mono ?_
  rintro e w2 ⟨u2, rfl, ow2, b2⟩
  clear SP
  obtain ⟨gw, cw2, ow, rfl, hgw, HOW, HWC⟩ := ow2.obj (by rw [List.length_map, EN.out]; exact hn0)
  rw [List.length_map, EN.out]
  have hb2 := nxt hb0 b2
  have HR2 := (b2.block _ (by omega)).trans HR.out
  have HP2 := (b2.block _ (by omega)).trans HP.out
  have z2 := b2.size
  have lw := box_lt HOW
  have HWC := Lib.hid HWC
  clear b2 ow2 HR HP hb0
  go_wp2_with fail
  go_loopw [18] (fun i wr => ∃ (k : Nat) (x : Value), k ≤ n ∧ i = .int .i64 k ∧ wr.heap[w.heap.size]? = some (.cells #[.slice none 0 0] 43 (0, 0)) ∧ wr.heap[w.heap.size + 1]? = some (.cells #[x] 43 (0, 0)) ∧ wr.heap[gw]? = some ow ∧ Hid (Ck wr w2.heap.size x (((C.splitW l).take k).map cw)) ∧ w2.heap.size ≤ wr.heap.size ∧ Below w.heap.size w wr) (fun i _ => n - (intOf i).toNat)
  case atStart => exact ⟨0, _, Nat.zero_le _, rfl, HR2, HP2, HOW, Lib.hid (Ck.nil _ _), Nat.le_refl _, hb2⟩
  case round =>
    clear HR2 HP2 HOW hb2
    obtain ⟨k, x, hk, rfl, hR, hP, hW, HC, hz, hb⟩ := hrel
    have HRr := Lib.hid hR
    have HPr := Lib.hid hP
    have HWr := Lib.hid hW
    by_cases hlt : k < n
    · have hw : (C.splitW l)[k]? = some ((C.splitW l)[k]'(by rw [EN.out]; exact hlt)) := List.getElem?_eq_getElem _
      obtain ⟨wd, ewd⟩ : ∃ wd, (C.splitW l)[k]'(by rw [EN.out]; exact hlt) = wd := ⟨_, rfl⟩
      rw [ewd] at hw
      have hwl : wd.length ≤ 1048576 := by have := C.splitW_mem_len l wd (List.mem_of_getElem? hw); omega
      have hcell := HWC.out wr hW k (bstr wd) (by rw [List.getElem?_map, hw]; rfl)
      have HWL := Lib.hid hwl
      have SN0 := P.l1Split_any wd wr (by omega)
      obtain ⟨sw, esw⟩ : ∃ sw, bstr wd = sw := ⟨_, rfl⟩
      rw [esw] at hcell SN0
      have SN := Lib.hid SN0
      have HW := Lib.hid hw
      have HTK : Hid (((C.splitW l).take (k + 1)).map cw = ((C.splitW l).take k).map cw ++ [cw wd]) := Lib.hid (by rw [List.take_add_one, hw]; simp)
      have hll : (((C.splitW l).take k).map cw).length ≤ 101 := by rw [List.length_map, List.length_take]; omega
      generalize ((C.splitW l).take k).map cw = cs at *
      clear SN0 hw ewd hwl esw hR hP hW
      go_wp2_with fail
      clear hcell
      refine SN.out.mono ?_
      rintro e w3 ⟨u3, rfl, o3, b3⟩
      have hR3 := (b3.block _ (box_lt HRr.out)).trans HRr.out
      have hP3 := (b3.block _ (box_lt HPr.out)).trans HPr.out
      have hW3 := (b3.block _ (box_lt HWr.out)).trans HWr.out
      have z3 := b3.size
      have B3 := nxt hb b3
      have HC3 := Lib.hid (HC.out.below b3 (Nat.le_refl _))
      have HAP := Lib.hid (fun g hg => (World.ownsRow.lt HC.out g hg).2)
      have hwn : 0 < ((P.splitW wd).map bstr).length := by
        rw [List.length_map]
        have : (P.splitW wd).length ≠ 0 := fun e => P.splitW_ne wd (List.length_eq_zero_iff.1 e)
        omega
      obtain ⟨gv, cv, ov, rfl, hgv, HOV, HVC⟩ := o3.obj hwn
      rw [List.length_map]
      clear b3 SN HRr HPr HWr HC hwn o3
      by_cases h3 : (P.splitW wd).length = 3
      · obtain ⟨x0, x1, x2, e3⟩ : ∃ x0 x1 x2, P.splitW wd = [x0, x1, x2] := by
          match hq : P.splitW wd, h3 with
          | [x0, x1, x2], _ => exact ⟨x0, x1, x2, rfl⟩
        have ECW : Hid (cw wd = ⟨readW x0, readW x1, readW x2⟩) := Lib.hid (by unfold cw; rw [e3]; rfl)
        rw [e3] at HVC ⊢
        have lw0 : x0.length ≤ 1073741824 ∧ x1.length ≤ 1073741824 ∧ x2.length ≤ 1073741824 := by
          have q := P.splitW_mem_len wd
          rw [e3] at q
          have hz := HWL.out
          have := q x0 (by simp); have := q x1 (by simp); have := q x2 (by simp)
          omega
        have r0 := fun w => l1Read_any x0 w lw0.1
        have r1 := fun w => l1Read_any x1 w lw0.2.1
        have r2 := fun w => l1Read_any x2 w lw0.2.2
        have v0 := HVC w3 HOV 0 (bstr x0) rfl
        have v1 := HVC w3 HOV 1 (bstr x1) rfl
        have v2 := HVC w3 HOV 2 (bstr x2) rfl
        have SW := Lib.hid (fun (W' : World) (h : W'.heap[gv]? = some ov) => And.intro (HVC W' h 0 (bstr x0) rfl) (And.intro (HVC W' h 1 (bstr x1) rfl) (HVC W' h 2 (bstr x2) rfl)))
        generalize readW x0 = R0 at *
        generalize readW x1 = R1 at *
        generalize readW x2 = R2 at *
        generalize bstr x0 = D0 at *
        generalize bstr x1 = D1 at *
        generalize bstr x2 = D2 at *
        have Q0 := fun w => (r0 w).mono (fun e w' (h : _ ∧ w = w') => And.intro h.1 h.2.symm)
        have Q1 := fun w => (r1 w).mono (fun e w' (h : _ ∧ w = w') => And.intro h.1 h.2.symm)
        have Q2 := fun w => (r2 w).mono (fun e w' (h : _ ∧ w = w') => And.intro h.1 h.2.symm)
        have lb : gv < w3.heap.size := box_lt HOV
        have HR3 := Lib.hid hR3
        have HP3 := Lib.hid hP3
        have HW3 := Lib.hid hW3
        obtain ⟨px, cx, hx⟩ := HC3.out.shape
        subst hx
        have SA := fun (W' : World) (h : Below w3.heap.size w3 W') => And.intro (cells1_of ((h.block _ (box_lt HP3.out)).trans HP3.out)).1 (And.intro ((h.cell (p := ⟨gv, 0, none⟩) lb).trans v0) (And.intro ((h.cell (p := ⟨gv, 1, none⟩) lb).trans v1) ((h.cell (p := ⟨gv, 2, none⟩) lb).trans v2)))
        obtain ⟨gb1, gb2, gb3, gb4⟩ := SA w3.drew (Below.refl _ _).drew
        obtain ⟨ge1, -, -, -⟩ := SA (w3.alloc (.cells #[.int .i64 R0, .int .i64 R1, .int .i64 R2] 73)).drew ((Below.refl _ _).alloc (Nat.le_refl _) _).drew
        obtain ⟨gd1, -, -, -⟩ := SA (w3.drew.alloc (.cells #[.int .i64 R0, .int .i64 R1, .int .i64 R2] 73)) ((Below.refl _ _).drew.alloc (Nat.le_refl _) _)
        clear SA v0 v1 v2 hR3 hP3 hW3 h3 e3 HVC r0 r1 r2 lw0
        have hcsl : cs.length ≤ 101 := hll
        go_upto_region 11 with (fail)
        rename_i kA aA hA hwcA qA kB aB
        have AA := Lib.hid aA
        have AB := Lib.hid aB
        clear aA aB hA hwcA
        refine wp_region_held_drew (S := fun w' => w'.cell? ⟨gv, 0, none⟩ = some (.string D0) ∧ w'.cell? ⟨gv, 1, none⟩ = some (.string D1) ∧ w'.cell? ⟨gv, 2, none⟩ = some (.string D2)) (by kernel_rfl) (SW.out w3.drew HOV) (fun hH => ?_)
        refine wpAnyH_take (i := 0) (v := ?v1) rfl (by kernel_rfl) (by kernel_rfl) (by kernel_rfl) (fun _ _ _ h => h) (Or.inl ⟨by rfl, ?hy1⟩) hH ?rest1
        case hy1 => (intro w hSw; (try dsimp only at hSw); go_simp <;> with_reducible rfl)
        try simp only [Act.put]
        refine wpAnyH_take (i := 2) (v := ?v2) rfl (by kernel_rfl) (by kernel_rfl) (by kernel_rfl) (fun _ _ _ h => h) (Or.inl ⟨by rfl, ?hy2⟩) hH ?rest2
        case hy2 => (intro w hSw; (try dsimp only at hSw); go_simp <;> with_reducible rfl)
        try simp only [Act.put]
        refine wpAnyH_take (i := 3) (v := ?v3) rfl (by kernel_rfl) (by kernel_rfl) (by kernel_rfl) (fun _ _ _ h => h) (Or.inl ⟨by rfl, ?hy3⟩) hH ?rest3
        case hy3 => (intro w hSw; (try dsimp only at hSw); go_simp <;> with_reducible rfl)
        try simp only [Act.put]
        refine wpAnyH_take (i := 4) (v := ?v4) rfl (by kernel_rfl) (by kernel_rfl) (by kernel_rfl) (fun _ _ _ h => h) (Or.inl ⟨by rfl, ?hy4⟩) hH ?rest4
        case hy4 => (intro w hSw; (try dsimp only at hSw); go_simp <;> with_reducible rfl)
        try simp only [Act.put]
        refine wpAnyH_take (i := 6) (v := ?v5) rfl (by kernel_rfl) (by kernel_rfl) (by kernel_rfl) (fun _ _ _ h => h) (Or.inl ⟨by rfl, ?hy5⟩) hH ?rest5
        case hy5 => (intro w hSw; (try dsimp only at hSw); go_simp <;> with_reducible rfl)
        try simp only [Act.put]
        refine wpAnyH_take (i := 7) (v := ?v6) rfl (by kernel_rfl) (by kernel_rfl) (by kernel_rfl) (fun _ _ _ h => h) (Or.inl ⟨by rfl, ?hy6⟩) hH ?rest6
        case hy6 => (intro w hSw; (try dsimp only at hSw); go_simp <;> with_reducible rfl)
        try simp only [Act.put]
        refine wpAnyH_take (i := 8) (v := ?v7) rfl (by kernel_rfl) (by kernel_rfl) (by kernel_rfl) (fun _ _ _ h => h) (Or.inl ⟨by rfl, ?hy7⟩) hH ?rest7
        case hy7 => (intro w hSw; (try dsimp only at hSw); go_simp <;> with_reducible rfl)
        try simp only [Act.put]
        refine wpAnyH_take (i := 10) (v := ?v8) rfl (by kernel_rfl) (by kernel_rfl) (by kernel_rfl) (fun _ _ _ h => h) (Or.inl ⟨by rfl, ?hy8⟩) hH ?rest8
        case hy8 => (intro w hSw; (try dsimp only at hSw); go_simp <;> with_reducible rfl)
        try simp only [Act.put]
        refine wpAnyH_take (i := 11) (v := ?v9) rfl (by kernel_rfl) (by kernel_rfl) (by kernel_rfl) (fun _ _ _ h => h) (Or.inl ⟨by rfl, ?hy9⟩) hH ?rest9
        case hy9 => (intro w hSw; (try dsimp only at hSw); go_simp <;> with_reducible rfl)
        try simp only [Act.put]
        refine wpAnyH_take (i := 12) (v := ?v10) rfl (by kernel_rfl) (by kernel_rfl) (by kernel_rfl) (fun _ _ _ h => h) (Or.inl ⟨by rfl, ?hy10⟩) hH ?rest10
        case hy10 => (intro w hSw; (try dsimp only at hSw); go_simp <;> with_reducible rfl)
        try simp only [Act.put]
        refine wpAnyH_ready (rs := [1, 5]) (by kernel_rfl) (by simp) (AllReadyH.cons rfl (fun K hK => ?_) (AllReadyH.cons rfl (fun K hK => ?_) AllReadyH.nil))
        · skip
          go_simp
          refine hK.out _ _ (SW.out w3.drew HOV) (fun hH => ?_)
          clear hK K
          try simp only [Act.put]
          refine wpAnyH_ready (rs := [5]) (by kernel_rfl) (by simp) (AllReadyH.cons rfl (fun K hK => ?_) AllReadyH.nil)
          go_simp
          go_at_call 64
          with_reducible refine (Q0 _).mono ?_
          rintro e wz ⟨rfl, hwz⟩
          subst hwz
          go_wp2_with fail
          refine hK.out _ _ (SW.out w3.drew HOV) (fun hH => ?_)
          clear hK K
          try simp only [Act.put]
          refine wpAnyH_ready (rs := [9]) (by kernel_rfl) (by simp) (AllReadyH.cons rfl (fun K hK => ?_) AllReadyH.nil)
          go_simp
          go_at_call 64
          with_reducible refine (Q1 _).mono ?_
          rintro e wz ⟨rfl, hwz⟩
          subst hwz
          go_wp2_with fail
          refine hK.out _ _ (SW.out w3.drew HOV) (fun hH => ?_)
          clear hK K
          try simp only [Act.put]
          refine wpAnyH_ready (rs := [13]) (by kernel_rfl) (by simp) (AllReadyH.cons rfl (fun K hK => ?_) AllReadyH.nil)
          go_simp
          go_at_call 64
          with_reducible refine (Q2 _).mono ?_
          rintro e wz ⟨rfl, hwz⟩
          subst hwz
          go_wp2_with fail
          refine hK.out _ _ (SW.out w3.drew HOV) (fun hH => ?_)
          clear hK K
          try simp only [Act.put]
          refine wpAnyH_take (i := 14) (v := ?v11) rfl (by kernel_rfl) (by kernel_rfl) (by kernel_rfl) (fun _ _ _ h => h) (Or.inl ⟨by rfl, ?hy11⟩) hH ?rest11
          case hy11 => (intro w hSw; (try dsimp only at hSw); go_simp <;> with_reducible rfl)
          try simp only [Act.put]
          refine wpAnyH_ready (rs := [15]) (by kernel_rfl) (by simp) (AllReadyH.cons rfl (fun K hK => ?_) AllReadyH.nil)
          go_simp
          refine hK.out _ _ (SW.out _ ((heap_alloc_old _ _ (by first | exact lb | simpa using lb)).trans HOV)) (fun hH => ?_)
          clear hK K
          try simp only [Act.put]
          refine wpAnyH_ready (rs := [16]) (by kernel_rfl) (by simp) (AllReadyH.cons rfl (fun K hK => ?_) AllReadyH.nil)
          refine step_append_clue rfl (.tmp 29) (.tmp 43) rfl w2.heap.size _ cs rfl (HC3.out.below ((Below.refl _ _).drew.alloc (Nat.le_refl _) _) (Nat.le_refl _)) _ [⟨R0, R1, R2⟩] rfl (cs_one w3.drew ⟨R0, R1, R2⟩) (by simp; omega) (by simp; omega) ?_
          intro v6 w6 o6 g6
          have B6 : Below w2.heap.size w3 w6 := (((Below.refl w3.heap.size w3).drew.alloc (Nat.le_refl _) _).mono (by omega)).trans (CkGrown (HC3.out.below ((Below.refl _ _).drew.alloc (Nat.le_refl _) _) (Nat.le_refl _)) (by simp; omega) g6)
          have k6 := (B6.block (w.heap.size + 1) (by omega)).trans HP3.out
          obtain ⟨c6, f6⟩ := cells1_of k6
          have k7 : w6.heap[gv]? = some ov := (g6.block gv (by simp; omega) (fun e => by have := HAP.out _ e.symm; omega)).trans ((heap_alloc_old _ _ (by first | exact lb | simpa using lb)).trans HOV)
          have O6 := Lib.hid o6
          obtain ⟨p6, q6, rfl⟩ := o6.shape
          clear o6 g6
          refine hK.out _ _ (SW.out _ k7) (fun hH => ?_)
          clear hK K
          try simp only [Act.put]
          refine wpAnyH_take (i := 17) (v := ?v12) rfl (by kernel_rfl) (by kernel_rfl) (by kernel_rfl) (fun _ _ _ h => h) (Or.inl ⟨by rfl, ?hy12⟩) hH ?rest12
          case hy12 => (intro w hSw; (try dsimp only at hSw); go_simp <;> with_reducible rfl)
          try simp only [Act.put]
          refine wpAnyH_ready (rs := [18]) (by kernel_rfl) (by simp) (AllReadyH.cons rfl (fun K hK => ?_) AllReadyH.nil)
          go_simp
          refine hK.out _ _ (SW.out _ (box_far k7 (by omega) _)) (fun hH => ?_)
          clear hK K
          try simp only [Act.put]
          refine wpAnyH_done (by kernel_rfl) ?_ _
          clear gb1 gb2 gb3 gb4 ge1 gd1
          have O7 : Hid (Ck w6 w2.heap.size (.slice p6 (cs.length + 1) q6) (cs ++ [⟨R0, R1, R2⟩])) := Lib.hid (by have z := O6.out; rw [List.length_append] at z; exact z)
          have z6 := B6.size
          have aA := AA.out
          have aB := AB.out
          clear AA AB
          go_wp2_with fail
          go_roundw
          case rel => exact ⟨k + 1, _, by omega, by go_num, box_far ((B6.block w.heap.size (by omega)).trans HR3.out) (by omega) _, box_set k6, box_far ((B6.block gw lw).trans HW3.out) (by omega) _, Lib.hid (by rw [HTK.out, ECW.out]; exact Ck.abv O7.out ((Abv.refl _ _).setCell (by omega) _ _)), by simp [World.setCell]; omega, (B3.trans (B6.mono (by omega))).setCell (Nat.le_succ _) _⟩
          case measure => simp [intOf]; omega
        · skip
          go_simp
          go_at_call 64
          with_reducible refine (Q0 _).mono ?_
          rintro e wz ⟨rfl, hwz⟩
          subst hwz
          go_wp2_with fail
          refine hK.out _ _ (SW.out w3.drew HOV) (fun hH => ?_)
          clear hK K
          try simp only [Act.put]
          refine wpAnyH_ready (rs := [1, 9]) (by kernel_rfl) (by simp) (AllReadyH.cons rfl (fun K hK => ?_) (AllReadyH.cons rfl (fun K hK => ?_) AllReadyH.nil))
          · skip
            go_simp
            refine hK.out _ _ (SW.out w3.drew HOV) (fun hH => ?_)
            clear hK K
            try simp only [Act.put]
            refine wpAnyH_ready (rs := [9]) (by kernel_rfl) (by simp) (AllReadyH.cons rfl (fun K hK => ?_) AllReadyH.nil)
            go_simp
            go_at_call 64
            with_reducible refine (Q1 _).mono ?_
            rintro e wz ⟨rfl, hwz⟩
            subst hwz
            go_wp2_with fail
            refine hK.out _ _ (SW.out w3.drew HOV) (fun hH => ?_)
            clear hK K
            try simp only [Act.put]
            refine wpAnyH_ready (rs := [13]) (by kernel_rfl) (by simp) (AllReadyH.cons rfl (fun K hK => ?_) AllReadyH.nil)
            go_simp
            go_at_call 64
            with_reducible refine (Q2 _).mono ?_
            rintro e wz ⟨rfl, hwz⟩
            subst hwz
            go_wp2_with fail
            refine hK.out _ _ (SW.out w3.drew HOV) (fun hH => ?_)
            clear hK K
            try simp only [Act.put]
            refine wpAnyH_take (i := 14) (v := ?v13) rfl (by kernel_rfl) (by kernel_rfl) (by kernel_rfl) (fun _ _ _ h => h) (Or.inl ⟨by rfl, ?hy13⟩) hH ?rest13
            case hy13 => (intro w hSw; (try dsimp only at hSw); go_simp <;> with_reducible rfl)
            try simp only [Act.put]
            refine wpAnyH_ready (rs := [15]) (by kernel_rfl) (by simp) (AllReadyH.cons rfl (fun K hK => ?_) AllReadyH.nil)
            go_simp
            refine hK.out _ _ (SW.out _ ((heap_alloc_old _ _ (by first | exact lb | simpa using lb)).trans HOV)) (fun hH => ?_)
            clear hK K
            try simp only [Act.put]
            refine wpAnyH_ready (rs := [16]) (by kernel_rfl) (by simp) (AllReadyH.cons rfl (fun K hK => ?_) AllReadyH.nil)
            refine step_append_clue rfl (.tmp 29) (.tmp 43) rfl w2.heap.size _ cs rfl (HC3.out.below ((Below.refl _ _).drew.alloc (Nat.le_refl _) _) (Nat.le_refl _)) _ [⟨R0, R1, R2⟩] rfl (cs_one w3.drew ⟨R0, R1, R2⟩) (by simp; omega) (by simp; omega) ?_
            intro v6 w6 o6 g6
            have B6 : Below w2.heap.size w3 w6 := (((Below.refl w3.heap.size w3).drew.alloc (Nat.le_refl _) _).mono (by omega)).trans (CkGrown (HC3.out.below ((Below.refl _ _).drew.alloc (Nat.le_refl _) _) (Nat.le_refl _)) (by simp; omega) g6)
            have k6 := (B6.block (w.heap.size + 1) (by omega)).trans HP3.out
            obtain ⟨c6, f6⟩ := cells1_of k6
            have k7 : w6.heap[gv]? = some ov := (g6.block gv (by simp; omega) (fun e => by have := HAP.out _ e.symm; omega)).trans ((heap_alloc_old _ _ (by first | exact lb | simpa using lb)).trans HOV)
            have O6 := Lib.hid o6
            obtain ⟨p6, q6, rfl⟩ := o6.shape
            clear o6 g6
            refine hK.out _ _ (SW.out _ k7) (fun hH => ?_)
            clear hK K
            try simp only [Act.put]
            refine wpAnyH_take (i := 17) (v := ?v14) rfl (by kernel_rfl) (by kernel_rfl) (by kernel_rfl) (fun _ _ _ h => h) (Or.inl ⟨by rfl, ?hy14⟩) hH ?rest14
            case hy14 => (intro w hSw; (try dsimp only at hSw); go_simp <;> with_reducible rfl)
            try simp only [Act.put]
            refine wpAnyH_ready (rs := [18]) (by kernel_rfl) (by simp) (AllReadyH.cons rfl (fun K hK => ?_) AllReadyH.nil)
            go_simp
            refine hK.out _ _ (SW.out _ (box_far k7 (by omega) _)) (fun hH => ?_)
            clear hK K
            try simp only [Act.put]
            refine wpAnyH_done (by kernel_rfl) ?_ _
            clear gb1 gb2 gb3 gb4 ge1 gd1
            have O7 : Hid (Ck w6 w2.heap.size (.slice p6 (cs.length + 1) q6) (cs ++ [⟨R0, R1, R2⟩])) := Lib.hid (by have z := O6.out; rw [List.length_append] at z; exact z)
            have z6 := B6.size
            have aA := AA.out
            have aB := AB.out
            clear AA AB
            go_wp2_with fail
            go_roundw
            case rel => exact ⟨k + 1, _, by omega, by go_num, box_far ((B6.block w.heap.size (by omega)).trans HR3.out) (by omega) _, box_set k6, box_far ((B6.block gw lw).trans HW3.out) (by omega) _, Lib.hid (by rw [HTK.out, ECW.out]; exact Ck.abv O7.out ((Abv.refl _ _).setCell (by omega) _ _)), by simp [World.setCell]; omega, (B3.trans (B6.mono (by omega))).setCell (Nat.le_succ _) _⟩
            case measure => simp [intOf]; omega
          · skip
            go_simp
            go_at_call 64
            with_reducible refine (Q1 _).mono ?_
            rintro e wz ⟨rfl, hwz⟩
            subst hwz
            go_wp2_with fail
            refine hK.out _ _ (SW.out w3.drew HOV) (fun hH => ?_)
            clear hK K
            try simp only [Act.put]
            refine wpAnyH_ready (rs := [1, 13]) (by kernel_rfl) (by simp) (AllReadyH.cons rfl (fun K hK => ?_) (AllReadyH.cons rfl (fun K hK => ?_) AllReadyH.nil))
            · skip
              go_simp
              refine hK.out _ _ (SW.out w3.drew HOV) (fun hH => ?_)
              clear hK K
              try simp only [Act.put]
              refine wpAnyH_ready (rs := [13]) (by kernel_rfl) (by simp) (AllReadyH.cons rfl (fun K hK => ?_) AllReadyH.nil)
              go_simp
              go_at_call 64
              with_reducible refine (Q2 _).mono ?_
              rintro e wz ⟨rfl, hwz⟩
              subst hwz
              go_wp2_with fail
              refine hK.out _ _ (SW.out w3.drew HOV) (fun hH => ?_)
              clear hK K
              try simp only [Act.put]
              refine wpAnyH_take (i := 14) (v := ?v15) rfl (by kernel_rfl) (by kernel_rfl) (by kernel_rfl) (fun _ _ _ h => h) (Or.inl ⟨by rfl, ?hy15⟩) hH ?rest15
              case hy15 => (intro w hSw; (try dsimp only at hSw); go_simp <;> with_reducible rfl)
              try simp only [Act.put]
              refine wpAnyH_ready (rs := [15]) (by kernel_rfl) (by simp) (AllReadyH.cons rfl (fun K hK => ?_) AllReadyH.nil)
              go_simp
              refine hK.out _ _ (SW.out _ ((heap_alloc_old _ _ (by first | exact lb | simpa using lb)).trans HOV)) (fun hH => ?_)
              clear hK K
              try simp only [Act.put]
              refine wpAnyH_ready (rs := [16]) (by kernel_rfl) (by simp) (AllReadyH.cons rfl (fun K hK => ?_) AllReadyH.nil)
              refine step_append_clue rfl (.tmp 29) (.tmp 43) rfl w2.heap.size _ cs rfl (HC3.out.below ((Below.refl _ _).drew.alloc (Nat.le_refl _) _) (Nat.le_refl _)) _ [⟨R0, R1, R2⟩] rfl (cs_one w3.drew ⟨R0, R1, R2⟩) (by simp; omega) (by simp; omega) ?_
              intro v6 w6 o6 g6
              have B6 : Below w2.heap.size w3 w6 := (((Below.refl w3.heap.size w3).drew.alloc (Nat.le_refl _) _).mono (by omega)).trans (CkGrown (HC3.out.below ((Below.refl _ _).drew.alloc (Nat.le_refl _) _) (Nat.le_refl _)) (by simp; omega) g6)
              have k6 := (B6.block (w.heap.size + 1) (by omega)).trans HP3.out
              obtain ⟨c6, f6⟩ := cells1_of k6
              have k7 : w6.heap[gv]? = some ov := (g6.block gv (by simp; omega) (fun e => by have := HAP.out _ e.symm; omega)).trans ((heap_alloc_old _ _ (by first | exact lb | simpa using lb)).trans HOV)
              have O6 := Lib.hid o6
              obtain ⟨p6, q6, rfl⟩ := o6.shape
              clear o6 g6
              refine hK.out _ _ (SW.out _ k7) (fun hH => ?_)
              clear hK K
              try simp only [Act.put]
              refine wpAnyH_take (i := 17) (v := ?v16) rfl (by kernel_rfl) (by kernel_rfl) (by kernel_rfl) (fun _ _ _ h => h) (Or.inl ⟨by rfl, ?hy16⟩) hH ?rest16
              case hy16 => (intro w hSw; (try dsimp only at hSw); go_simp <;> with_reducible rfl)
              try simp only [Act.put]
              refine wpAnyH_ready (rs := [18]) (by kernel_rfl) (by simp) (AllReadyH.cons rfl (fun K hK => ?_) AllReadyH.nil)
              go_simp
              refine hK.out _ _ (SW.out _ (box_far k7 (by omega) _)) (fun hH => ?_)
              clear hK K
              try simp only [Act.put]
              refine wpAnyH_done (by kernel_rfl) ?_ _
              clear gb1 gb2 gb3 gb4 ge1 gd1
              have O7 : Hid (Ck w6 w2.heap.size (.slice p6 (cs.length + 1) q6) (cs ++ [⟨R0, R1, R2⟩])) := Lib.hid (by have z := O6.out; rw [List.length_append] at z; exact z)
              have z6 := B6.size
              have aA := AA.out
              have aB := AB.out
              clear AA AB
              go_wp2_with fail
              go_roundw
              case rel => exact ⟨k + 1, _, by omega, by go_num, box_far ((B6.block w.heap.size (by omega)).trans HR3.out) (by omega) _, box_set k6, box_far ((B6.block gw lw).trans HW3.out) (by omega) _, Lib.hid (by rw [HTK.out, ECW.out]; exact Ck.abv O7.out ((Abv.refl _ _).setCell (by omega) _ _)), by simp [World.setCell]; omega, (B3.trans (B6.mono (by omega))).setCell (Nat.le_succ _) _⟩
              case measure => simp [intOf]; omega
            · skip
              go_simp
              go_at_call 64
              with_reducible refine (Q2 _).mono ?_
              rintro e wz ⟨rfl, hwz⟩
              subst hwz
              go_wp2_with fail
              refine hK.out _ _ (SW.out w3.drew HOV) (fun hH => ?_)
              clear hK K
              try simp only [Act.put]
              refine wpAnyH_take (i := 14) (v := ?v17) rfl (by kernel_rfl) (by kernel_rfl) (by kernel_rfl) (fun _ _ _ h => h) (Or.inl ⟨by rfl, ?hy17⟩) hH ?rest17
              case hy17 => (intro w hSw; (try dsimp only at hSw); go_simp <;> with_reducible rfl)
              try simp only [Act.put]
              refine wpAnyH_ready (rs := [1, 15]) (by kernel_rfl) (by simp) (AllReadyH.cons rfl (fun K hK => ?_) (AllReadyH.cons rfl (fun K hK => ?_) AllReadyH.nil))
              · skip
                go_simp
                refine hK.out _ _ (SW.out w3.drew HOV) (fun hH => ?_)
                clear hK K
                try simp only [Act.put]
                refine wpAnyH_ready (rs := [15]) (by kernel_rfl) (by simp) (AllReadyH.cons rfl (fun K hK => ?_) AllReadyH.nil)
                go_simp
                refine hK.out _ _ (SW.out _ ((heap_alloc_old _ _ (by first | exact lb | simpa using lb)).trans HOV)) (fun hH => ?_)
                clear hK K
                try simp only [Act.put]
                refine wpAnyH_ready (rs := [16]) (by kernel_rfl) (by simp) (AllReadyH.cons rfl (fun K hK => ?_) AllReadyH.nil)
                refine step_append_clue rfl (.tmp 29) (.tmp 43) rfl w2.heap.size _ cs rfl (HC3.out.below ((Below.refl _ _).drew.alloc (Nat.le_refl _) _) (Nat.le_refl _)) _ [⟨R0, R1, R2⟩] rfl (cs_one w3.drew ⟨R0, R1, R2⟩) (by simp; omega) (by simp; omega) ?_
                intro v6 w6 o6 g6
                have B6 : Below w2.heap.size w3 w6 := (((Below.refl w3.heap.size w3).drew.alloc (Nat.le_refl _) _).mono (by omega)).trans (CkGrown (HC3.out.below ((Below.refl _ _).drew.alloc (Nat.le_refl _) _) (Nat.le_refl _)) (by simp; omega) g6)
                have k6 := (B6.block (w.heap.size + 1) (by omega)).trans HP3.out
                obtain ⟨c6, f6⟩ := cells1_of k6
                have k7 : w6.heap[gv]? = some ov := (g6.block gv (by simp; omega) (fun e => by have := HAP.out _ e.symm; omega)).trans ((heap_alloc_old _ _ (by first | exact lb | simpa using lb)).trans HOV)
                have O6 := Lib.hid o6
                obtain ⟨p6, q6, rfl⟩ := o6.shape
                clear o6 g6
                refine hK.out _ _ (SW.out _ k7) (fun hH => ?_)
                clear hK K
                try simp only [Act.put]
                refine wpAnyH_take (i := 17) (v := ?v18) rfl (by kernel_rfl) (by kernel_rfl) (by kernel_rfl) (fun _ _ _ h => h) (Or.inl ⟨by rfl, ?hy18⟩) hH ?rest18
                case hy18 => (intro w hSw; (try dsimp only at hSw); go_simp <;> with_reducible rfl)
                try simp only [Act.put]
                refine wpAnyH_ready (rs := [18]) (by kernel_rfl) (by simp) (AllReadyH.cons rfl (fun K hK => ?_) AllReadyH.nil)
                go_simp
                refine hK.out _ _ (SW.out _ (box_far k7 (by omega) _)) (fun hH => ?_)
                clear hK K
                try simp only [Act.put]
                refine wpAnyH_done (by kernel_rfl) ?_ _
                clear gb1 gb2 gb3 gb4 ge1 gd1
                have O7 : Hid (Ck w6 w2.heap.size (.slice p6 (cs.length + 1) q6) (cs ++ [⟨R0, R1, R2⟩])) := Lib.hid (by have z := O6.out; rw [List.length_append] at z; exact z)
                have z6 := B6.size
                have aA := AA.out
                have aB := AB.out
                clear AA AB
                go_wp2_with fail
                go_roundw
                case rel => exact ⟨k + 1, _, by omega, by go_num, box_far ((B6.block w.heap.size (by omega)).trans HR3.out) (by omega) _, box_set k6, box_far ((B6.block gw lw).trans HW3.out) (by omega) _, Lib.hid (by rw [HTK.out, ECW.out]; exact Ck.abv O7.out ((Abv.refl _ _).setCell (by omega) _ _)), by simp [World.setCell]; omega, (B3.trans (B6.mono (by omega))).setCell (Nat.le_succ _) _⟩
                case measure => simp [intOf]; omega
              · skip
                go_simp
                refine hK.out _ _ (SW.out _ ((heap_alloc_old _ _ (by first | exact lb | simpa using lb)).trans HOV)) (fun hH => ?_)
                clear hK K
                try simp only [Act.put]
                refine wpAnyH_ready (rs := [1]) (by kernel_rfl) (by simp) (AllReadyH.cons rfl (fun K hK => ?_) AllReadyH.nil)
                go_simp
                refine hK.out _ _ (SW.out _ ((heap_alloc_old _ _ (by first | exact lb | simpa using lb)).trans HOV)) (fun hH => ?_)
                clear hK K
                try simp only [Act.put]
                refine wpAnyH_ready (rs := [16]) (by kernel_rfl) (by simp) (AllReadyH.cons rfl (fun K hK => ?_) AllReadyH.nil)
                refine step_append_clue rfl (.tmp 29) (.tmp 43) rfl w2.heap.size _ cs rfl (HC3.out.below ((Below.refl _ _).drew.alloc (Nat.le_refl _) _) (Nat.le_refl _)) _ [⟨R0, R1, R2⟩] rfl (cs_one w3.drew ⟨R0, R1, R2⟩) (by simp; omega) (by simp; omega) ?_
                intro v6 w6 o6 g6
                have B6 : Below w2.heap.size w3 w6 := (((Below.refl w3.heap.size w3).drew.alloc (Nat.le_refl _) _).mono (by omega)).trans (CkGrown (HC3.out.below ((Below.refl _ _).drew.alloc (Nat.le_refl _) _) (Nat.le_refl _)) (by simp; omega) g6)
                have k6 := (B6.block (w.heap.size + 1) (by omega)).trans HP3.out
                obtain ⟨c6, f6⟩ := cells1_of k6
                have k7 : w6.heap[gv]? = some ov := (g6.block gv (by simp; omega) (fun e => by have := HAP.out _ e.symm; omega)).trans ((heap_alloc_old _ _ (by first | exact lb | simpa using lb)).trans HOV)
                have O6 := Lib.hid o6
                obtain ⟨p6, q6, rfl⟩ := o6.shape
                clear o6 g6
                refine hK.out _ _ (SW.out _ k7) (fun hH => ?_)
                clear hK K
                try simp only [Act.put]
                refine wpAnyH_take (i := 17) (v := ?v19) rfl (by kernel_rfl) (by kernel_rfl) (by kernel_rfl) (fun _ _ _ h => h) (Or.inl ⟨by rfl, ?hy19⟩) hH ?rest19
                case hy19 => (intro w hSw; (try dsimp only at hSw); go_simp <;> with_reducible rfl)
                try simp only [Act.put]
                refine wpAnyH_ready (rs := [18]) (by kernel_rfl) (by simp) (AllReadyH.cons rfl (fun K hK => ?_) AllReadyH.nil)
                go_simp
                refine hK.out _ _ (SW.out _ (box_far k7 (by omega) _)) (fun hH => ?_)
                clear hK K
                try simp only [Act.put]
                refine wpAnyH_done (by kernel_rfl) ?_ _
                clear gb1 gb2 gb3 gb4 ge1 gd1
                have O7 : Hid (Ck w6 w2.heap.size (.slice p6 (cs.length + 1) q6) (cs ++ [⟨R0, R1, R2⟩])) := Lib.hid (by have z := O6.out; rw [List.length_append] at z; exact z)
                have z6 := B6.size
                have aA := AA.out
                have aB := AB.out
                clear AA AB
                go_wp2_with fail
                go_roundw
                case rel => exact ⟨k + 1, _, by omega, by go_num, box_far ((B6.block w.heap.size (by omega)).trans HR3.out) (by omega) _, box_set k6, box_far ((B6.block gw lw).trans HW3.out) (by omega) _, Lib.hid (by rw [HTK.out, ECW.out]; exact Ck.abv O7.out ((Abv.refl _ _).setCell (by omega) _ _)), by simp [World.setCell]; omega, (B3.trans (B6.mono (by omega))).setCell (Nat.le_succ _) _⟩
                case measure => simp [intOf]; omega
      · have N := Lib.hid (pp_word H0.out HW.out fun c hc e => by
          subst e
          rw [clT_split] at h3
          exact h3 rfl)
        have d3 : ((((P.splitW wd).length : Nat) : Int) == 3) = false := by rw [beq_eq_false_iff_ne]; omega
        obtain ⟨cR, fR⟩ := cells1_of hR3
        go_wp2_with fail
        exact bodyPost_ret (v := .tuple #[.agg #[.slice none 0 0], .bool false]) (by simp [results, Tryd.results46, go_sem, cR]) rfl ⟨_, _, _, ret_pz N.out.1.symm, (fun h => by rw [N.out.1] at h; cases h), B3.setCell (Nat.le_refl _) _⟩
    · obtain rfl : k = n := by omega
      have epf : ((C.splitW l).take k).map cw = pf l := by rw [← EN.out, List.take_length, pf_take H0.out]
      rw [epf] at HC
      have hlen : (pf l).length ≤ 1048577 := by rw [pf_take H0.out, List.length_map, EN.out]; omega
      have HLT : Hid (w.heap.size < w2.heap.size) := Lib.hid (by omega)
      clear epf hW HRr HPr HWr
      have SA := fun (W' : World) (h : Below wr.heap.size wr W') => And.intro (cells1_of ((h.block _ (box_lt hR)).trans hR)).1 (And.intro (cells1_of ((h.block _ (box_lt hR)).trans hR)).2 (cells1_of ((h.block _ (box_lt hP)).trans hP)).1)
      have HSA := Lib.hid SA
      have PG0 := fun (W' : World) (h : Below wr.heap.size wr W') => pzGood_any _ (pf l) W' (HC.out.cv.below h (Nat.le_refl _)) (by omega)
      obtain ⟨px, cx, hx⟩ := HC.out.shape
      subst hx
      obtain ⟨cx0, hx0⟩ : ∃ m, (pf l).length = m := ⟨_, rfl⟩
      rw [hx0] at PG0 SA HSA HC
      obtain ⟨ga1, ga2, ga3⟩ := SA wr (Below.refl _ _)
      obtain ⟨gb1, gb2, gb3⟩ := SA wr.drew (Below.refl _ _).drew
      clear SA
      rcases pp_cases l with ⟨hg, hp⟩ | ⟨hg, hp, hpr, ht⟩ | ⟨hg, hp, ht⟩
      · rw [hg] at PG0
        have PG := fun W' h => Lib.hid (PG0 W' h)
        have N := Lib.hid hp
        clear PG0 hg hp
        go_upto_region 13 with (fail)
        refine wp_region_held_drew (S := fun w' => w'.cell? ⟨w.heap.size + 1, 0, none⟩ = some (.slice px cx0 cx)) (by kernel_rfl) gb3 (fun hH => ?_)
        refine wpAnyH_take (i := 0) (v := ?vy1) rfl (by kernel_rfl) (by kernel_rfl) (by kernel_rfl) (fun _ _ _ h => h) (Or.inl ⟨by rfl, ?hyy1⟩) hH ?resty1
        case hyy1 => (intro w hSw; (try dsimp only at hSw); go_simp <;> with_reducible rfl)
        try simp only [Act.put]
        refine wpAnyH_take (i := 1) (v := ?vy2) rfl (by kernel_rfl) (by kernel_rfl) (by kernel_rfl) (fun _ _ _ h => h) (Or.inl ⟨by rfl, ?hyy2⟩) hH ?resty2
        case hyy2 => (intro w hSw; (try dsimp only at hSw); go_simp <;> with_reducible rfl)
        try simp only [Act.put]
        refine wpAnyH_ready (rs := [2]) (by kernel_rfl) (by simp) (AllReadyH.cons rfl (fun K hK => ?_) AllReadyH.nil)
        go_simp
        go_at_call 41
        refine ((PG _ (Below.refl _ _).drew).out).mono ?_
        rintro e w7 ⟨rfl, b7⟩
        have B7 : Below wr.heap.size wr w7 := (Below.refl _ _).drew.trans b7
        obtain ⟨h1, h2, h3⟩ := HSA.out w7 B7
        go_wp2_with fail
        refine hK.out _ _ h3 (fun hH => ?_)
        clear hK K
        try simp only [Act.put]
        refine wpAnyH_take (i := 3) (v := ?vy3) rfl (by kernel_rfl) (by kernel_rfl) (by kernel_rfl) (fun _ _ _ h => h) (Or.inl ⟨by rfl, ?hyy3⟩) hH ?resty3
        case hyy3 => (intro w hSw; (try dsimp only at hSw); go_simp <;> with_reducible rfl)
        try simp only [Act.put]
        refine wpAnyH_take (i := 4) (v := undef) rfl (by kernel_rfl) (by kernel_rfl) (by kernel_rfl) (fun _ _ _ h => h) (Or.inr ⟨by rfl, rfl⟩) hH ?_
        try simp only [Act.put]
        refine wpAnyH_take (i := 5) (v := undef) rfl (by kernel_rfl) (by kernel_rfl) (by kernel_rfl) (fun _ _ _ h => h) (Or.inr ⟨by rfl, rfl⟩) hH ?_
        try simp only [Act.put]
        refine wpAnyH_take (i := 6) (v := undef) rfl (by kernel_rfl) (by kernel_rfl) (by kernel_rfl) (fun _ _ _ h => h) (Or.inr ⟨by rfl, rfl⟩) hH ?_
        try simp only [Act.put]
        refine wpAnyH_take (i := 7) (v := undef) rfl (by kernel_rfl) (by kernel_rfl) (by kernel_rfl) (fun _ _ _ h => h) (Or.inr ⟨by rfl, rfl⟩) hH ?_
        try simp only [Act.put]
        refine wpAnyH_take (i := 8) (v := ?vy4) rfl (by kernel_rfl) (by kernel_rfl) (by kernel_rfl) (fun _ _ _ h => h) (Or.inl ⟨by rfl, ?hyy4⟩) hH ?resty4
        case hyy4 => (intro w hSw; (try dsimp only at hSw); go_simp <;> with_reducible rfl)
        try simp only [Act.put]
        refine wpAnyH_ready (rs := [9]) (by kernel_rfl) (by simp) (AllReadyH.cons rfl (fun K hK => ?_) AllReadyH.nil)
        go_simp
        refine hK.out _ _ (cell_far h3 (by omega)) (fun hH => ?_)
        clear hK K
        try simp only [Act.put]
        refine wpAnyH_ready (rs := [10]) (by kernel_rfl) (by simp) (AllReadyH.cons rfl (fun K hK => ?_) AllReadyH.nil)
        go_simp
        refine hK.out _ _ hH (fun hH => ?_)
        clear hK K
        try simp only [Act.put]
        refine wpAnyH_done (by kernel_rfl) ?_ _
        all_goals
          go_wp2_with fail
          exact bodyPost_ret (v := .tuple #[.agg #[.slice px cx0 cx], .bool false]) (by simp [results, Tryd.results46, go_sem, h1]) rfl ⟨_, _, _, ret_pz N.out.symm, (fun h => by rw [N.out] at h; cases h), (nxt hb B7).setCell (Nat.le_refl _) _⟩
      · have TT0 := fun (W' : World) (h : Below wr.heap.size wr W') => pzText_any _ (pf l) W' (HC.out.cv.below h (Nat.le_refl _)) hg
        rw [hg] at PG0
        have PG := fun W' h => Lib.hid (PG0 W' h)
        have N := Lib.hid hp
        have NR := Lib.hid hpr
        have hq : ((bstr (txtP (pf l) (pf l).length)).toList == s.toList) = true := by rw [ht, ES.out]; simp
        generalize bstr (txtP (pf l) (pf l).length) = D at *
        have TT := fun W' h => Lib.hid (TT0 W' h)
        clear PG0 TT0 hg hp hpr ht
        go_upto_region 13 with (fail)
        go_region_law (first | (go_simp; go_at_call 41; refine ((PG _ (by first | exact Below.refl _ _ | exact (Below.refl _ _).drew)).out).mono ?_; rintro e w7 ⟨rfl, b7⟩; have B7 : Below wr.heap.size wr w7 := (by first | exact b7 | exact (Below.refl _ _).drew.trans b7); obtain ⟨h1, h2, h3⟩ := HSA.out w7 B7) | (go_simp; go_at_call 42; refine ((TT _ B7).out).mono ?_; rintro e w8 ⟨rfl, b8⟩; have B8 := nxt B7 b8; obtain ⟨i1, i2, i3⟩ := HSA.out w8 B8))
        all_goals
          go_wp2_with fail
          exact bodyPost_ret (v := .tuple #[.agg #[.slice px cx0 cx], .bool true]) (by simp [results, Tryd.results46, go_sem, i1]) rfl ⟨_, _, _, ret_pz N.out.symm, (fun _ => by rw [NR.out]; exact (Ck.abv (HC.out.below B8 (Nat.le_refl _)) ((Abv.refl _ _).setCell HLT.out _ _)).mono (by omega)), (nxt hb B8).setCell (Nat.le_refl _) _⟩
      · have TT0 := fun (W' : World) (h : Below wr.heap.size wr W') => pzText_any _ (pf l) W' (HC.out.cv.below h (Nat.le_refl _)) hg
        rw [hg] at PG0
        have PG := fun W' h => Lib.hid (PG0 W' h)
        have N := Lib.hid hp
        have hq : ((bstr (txtP (pf l) (pf l).length)).toList == s.toList) = false := by
          rw [← ES.out, bstr_list, bstr_list]; simpa using ht
        generalize bstr (txtP (pf l) (pf l).length) = D at *
        have TT := fun W' h => Lib.hid (TT0 W' h)
        clear PG0 TT0 hg hp ht
        go_upto_region 13 with (fail)
        go_region_law (first | (go_simp; go_at_call 41; refine ((PG _ (by first | exact Below.refl _ _ | exact (Below.refl _ _).drew)).out).mono ?_; rintro e w7 ⟨rfl, b7⟩; have B7 : Below wr.heap.size wr w7 := (by first | exact b7 | exact (Below.refl _ _).drew.trans b7); obtain ⟨h1, h2, h3⟩ := HSA.out w7 B7) | (go_simp; go_at_call 42; refine ((TT _ B7).out).mono ?_; rintro e w8 ⟨rfl, b8⟩; have B8 := nxt B7 b8; obtain ⟨i1, i2, i3⟩ := HSA.out w8 B8))
        all_goals
          go_wp2_with fail
          exact bodyPost_ret (v := .tuple #[.agg #[.slice px cx0 cx], .bool false]) (by simp [results, Tryd.results46, go_sem, i1]) rfl ⟨_, _, _, ret_pz N.out.symm, (fun h => by rw [N.out] at h; cases h), (nxt hb B8).setCell (Nat.le_refl _) _⟩

set_option maxHeartbeats 4000000 in
theorem specParsePz_any (l : List UInt8) (w : World) (hl : l.length ≤ 1048576) :
    Calls Tryd.prog 21 #[.string (bstr l)] w fun e w' => ∃ u, e = .returned (.tuple #[.agg #[u], .bool (ppB l)]) ∧ Ck w' w.heap.size u (ppR l) ∧ Below w.heap.size w w' := by
  obtain ⟨W, eW⟩ : ∃ W, w.alloc (.cells #[.slice none 0 0] 43) = W := ⟨_, rfl⟩
  have hb0 : Below w.heap.size w W := by rw [← eW]; exact (Below.refl _ _).alloc (Nat.le_refl _) _
  have zW : w.heap.size < W.heap.size := by rw [← eW]; simp
  have HR := Lib.hid (show W.heap[w.heap.size]? = some (.cells #[.slice none 0 0] 43 (0, 0)) by rw [← eW]; exact heap_alloc_new w _)
  have PP := Lib.hid (pzParse_any l W hl)
  generalize bstr l = s at *
  go_enter Tryd.func21, Tryd.ntmps21
  go_wp2_with fail
  clear eW
  refine PP.out.mono ?_
  rintro e w1 ⟨p, n, c, rfl, hck, b1⟩
  obtain ⟨W1, eW1⟩ : ∃ W1, w1.alloc (.cells #[.slice p n c] 43) = W1 := ⟨_, rfl⟩
  have b2 : Below w1.heap.size w1 W1 := by rw [← eW1]; exact (Below.refl _ _).alloc (Nat.le_refl _) _
  have B2 := nxt hb0 (nxt b1 b2)
  obtain ⟨cR, fR⟩ := cells1_of (((nxt b1 b2).block _ zW).trans HR.out)
  obtain ⟨cP, fP⟩ := cells1_of (show W1.heap[w1.heap.size]? = some (.cells #[.slice p n c] 43 (0, 0)) by rw [← eW1]; exact heap_alloc_new w1 _)
  have HC := Lib.hid (fun h => (hck h).below b2 (Nat.le_refl _))
  clear hck
  cases hg : ppB l with
  | false =>
    have NR := Lib.hid (show ppR l = [] by unfold ppR; rw [hg]; rfl)
    have N := Lib.hid hg
    clear hg
    go_wp2_with fail
    exact bodyPost_ret (v := .tuple #[.agg #[.slice none 0 0], .bool false]) (by simp [results, Tryd.results21, go_sem, cR]) rfl ⟨_, ret_pz N.out.symm, by rw [NR.out]; exact Ck.nil _ _, B2.setCell (Nat.le_refl _) _⟩
  | true =>
    have HC2 := Lib.hid (HC.out hg)
    have N := Lib.hid hg
    clear hg HC
    go_wp2_with fail
    exact bodyPost_ret (v := .tuple #[.agg #[.slice p n c], .bool true]) (by simp [results, Tryd.results21, go_sem, cR]) rfl ⟨_, ret_pz N.out.symm, (Ck.abv HC2.out ((Abv.refl _ _).setCell zW _ _)).mono (by omega), B2.setCell (Nat.le_refl _) _⟩
end Go.Proofs.YtgojlabkngnkdaaDoor
