/-
  MakePuzzle in the model and in the program, by their contracts. Condition: at most 2^40 numbers in the list.
-/
import Derived.Test.YtphjiicdodkfbaaYmk
import Derived.Deep.RegionLaw
import Derived.Deep.CutRange
namespace Go.Proofs.Ytphjiicdodkfbaa
open Go.RowKit

theorem blk_set {w : World} {b : Nat} {v x : Value} {t : TypeId} (h : w.heap[b]? = some (.cells #[v] t (0, 0))) : (w.setCell ⟨b, 0, none⟩ x).heap[b]? = some (.cells #[x] t (0, 0)) := by
  simp [World.setCell, Array.getElem?_modify, h]
theorem nxtW {W w1 wr : World} (h : Below W.heap.size W w1) (k : Below w1.heap.size w1 wr) : Below W.heap.size W wr := nxt h k
theorem inB_out {n lo hi : Int} (h : n < lo ∨ hi < n) : inB n lo hi = false := by
  cases e : inB n lo hi
  · rfl
  · have := inB_iff.1 e; omega

set_option maxHeartbeats 8000000 in
set_option maxRecDepth 8000 in

theorem specMakePuzzle_any (v : Value) (xs : List Int) (m s : Int) (w : World) (h : Sv w v xs) (hl : xs.length ≤ 1099511627776) :
    Calls Try.prog 62 #[v, .int .i64 m, .int .i64 s] w fun e w' => ∃ u, e = .returned (.tuple #[.agg #[u], .bool (mkB xs m s)]) ∧ Ck w' w.heap.size u (mkR xs m s) ∧ Below w.heap.size w w' := by
  obtain ⟨W, eW⟩ : ∃ W, w.alloc (.cells #[.slice none 0 0] 39) = W := ⟨_, rfl⟩
  have hb0 : Below w.heap.size w W := by rw [← eW]; exact (Below.refl _ _).alloc (Nat.le_refl _) _
  have ZW : W.heap.size = w.heap.size + 1 := by rw [← eW]; simp
  have HR := Lib.hid (show W.heap[w.heap.size]? = some (.cells #[.slice none 0 0] 39 (0, 0)) by rw [← eW]; exact heap_alloc_new w _)
  have HS := Lib.hid (h.below hb0 (Nat.le_refl _))
  have PG := Lib.hid (pzHidden_any _ xs W HS.out hl)
  clear h hl
  cases hB : hdB xs
  · rw [hB] at PG
    have E0 : mkB xs m s = false := by unfold mkB; rw [hB]; rfl
    have E1 : mkR xs m s = [] := by unfold mkR; rw [E0]; rfl
    rw [E0, E1]
    clear E0 E1
    clear hB
    go_enter Try.func62, Try.ntmps62
    go_wp2_with fail
    clear eW
    refine PG.out.mono ?_
    rintro e w1 ⟨rfl, t⟩
    clear PG
    obtain ⟨cR, fR⟩ := cells1_of ((t.block _ (by omega)).trans HR.out)
    go_wp2_with fail
    exact bodyPost_ret (v := .tuple #[.agg #[.slice none 0 0], .bool false]) (by simp [results, Try.results62, go_sem, cR]) rfl ⟨_, rfl, Ck.nil _ _, (nxt hb0 t).setCell (Nat.le_refl _) _⟩
  · rw [hB] at PG
    cases hm : inB m 0 6
    · have E0 : mkB xs m s = false := by unfold mkB; rw [hB, hm]; rfl
      have E1 : mkR xs m s = [] := by unfold mkR; rw [E0]; rfl
      rw [E0, E1]
      clear E0 E1
      clear hB
      go_enter Try.func62, Try.ntmps62
      go_wp2_with fail
      clear eW
      refine PG.out.mono ?_
      rintro e w1 ⟨rfl, t⟩
      clear PG
      obtain ⟨cR, fR⟩ := cells1_of ((t.block _ (by omega)).trans HR.out)
      go_wp2_with fail
      refine (l1In_any _ _ _ _).mono ?_
      rintro e wl ⟨rfl, rfl⟩
      rw [hm]
      go_wp2_with fail
      exact bodyPost_ret (v := .tuple #[.agg #[.slice none 0 0], .bool false]) (by simp [results, Try.results62, go_sem, cR]) rfl ⟨_, rfl, Ck.nil _ _, (nxt hb0 t).setCell (Nat.le_refl _) _⟩
    cases hs : inB s 0 9999
    · have E0 : mkB xs m s = false := by unfold mkB; rw [hB, hm, hs]; rfl
      have E1 : mkR xs m s = [] := by unfold mkR; rw [E0]; rfl
      rw [E0, E1]
      clear E0 E1
      clear hB
      go_enter Try.func62, Try.ntmps62
      go_wp2_with fail
      clear eW
      refine PG.out.mono ?_
      rintro e w1 ⟨rfl, t⟩
      clear PG
      obtain ⟨cR, fR⟩ := cells1_of ((t.block _ (by omega)).trans HR.out)
      go_wp2_with fail
      refine (l1In_any _ _ _ _).mono ?_
      rintro e wl ⟨rfl, rfl⟩
      rw [hm]
      go_wp2_with fail
      refine (l1In_any _ _ _ _).mono ?_
      rintro e wl ⟨rfl, rfl⟩
      rw [hs]
      go_wp2_with fail
      exact bodyPost_ret (v := .tuple #[.agg #[.slice none 0 0], .bool false]) (by simp [results, Try.results62, go_sem, cR]) rfl ⟨_, rfl, Ck.nil _ _, (nxt hb0 t).setCell (Nat.le_refl _) _⟩
    have EB : mkB xs m s = true := by unfold mkB; rw [hB, hm, hs]; rfl
    have hm9 := inB_iff.1 hm
    have hs9 := inB_iff.1 hs
    obtain ⟨n, rfl⟩ : ∃ n : Nat, m = (n : Int) := ⟨m.toNat, by omega⟩
    have hn6 : n ≤ 6 := by omega
    have ER : mkR xs (n : Int) s = mkT s xs n := by unfold mkR; rw [if_pos EB]; rfl
    rw [EB, ER]
    have HG := Lib.hid (hdB_iff.1 hB).good
    have HZB := Lib.hid (zS_bd hs9.1 (by omega))
    clear EB ER hB hm9 hs9
    go_enter Try.func62, Try.ntmps62
    go_wp2_with fail
    clear eW
    refine PG.out.mono ?_
    rintro e w1 ⟨rfl, t⟩
    clear PG
    obtain ⟨cR, fR⟩ := cells1_of ((t.block _ (by omega)).trans HR.out)
    go_wp2_with fail
    refine (l1In_any _ _ _ _).mono ?_
    rintro e wl ⟨rfl, rfl⟩
    rw [hm]
    go_wp2_with fail
    refine (l1In_any _ _ _ _).mono ?_
    rintro e wl ⟨rfl, rfl⟩
    rw [hs]
    go_wp2_with fail
    clear cR fR
    obtain ⟨HS1, HT⟩ : Hid (Sv w1 v xs) ∧ Hid (Below W.heap.size W w1) := ⟨Lib.hid (HS.out.below t (Nat.le_refl _)), Lib.hid t⟩
    have ZT := t.size
    clear t HS
    go_loopw [1, 9] (fun t z wr => ∃ (k : Nat) (L : List Cl) (x : Value), k ≤ n ∧ t = .int .i64 ((n : Int) - k) ∧ z = .int .i64 (zS s k) ∧ Ck wr (w1.heap.size + 1) x L ∧ Hid (L = mkT s xs k) ∧ wr.heap[w1.heap.size]? = some (.cells #[x] 39 (0, 0)) ∧ Below w1.heap.size w1 wr) (fun t _ _ => (intOf t).toNat)
    case atStart => exact ⟨0, [], .slice none 0 0, Nat.zero_le _, by simp, rfl, Ck.nil _ _, Lib.hid rfl, heap_alloc_new _ _, (Below.refl _ _).alloc (Nat.le_refl _) _⟩
    case round =>
      obtain ⟨k, L, x, hk, rfl, rfl, ho, HL, hblk, hb⟩ := hrel
      by_cases hlt : k < n
      · have hz := HZB.out k
        have HEZ : Hid (zS s (k + 1) = nxZ (nxZ (zS s k))) := Lib.hid rfl
        have HN := Lib.hid (mkT_step s xs k)
        have hLk : L.length ≤ 6 := by rw [HL.out, mkT_len]; omega
        generalize zS s k = z at *
        have NX1 := Lib.hid (fun (W' : World) => pzNext_any z W' hz.1 hz.2)
        have h1 := nxZ_bd hz.1
        have EK : mkK z = nxZ z % 6 := rfl
        have EA : mkA z = if mkK z = 5 then nxZ (nxZ z) % 6 + 1 else nxZ (nxZ z) % 25 := rfl
        generalize nxZ z = z1 at *
        have NX2 := Lib.hid (fun (W' : World) => pzNext_any z1 W' h1.1 h1.2)
        have h2 := nxZ_bd h1.1
        generalize nxZ z1 = z2 at *
        obtain ⟨cX, fX⟩ := cells1_of hblk
        have zb : w1.heap.size < wr.heap.size := by
          by_cases q : w1.heap.size < wr.heap.size
          · exact q
          · rw [Array.getElem?_eq_none (by omega)] at hblk; simp at hblk
        have HB := Lib.hid hb
        have HBLK := Lib.hid hblk
        have HO := Lib.hid ho
        have HK := mkK_bd z
        have HA := mkA_bd z
        clear hblk hb ho hz
        by_cases h5 : z1 % 6 = 5
        · have d5 : (z1 % 6 == 5) = true := by simpa using h5
          have EA2 : mkA z = z2 % 6 + 1 := by rw [EA, EK, if_pos h5]
          rw [h5] at EK
          rw [EK, EA2] at HN
          rw [EK] at HK
          rw [EA2] at HA
          have CA := Lib.hid (fun (W' : World) (hbw : Below wr.heap.size wr W') => pzOf_any 5 (z2 % 6 + 1) v xs W' (HS1.out.below (HB.out.trans (hbw.mono (by omega))) (Nat.le_refl _)) HG.out (by omega) (by omega))
          clear EK EA EA2
          generalize abL 5 (z2 % 6 + 1) xs = c at *
          go_wp2_with fail
          refine (NX1.out _).mono ?_
          rintro e wn ⟨rfl, rfl⟩
          go_wp2_with fail
          refine (NX2.out _).mono ?_
          rintro e wn ⟨rfl, rfl⟩
          clear NX1 NX2
          go_upto_region 13 with (fail)
          go_region_law (first
            | (go_simp; go_at_call 93; refine (CA.out _ (by first | exact (Below.refl _ _).drew | exact Below.refl _ _)).mono ?_; rintro e w5 ⟨rfl, b5⟩; have z5 := b5.size; have B5 : Below wr.heap.size wr w5 := (by first | exact b5 | exact (Below.refl _ _).drew.trans b5); clear b5; have c5 : w5.cell? ⟨w1.heap.size, 0, none⟩ = some x := (B5.cell (p := ⟨w1.heap.size, 0, none⟩) zb).trans cX; have c5b : (w5.alloc (.cells #[.int .i64 c.k, .int .i64 c.a, .int .i64 c.b] 29)).cell? ⟨w1.heap.size, 0, none⟩ = some x := (World.cell?_alloc_past _ _ _ (Nat.lt_of_lt_of_le zb B5.size)).trans c5)
            | (refine step_append_clue rfl (.tmp 45) (.tmp 50) rfl (w1.heap.size + 1) x L rfl (HO.out.below (by first | exact B5.alloc B5.size _ | exact B5.drew.alloc B5.size _) (Nat.le_refl _)) _ [c] rfl (cs_one _ c) (by simp; omega) (by simp; have := B5.size; omega) ?_; intro v6 w6 o6 g6; have B6 : Below (w1.heap.size + 1) wr w6 := ((by first | exact B5.alloc B5.size _ | exact B5.drew.alloc B5.size _ : Below wr.heap.size wr _).mono (by omega)).trans (CkGrown (HO.out.below (by first | exact B5.alloc B5.size _ | exact B5.drew.alloc B5.size _) (Nat.le_refl _)) (by simp; have := B5.size; omega) g6); have k6 := (B6.block w1.heap.size (Nat.lt_succ_self _)).trans HBLK.out; obtain ⟨c6, f6⟩ := cells1_of k6; clear g6; have O6 := Lib.hid o6; obtain ⟨p6, q6, rfl⟩ := o6.shape; clear o6))
          all_goals
            clear B5 c5 cX fX
            go_wp2_with fail
            go_roundw
            case rel => exact ⟨k + 1, L ++ [c], _, by omega, by first | rfl | (congr 1; omega) | go_num, by rw [HEZ.out], Ck.abv O6.out ((Abv.refl _ _).setCell (by omega) _ _), Lib.hid (by rw [HL.out]; exact HN.out), by rw [List.length_append]; exact blk_set k6, (HB.out.trans (B6.mono (by omega))).setCell (Nat.le_refl _) _⟩
            case measure => simp [intOf]; omega
        · have d5 : (z1 % 6 == 5) = false := by simpa using h5
          have EA2 : mkA z = z2 % 25 := by rw [EA, EK, if_neg h5]
          rw [EK, EA2] at HN
          rw [EK] at HK
          rw [EA2] at HA
          have CA := Lib.hid (fun (W' : World) (hbw : Below wr.heap.size wr W') => pzOf_any (z1 % 6) (z2 % 25) v xs W' (HS1.out.below (HB.out.trans (hbw.mono (by omega))) (Nat.le_refl _)) HG.out (by omega) (by omega))
          clear EK EA EA2
          generalize abL (z1 % 6) (z2 % 25) xs = c at *
          go_wp2_with fail
          refine (NX1.out _).mono ?_
          rintro e wn ⟨rfl, rfl⟩
          go_wp2_with fail
          refine (NX2.out _).mono ?_
          rintro e wn ⟨rfl, rfl⟩
          clear NX1 NX2
          go_upto_region 13 with (fail)
          go_region_law (first
            | (go_simp; go_at_call 93; refine (CA.out _ (by first | exact (Below.refl _ _).drew | exact Below.refl _ _)).mono ?_; rintro e w5 ⟨rfl, b5⟩; have z5 := b5.size; have B5 : Below wr.heap.size wr w5 := (by first | exact b5 | exact (Below.refl _ _).drew.trans b5); clear b5; have c5 : w5.cell? ⟨w1.heap.size, 0, none⟩ = some x := (B5.cell (p := ⟨w1.heap.size, 0, none⟩) zb).trans cX; have c5b : (w5.alloc (.cells #[.int .i64 c.k, .int .i64 c.a, .int .i64 c.b] 29)).cell? ⟨w1.heap.size, 0, none⟩ = some x := (World.cell?_alloc_past _ _ _ (Nat.lt_of_lt_of_le zb B5.size)).trans c5)
            | (refine step_append_clue rfl (.tmp 45) (.tmp 50) rfl (w1.heap.size + 1) x L rfl (HO.out.below (by first | exact B5.alloc B5.size _ | exact B5.drew.alloc B5.size _) (Nat.le_refl _)) _ [c] rfl (cs_one _ c) (by simp; omega) (by simp; have := B5.size; omega) ?_; intro v6 w6 o6 g6; have B6 : Below (w1.heap.size + 1) wr w6 := ((by first | exact B5.alloc B5.size _ | exact B5.drew.alloc B5.size _ : Below wr.heap.size wr _).mono (by omega)).trans (CkGrown (HO.out.below (by first | exact B5.alloc B5.size _ | exact B5.drew.alloc B5.size _) (Nat.le_refl _)) (by simp; have := B5.size; omega) g6); have k6 := (B6.block w1.heap.size (Nat.lt_succ_self _)).trans HBLK.out; obtain ⟨c6, f6⟩ := cells1_of k6; clear g6; have O6 := Lib.hid o6; obtain ⟨p6, q6, rfl⟩ := o6.shape; clear o6))
          all_goals
            clear B5 c5 cX fX
            go_wp2_with fail
            go_roundw
            case rel => exact ⟨k + 1, L ++ [c], _, by omega, by first | rfl | (congr 1; omega) | go_num, by rw [HEZ.out], Ck.abv O6.out ((Abv.refl _ _).setCell (by omega) _ _), Lib.hid (by rw [HL.out]; exact HN.out), by rw [List.length_append]; exact blk_set k6, (HB.out.trans (B6.mono (by omega))).setCell (Nat.le_refl _) _⟩
            case measure => simp [intOf]; omega
      · obtain rfl : k = n := by omega
        have HRES : Hid (L = mkT s xs k) := HL
        have HLV := Lib.hid ho
        obtain ⟨cX, fX⟩ := cells1_of hblk
        obtain ⟨cR, fR⟩ := cells1_of (((nxtW HT.out hb).block w.heap.size (by omega)).trans HR.out)
        obtain ⟨px, cx, rfl⟩ := ho.shape
        have HBB := Lib.hid (nxt hb0 (nxtW HT.out hb))
        clear hb hblk ho
        go_wp2_with fail
        rw [← HRES.out]
        exact bodyPost_ret (v := .tuple #[.agg #[.slice px L.length cx], .bool true]) (by simp [results, Try.results62, go_sem, cR]) rfl ⟨_, rfl, (Ck.abv HLV.out ((Abv.refl _ _).setCell (by omega) _ _)).mono (by omega), HBB.out.setCell (Nat.le_refl _) _⟩

set_option maxHeartbeats 8000000 in
set_option maxRecDepth 8000 in

theorem implMakePuzzle_any (v : Value) (xs : List Int) (m s : Int) (w : World) (h : Sv w v xs) (hl : xs.length ≤ 1099511627776) :
    Calls Try.prog 63 #[v, .int .i64 m, .int .i64 s] w fun e w' => ∃ u, e = .returned (.tuple #[.agg #[u], .bool (mkB xs m s)]) ∧ Ck w' w.heap.size u (mkR xs m s) ∧ Below w.heap.size w w' := by
  obtain ⟨W, eW⟩ : ∃ W, w.alloc (.cells #[.slice none 0 0] 39) = W := ⟨_, rfl⟩
  have hb0 : Below w.heap.size w W := by rw [← eW]; exact (Below.refl _ _).alloc (Nat.le_refl _) _
  have ZW : W.heap.size = w.heap.size + 1 := by rw [← eW]; simp
  have HR := Lib.hid (show W.heap[w.heap.size]? = some (.cells #[.slice none 0 0] 39 (0, 0)) by rw [← eW]; exact heap_alloc_new w _)
  have HS := Lib.hid (h.below hb0 (Nat.le_refl _))
  have PG := Lib.hid (implIsHidden_any _ xs W HS.out hl)
  clear h hl
  cases hB : hdB xs
  · rw [hB] at PG
    have E0 : mkB xs m s = false := by unfold mkB; rw [hB]; rfl
    have E1 : mkR xs m s = [] := by unfold mkR; rw [E0]; rfl
    rw [E0, E1]
    clear E0 E1
    clear hB
    go_enter Try.func63, Try.ntmps63
    go_wp2_with fail
    clear eW
    refine PG.out.mono ?_
    rintro e w1 ⟨rfl, t⟩
    clear PG
    obtain ⟨cR, fR⟩ := cells1_of ((t.block _ (by omega)).trans HR.out)
    go_wp2_with fail
    exact bodyPost_ret (v := .tuple #[.agg #[.slice none 0 0], .bool false]) (by simp [results, Try.results63, go_sem, cR]) rfl ⟨_, rfl, Ck.nil _ _, (nxt hb0 t).setCell (Nat.le_refl _) _⟩
  · rw [hB] at PG
    by_cases hm1 : m < 0
    · have E0 : mkB xs m s = false := by unfold mkB; rw [hB, inB_out (by omega : m < 0 ∨ 6 < m)]; rfl
      have E1 : mkR xs m s = [] := by unfold mkR; rw [E0]; rfl
      rw [E0, E1]
      clear E0 E1
      have dhm1 : decide (m < 0) = true := by simpa using hm1
      clear hB
      go_enter Try.func63, Try.ntmps63
      go_wp2_with fail
      clear eW
      refine PG.out.mono ?_
      rintro e w1 ⟨rfl, t⟩
      clear PG
      obtain ⟨cR, fR⟩ := cells1_of ((t.block _ (by omega)).trans HR.out)
      go_wp2_with fail
      exact bodyPost_ret (v := .tuple #[.agg #[.slice none 0 0], .bool false]) (by simp [results, Try.results63, go_sem, cR]) rfl ⟨_, rfl, Ck.nil _ _, (nxt hb0 t).setCell (Nat.le_refl _) _⟩
    have dhm1 : decide (m < 0) = false := by simpa using hm1
    by_cases hm2 : 6 < m
    · have E0 : mkB xs m s = false := by unfold mkB; rw [hB, inB_out (by omega : m < 0 ∨ 6 < m)]; rfl
      have E1 : mkR xs m s = [] := by unfold mkR; rw [E0]; rfl
      rw [E0, E1]
      clear E0 E1
      have dhm2 : decide (6 < m) = true := by simpa using hm2
      clear hB
      go_enter Try.func63, Try.ntmps63
      go_wp2_with fail
      clear eW
      refine PG.out.mono ?_
      rintro e w1 ⟨rfl, t⟩
      clear PG
      obtain ⟨cR, fR⟩ := cells1_of ((t.block _ (by omega)).trans HR.out)
      go_wp2_with fail
      exact bodyPost_ret (v := .tuple #[.agg #[.slice none 0 0], .bool false]) (by simp [results, Try.results63, go_sem, cR]) rfl ⟨_, rfl, Ck.nil _ _, (nxt hb0 t).setCell (Nat.le_refl _) _⟩
    have dhm2 : decide (6 < m) = false := by simpa using hm2
    by_cases hs1 : s < 0
    · have E0 : mkB xs m s = false := by unfold mkB; rw [inB_out (by omega : s < 0 ∨ 9999 < s), Bool.and_false, Bool.and_false]
      have E1 : mkR xs m s = [] := by unfold mkR; rw [E0]; rfl
      rw [E0, E1]
      clear E0 E1
      have dhs1 : decide (s < 0) = true := by simpa using hs1
      clear hB
      go_enter Try.func63, Try.ntmps63
      go_wp2_with fail
      clear eW
      refine PG.out.mono ?_
      rintro e w1 ⟨rfl, t⟩
      clear PG
      obtain ⟨cR, fR⟩ := cells1_of ((t.block _ (by omega)).trans HR.out)
      go_wp2_with fail
      exact bodyPost_ret (v := .tuple #[.agg #[.slice none 0 0], .bool false]) (by simp [results, Try.results63, go_sem, cR]) rfl ⟨_, rfl, Ck.nil _ _, (nxt hb0 t).setCell (Nat.le_refl _) _⟩
    have dhs1 : decide (s < 0) = false := by simpa using hs1
    by_cases hs2 : 9999 < s
    · have E0 : mkB xs m s = false := by unfold mkB; rw [inB_out (by omega : s < 0 ∨ 9999 < s), Bool.and_false, Bool.and_false]
      have E1 : mkR xs m s = [] := by unfold mkR; rw [E0]; rfl
      rw [E0, E1]
      clear E0 E1
      have dhs2 : decide (9999 < s) = true := by simpa using hs2
      clear hB
      go_enter Try.func63, Try.ntmps63
      go_wp2_with fail
      clear eW
      refine PG.out.mono ?_
      rintro e w1 ⟨rfl, t⟩
      clear PG
      obtain ⟨cR, fR⟩ := cells1_of ((t.block _ (by omega)).trans HR.out)
      go_wp2_with fail
      exact bodyPost_ret (v := .tuple #[.agg #[.slice none 0 0], .bool false]) (by simp [results, Try.results63, go_sem, cR]) rfl ⟨_, rfl, Ck.nil _ _, (nxt hb0 t).setCell (Nat.le_refl _) _⟩
    have dhs2 : decide (9999 < s) = false := by simpa using hs2
    have hm : inB m 0 6 = true := inB_iff.2 ⟨by omega, by omega⟩
    have hs : inB s 0 9999 = true := inB_iff.2 ⟨by omega, by omega⟩
    have EB : mkB xs m s = true := by unfold mkB; rw [hB, hm, hs]; rfl
    have hm9 := inB_iff.1 hm
    have hs9 := inB_iff.1 hs
    obtain ⟨n, rfl⟩ : ∃ n : Nat, m = (n : Int) := ⟨m.toNat, by omega⟩
    have hn6 : n ≤ 6 := by omega
    have ER : mkR xs (n : Int) s = mkT s xs n := by unfold mkR; rw [if_pos EB]; rfl
    rw [EB, ER]
    have HG := Lib.hid (hdB_iff.1 hB).good
    have HZB := Lib.hid (zS_bd hs9.1 (by omega))
    clear EB ER hB hm9 hs9
    go_enter Try.func63, Try.ntmps63
    go_wp2_with fail
    clear eW
    refine PG.out.mono ?_
    rintro e w1 ⟨rfl, t⟩
    clear PG
    obtain ⟨cR, fR⟩ := cells1_of ((t.block _ (by omega)).trans HR.out)
    go_wp2_with fail
    clear cR fR
    obtain ⟨HS1, HT⟩ : Hid (Sv w1 v xs) ∧ Hid (Below W.heap.size W w1) := ⟨Lib.hid (HS.out.below t (Nat.le_refl _)), Lib.hid t⟩
    have ZT := t.size
    clear t HS
    go_loopw [9, 35] (fun z t wr => ∃ (k : Nat) (L : List Cl) (x : Value), k ≤ n ∧ z = .int .i64 (zS s k) ∧ t = .int .i64 k ∧ Ck wr (w1.heap.size + 1) x L ∧ Hid (L = mkT s xs k) ∧ wr.heap[w1.heap.size]? = some (.cells #[x] 39 (0, 0)) ∧ Below w1.heap.size w1 wr) (fun _ t _ => n - (intOf t).toNat)
    case atStart => exact ⟨0, [], .slice none 0 0, Nat.zero_le _, rfl, rfl, Ck.nil _ _, Lib.hid rfl, by first | exact heap_alloc_new _ _ | exact blk_set (heap_alloc_new _ _), by first | exact (Below.refl _ _).alloc (Nat.le_refl _) _ | exact ((Below.refl _ _).alloc (Nat.le_refl _) _).setCell (Nat.le_refl _) _⟩
    case round =>
      obtain ⟨k, L, x, hk, rfl, rfl, ho, HL, hblk, hb⟩ := hrel
      by_cases hlt : k < n
      · have hz := HZB.out k
        have HEZ : Hid (zS s (k + 1) = nxZ (nxZ (zS s k))) := Lib.hid rfl
        have HN := Lib.hid (mkT_step s xs k)
        have hLk : L.length ≤ 6 := by rw [HL.out, mkT_len]; omega
        generalize zS s k = z at *
        have NX1 := Lib.hid (fun (W' : World) => nextNumber_any z W' hz.1 hz.2)
        have h1 := nxZ_bd hz.1
        have EK : mkK z = nxZ z % 6 := rfl
        have EA : mkA z = if mkK z = 5 then nxZ (nxZ z) % 6 + 1 else nxZ (nxZ z) % 25 := rfl
        generalize nxZ z = z1 at *
        have NX2 := Lib.hid (fun (W' : World) => nextNumber_any z1 W' h1.1 h1.2)
        have h2 := nxZ_bd h1.1
        generalize nxZ z1 = z2 at *
        obtain ⟨cX, fX⟩ := cells1_of hblk
        have zb : w1.heap.size < wr.heap.size := by
          by_cases q : w1.heap.size < wr.heap.size
          · exact q
          · rw [Array.getElem?_eq_none (by omega)] at hblk; simp at hblk
        have HB := Lib.hid hb
        have HBLK := Lib.hid hblk
        have HO := Lib.hid ho
        have HK := mkK_bd z
        have HA := mkA_bd z
        clear hblk hb ho hz
        by_cases h5 : z1 % 6 = 5
        · have d5 : (z1 % 6 == 5) = true := by simpa using h5
          have EA2 : mkA z = z2 % 6 + 1 := by rw [EA, EK, if_pos h5]
          rw [h5] at EK
          rw [EK, EA2] at HN
          rw [EK] at HK
          rw [EA2] at HA
          have CA := Lib.hid (fun (W' : World) (hbw : Below wr.heap.size wr W') => clueAbout_any 5 (z2 % 6 + 1) v xs W' (HS1.out.below (HB.out.trans (hbw.mono (by omega))) (Nat.le_refl _)) HG.out (by omega) (by omega) (by omega))
          clear EK EA EA2
          generalize abL 5 (z2 % 6 + 1) xs = c at *
          go_wp2_with fail
          refine (NX1.out _).mono ?_
          rintro e wn ⟨rfl, rfl⟩
          go_wp2_with fail
          refine (NX2.out _).mono ?_
          rintro e wn ⟨rfl, rfl⟩
          clear NX1 NX2
          go_upto_region 13 with (fail)
          go_region_law (first
            | (go_simp; go_at_call 95; refine (CA.out _ (by first | exact (Below.refl _ _).drew | exact Below.refl _ _)).mono ?_; rintro e w5 ⟨rfl, b5⟩; have z5 := b5.size; have B5 : Below wr.heap.size wr w5 := (by first | exact b5 | exact (Below.refl _ _).drew.trans b5); clear b5; have c5 : w5.cell? ⟨w1.heap.size, 0, none⟩ = some x := (B5.cell (p := ⟨w1.heap.size, 0, none⟩) zb).trans cX; have c5b : (w5.alloc (.cells #[.int .i64 c.k, .int .i64 c.a, .int .i64 c.b] 29)).cell? ⟨w1.heap.size, 0, none⟩ = some x := (World.cell?_alloc_past _ _ _ (Nat.lt_of_lt_of_le zb B5.size)).trans c5)
            | (refine step_append_clue rfl (.tmp 51) (.tmp 56) rfl (w1.heap.size + 1) x L rfl (HO.out.below (by first | exact B5.alloc B5.size _ | exact B5.drew.alloc B5.size _) (Nat.le_refl _)) _ [c] rfl (cs_one _ c) (by simp; omega) (by simp; have := B5.size; omega) ?_; intro v6 w6 o6 g6; have B6 : Below (w1.heap.size + 1) wr w6 := ((by first | exact B5.alloc B5.size _ | exact B5.drew.alloc B5.size _ : Below wr.heap.size wr _).mono (by omega)).trans (CkGrown (HO.out.below (by first | exact B5.alloc B5.size _ | exact B5.drew.alloc B5.size _) (Nat.le_refl _)) (by simp; have := B5.size; omega) g6); have k6 := (B6.block w1.heap.size (Nat.lt_succ_self _)).trans HBLK.out; obtain ⟨c6, f6⟩ := cells1_of k6; clear g6; have O6 := Lib.hid o6; obtain ⟨p6, q6, rfl⟩ := o6.shape; clear o6))
          all_goals
            clear B5 c5 cX fX
            go_wp2_with fail
            go_roundw
            case rel => exact ⟨k + 1, L ++ [c], _, by omega, by rw [HEZ.out], by go_num, Ck.abv O6.out ((Abv.refl _ _).setCell (by omega) _ _), Lib.hid (by rw [HL.out]; exact HN.out), by rw [List.length_append]; exact blk_set k6, (HB.out.trans (B6.mono (by omega))).setCell (Nat.le_refl _) _⟩
            case measure => simp [intOf]; omega
        · have d5 : (z1 % 6 == 5) = false := by simpa using h5
          have EA2 : mkA z = z2 % 25 := by rw [EA, EK, if_neg h5]
          rw [EK, EA2] at HN
          rw [EK] at HK
          rw [EA2] at HA
          have CA := Lib.hid (fun (W' : World) (hbw : Below wr.heap.size wr W') => clueAbout_any (z1 % 6) (z2 % 25) v xs W' (HS1.out.below (HB.out.trans (hbw.mono (by omega))) (Nat.le_refl _)) HG.out (by omega) (by omega) (by omega))
          clear EK EA EA2
          generalize abL (z1 % 6) (z2 % 25) xs = c at *
          go_wp2_with fail
          refine (NX1.out _).mono ?_
          rintro e wn ⟨rfl, rfl⟩
          go_wp2_with fail
          refine (NX2.out _).mono ?_
          rintro e wn ⟨rfl, rfl⟩
          clear NX1 NX2
          go_upto_region 13 with (fail)
          go_region_law (first
            | (go_simp; go_at_call 95; refine (CA.out _ (by first | exact (Below.refl _ _).drew | exact Below.refl _ _)).mono ?_; rintro e w5 ⟨rfl, b5⟩; have z5 := b5.size; have B5 : Below wr.heap.size wr w5 := (by first | exact b5 | exact (Below.refl _ _).drew.trans b5); clear b5; have c5 : w5.cell? ⟨w1.heap.size, 0, none⟩ = some x := (B5.cell (p := ⟨w1.heap.size, 0, none⟩) zb).trans cX; have c5b : (w5.alloc (.cells #[.int .i64 c.k, .int .i64 c.a, .int .i64 c.b] 29)).cell? ⟨w1.heap.size, 0, none⟩ = some x := (World.cell?_alloc_past _ _ _ (Nat.lt_of_lt_of_le zb B5.size)).trans c5)
            | (refine step_append_clue rfl (.tmp 51) (.tmp 56) rfl (w1.heap.size + 1) x L rfl (HO.out.below (by first | exact B5.alloc B5.size _ | exact B5.drew.alloc B5.size _) (Nat.le_refl _)) _ [c] rfl (cs_one _ c) (by simp; omega) (by simp; have := B5.size; omega) ?_; intro v6 w6 o6 g6; have B6 : Below (w1.heap.size + 1) wr w6 := ((by first | exact B5.alloc B5.size _ | exact B5.drew.alloc B5.size _ : Below wr.heap.size wr _).mono (by omega)).trans (CkGrown (HO.out.below (by first | exact B5.alloc B5.size _ | exact B5.drew.alloc B5.size _) (Nat.le_refl _)) (by simp; have := B5.size; omega) g6); have k6 := (B6.block w1.heap.size (Nat.lt_succ_self _)).trans HBLK.out; obtain ⟨c6, f6⟩ := cells1_of k6; clear g6; have O6 := Lib.hid o6; obtain ⟨p6, q6, rfl⟩ := o6.shape; clear o6))
          all_goals
            clear B5 c5 cX fX
            go_wp2_with fail
            go_roundw
            case rel => exact ⟨k + 1, L ++ [c], _, by omega, by rw [HEZ.out], by go_num, Ck.abv O6.out ((Abv.refl _ _).setCell (by omega) _ _), Lib.hid (by rw [HL.out]; exact HN.out), by rw [List.length_append]; exact blk_set k6, (HB.out.trans (B6.mono (by omega))).setCell (Nat.le_refl _) _⟩
            case measure => simp [intOf]; omega
      · obtain rfl : k = n := by omega
        have HRES : Hid (L = mkT s xs k) := HL
        have HLV := Lib.hid ho
        obtain ⟨cX, fX⟩ := cells1_of hblk
        obtain ⟨cR, fR⟩ := cells1_of (((nxtW HT.out hb).block w.heap.size (by omega)).trans HR.out)
        obtain ⟨px, cx, rfl⟩ := ho.shape
        have HBB := Lib.hid (nxt hb0 (nxtW HT.out hb))
        clear hb hblk ho
        go_wp2_with fail
        rw [← HRES.out]
        exact bodyPost_ret (v := .tuple #[.agg #[.slice px L.length cx], .bool true]) (by simp [results, Try.results63, go_sem, cR]) rfl ⟨_, rfl, (Ck.abv HLV.out ((Abv.refl _ _).setCell (by omega) _ _)).mono (by omega), HBB.out.setCell (Nat.le_refl _) _⟩
end Go.Proofs.Ytphjiicdodkfbaa
