/-
  NeedlessCards in the program, by contract. No condition but lengths that fit int.
-/
import Derived.Test.YtpolobjlihhjbaaQcb
import Derived.Test.YtpolobjlihhjbaaQh
import Derived.Test.YtpolobjlihhjbaaKgo
namespace Go.Proofs.Ytpolobjlihhjbaa
open Go.RowKit

theorem erase_in (Ls : List (List Int)) (k : Nat) : (Ls.map inL).eraseIdx k = (Ls.eraseIdx k).map inL := by
  simp [List.eraseIdx_eq_take_drop_succ]
theorem ta_erase {Ls : List (List Int)} {n : Int} (h0 : 0 ≤ n) (h1 : n ≤ 128) (k : Nat) : taB ((Ls.map inL).eraseIdx k) n = decide (0 < lsX (Ls.eraseIdx k) n.toNat) := by
  rw [erase_in]; exact ta_ls h0 h1

set_option maxHeartbeats 8000000 in
set_option maxRecDepth 100000 in
theorem implNeedlessCards_any (n : Int) (v : Value) (Ls : List (List Int)) (w : World) (h : Svv w v Ls) (hl : Ls.length ≤ 1099511627776) (hx : ∀ j, j < Ls.length → (rowL Ls j).length ≤ 1099511627776) :
    Calls Try.prog 56 #[.agg #[.int .i64 n, v]] w fun e w' => ∃ u, e = .returned (.tuple #[u, .bool (caB n Ls)]) ∧ Ow w' w.heap.size u (ndR n Ls) ∧ Below w.heap.size w w' := by
  obtain ⟨p, cap, rfl⟩ := svv_form h
  have hb0 : Below w.heap.size w (w.alloc (.cells #[.int .i64 n, .slice p Ls.length cap] 27)) := (Below.refl _ w).alloc (Nat.le_refl _) _
  have hz : w.heap.size < (w.alloc (.cells #[.int .i64 n, .slice p Ls.length cap] 27)).heap.size := by simp
  have AC := implAreCards_any n _ Ls _ (h.below hb0 (Nat.le_refl _)) hl hx
  have C0 := card_n w n (.slice p Ls.length cap)
  have C1 := card_v w n (.slice p Ls.length cap)
  have H := Lib.hid h
  clear h hx
  cases hg : caB n Ls with
  | false =>
    rw [hg] at AC
    have AC := Lib.hid AC
    have AT : Hid (ndR n Ls = []) := Lib.hid (by unfold ndR; rw [hg]; rfl)
    clear hg
    go_enter Try.func56, Try.ntmps56
    go_wp2_with (go_at_call 23; refine AC.out.mono ?_; rintro e w1 ⟨rfl, b1⟩; have B1 := nxt hb0 b1)
    go_ret2
    exact ⟨_, rfl, by rw [AT.out]; exact ow_nil _ _, B1⟩
  | true =>
    rw [hg] at AC
    have AC := Lib.hid AC
    have G := caB_iff.1 hg
    have hl12 := G.len
    have hlo := G.lo
    have hhi := G.hi
    have AT : Hid (ndR n Ls = ndK Ls n.toNat Ls.length) := Lib.hid (by unfold ndR; rw [hg]; rfl)
    have DO := fun (W : World) (hb : Below w.heap.size w W) => deckOf_any n _ Ls W (H.out.below hb (Nat.le_refl _)) G
    have TE := fun (k : Nat) => ta_erase (Ls := Ls) (n := n) (by omega) hhi k
    have hmm := map_len Ls
    obtain ⟨ps, eps⟩ : ∃ ps, Ls.map inL = ps := ⟨_, rfl⟩
    rw [eps] at DO TE hmm
    have HM := Lib.hid hmm
    have DO2 := Lib.hid DO
    have TE2 := Lib.hid TE
    clear eps DO hg G TE hmm
    go_enter Try.func56, Try.ntmps56
    go_wp2_with (first
      | (go_at_call 23; refine AC.out.mono ?_; rintro e w1 ⟨rfl, b1⟩; have B1 := nxt hb0 b1; have d0 := (b1.cell (p := ⟨w.heap.size, 0, none⟩) hz).trans C0; have d1 := (b1.cell (p := ⟨w.heap.size, 1, none⟩) hz).trans C1)
      | (go_at_call 77; refine (DO2.out _ B1).mono ?_; rintro e w2 ⟨sd, rfl, o2, b2⟩; have B2 := nxt B1 b2; obtain ⟨sp, sc, rfl⟩ := o2.dr.form; have D2 := Lib.hid o2; clear o2 d0 d1 b2 B1))
    have W20 : Below w2.heap.size w2 (w2.alloc (.cells #[.int .i64 n, .slice sp ps.length sc] 68)) := (Below.refl _ _).alloc (Nat.le_refl _) _
    have g0 := deck_n w2 n (.slice sp ps.length sc)
    have g1 := deck_s w2 n (.slice sp ps.length sc)
    have zz : w2.heap.size < (w2.alloc (.cells #[.int .i64 n, .slice sp ps.length sc] 68)).heap.size := by simp
    have HB2 := Lib.hid B2
    have ho0 := (ow_empty (w2.alloc (.cells #[.int .i64 n, .slice sp ps.length sc] 68))).mono (show w2.heap.size + 1 ≤ _ by simp)
    have be : Below (w2.alloc (.cells #[.int .i64 n, .slice sp ps.length sc] 68)).heap.size _ _ := (Below.refl _ (w2.alloc (.cells #[.int .i64 n, .slice sp ps.length sc] 68))).alloc (Nat.le_refl _) (.cells #[] 3)
    have e0 := (be.cell (p := ⟨w2.heap.size, 0, none⟩) zz).trans g0
    have e1 := (be.cell (p := ⟨w2.heap.size, 1, none⟩) zz).trans g1
    have bb := nxt W20 be
    have z2 := Nat.lt_of_lt_of_le zz be.size
    clear C0 C1 B2 hz W20 g0 g1 zz be hb0
    go_loopw [5, 16] (fun a i wr => ∃ k : Nat, k ≤ ps.length ∧ i = .int .i64 k ∧ Ow wr (w2.heap.size + 1) a (ndK Ls n.toNat k) ∧ Below w2.heap.size w2 wr ∧ wr.cell? ⟨w2.heap.size, 0, none⟩ = some (.int .i64 n) ∧ wr.cell? ⟨w2.heap.size, 1, none⟩ = some (.slice sp ps.length sc) ∧ w2.heap.size < wr.heap.size) (fun _ i _ => ps.length - (intOf i).toNat)
    case atStart => exact ⟨0, Nat.zero_le _, rfl, by rw [show ndK Ls n.toNat 0 = [] from rfl]; simpa using ho0, bb, e0, e1, z2⟩
    case round =>
      clear ho0 bb e0 e1 z2
      obtain ⟨k, hk, rfl, ho, hb, hc0, hc1, hgt⟩ := hrel
      by_cases hlt : k < ps.length
      · have FA := Lib.hid (without_any n (.slice sp ps.length sc) ps k _ wr (D2.out.below hb (Nat.le_refl _)) hlt (by have := HM.out; omega))
        have hle : (ps.eraseIdx k).length ≤ 12 := by rw [List.length_eraseIdx_of_lt hlt]; have := HM.out; omega
        have FL := Lib.hid (fun (u : Value) W hs => tellsAll_any n u (ps.eraseIdx k) W hs hle (by omega) hhi)
        rw [TE2.out] at FL
        have YES := fun h => ndK_yes (Ls := Ls) (m := n.toNat) (j := k) h
        have NO := fun h => ndK_no (Ls := Ls) (m := n.toNat) (j := k) h
        have hcl := ndK_len Ls n.toNat k
        have hk12 : k ≤ 12 := by have := HM.out; omega
        obtain ⟨E, eE⟩ : ∃ E, ps.eraseIdx k = E := ⟨_, rfl⟩
        rw [eE] at FA FL
        obtain ⟨z, ez⟩ : ∃ z : Int, lsX (Ls.eraseIdx k) n.toNat = z := ⟨_, rfl⟩
        obtain ⟨L, eL⟩ : ∃ L, ndK Ls n.toNat k = L := ⟨_, rfl⟩
        rw [ez] at FL YES NO
        rw [eL] at ho YES NO hcl
        clear eE ez eL hle
        by_cases hq : 0 < z
        · have HN := Lib.hid (YES hq)
          rw [show decide (0 < z) = true by simpa using hq] at FL
          clear YES NO hq
          go_wp2_with (first
            | (go_at_call 94; refine FA.out.mono ?_; rintro e w3 ⟨u, rfl, oa, b1⟩; have oa := oa.dr; have o1 := ho.below b1 (Nat.le_refl _); have B1 : Below w2.heap.size w2 w3 := nxt hb b1; have c0 := (b1.cell (p := ⟨w2.heap.size, 0, none⟩) hgt).trans hc0; have c1 := (b1.cell (p := ⟨w2.heap.size, 1, none⟩) hgt).trans hc1; have g1 := Nat.lt_of_lt_of_le hgt b1.size; clear ho hb hc0 hc1 hgt b1)
            | (go_at_call 82; refine (FL.out _ _ oa).mono ?_; rintro e w4 ⟨rfl, b2⟩; have o2 := o1.below b2 (Nat.le_refl _); have B2 : Below w2.heap.size w2 w4 := nxt B1 b2; have d0 := (b2.cell (p := ⟨w2.heap.size, 0, none⟩) g1).trans c0; have d1 := (b2.cell (p := ⟨w2.heap.size, 1, none⟩) g1).trans c1; have g2 := Nat.lt_of_lt_of_le g1 b2.size; clear oa o1 B1 c0 c1 g1 b2)
            | (at_builtin; refine wpList_append_src rfl _ _ rfl (w2.heap.size + 1) _ L rfl (o2.alloc _) _ [(k : Int)] rfl (src_one _ _) (by simp only [List.length_cons, List.length_nil]; omega) (by simp; omega) ?_; intro v' w5 h3 g3))
          have bg := (o2.alloc _).grown (by simp; omega) g3
          have b3 := (B2.alloc (Nat.le_of_lt g2) _).trans (bg.mono (Nat.le_succ _))
          have ba : Below w4.heap.size w4 (w4.alloc (.cells #[.int .i64 (k : Int)] 3)) := (Below.refl _ _).alloc (Nat.le_refl _) _
          have d0 := (bg.cell (p := ⟨w2.heap.size, 0, none⟩) (Nat.lt_succ_self _)).trans ((ba.cell (p := ⟨w2.heap.size, 0, none⟩) g2).trans d0)
          have d1 := (bg.cell (p := ⟨w2.heap.size, 1, none⟩) (Nat.lt_succ_self _)).trans ((ba.cell (p := ⟨w2.heap.size, 1, none⟩) g2).trans d1)
          have z3 := Nat.lt_of_lt_of_le g2 (Nat.le_trans ba.size bg.size)
          clear o2 g3 B2 bg ba g2
          go_roundw
          case rel => exact ⟨k + 1, by omega, by go_num, by rw [HN.out]; exact h3, b3, d0, d1, z3⟩
          case measure => simp only [intOf]; omega
        · have HN := Lib.hid (NO hq)
          rw [show decide (0 < z) = false by simpa using hq] at FL
          clear YES NO hq
          go_wp2_with (first
            | (go_at_call 94; refine FA.out.mono ?_; rintro e w3 ⟨u, rfl, oa, b1⟩; have oa := oa.dr; have o1 := ho.below b1 (Nat.le_refl _); have B1 : Below w2.heap.size w2 w3 := nxt hb b1; have c0 := (b1.cell (p := ⟨w2.heap.size, 0, none⟩) hgt).trans hc0; have c1 := (b1.cell (p := ⟨w2.heap.size, 1, none⟩) hgt).trans hc1; have g1 := Nat.lt_of_lt_of_le hgt b1.size; clear ho hb hc0 hc1 hgt b1)
            | (go_at_call 82; refine (FL.out _ _ oa).mono ?_; rintro e w4 ⟨rfl, b2⟩; have o2 := o1.below b2 (Nat.le_refl _); have B2 : Below w2.heap.size w2 w4 := nxt B1 b2; have d0 := (b2.cell (p := ⟨w2.heap.size, 0, none⟩) g1).trans c0; have d1 := (b2.cell (p := ⟨w2.heap.size, 1, none⟩) g1).trans c1; have g2 := Nat.lt_of_lt_of_le g1 b2.size; clear oa o1 B1 c0 c1 g1 b2))
          go_roundw
          case rel => exact ⟨k + 1, by omega, by go_num, by rw [HN.out]; exact o2, B2, d0, d1, g2⟩
          case measure => simp only [intOf]; omega
      · have hke : k = ps.length := by omega
        subst hke
        go_wp2
        go_ret2
        exact ⟨_, rfl, by rw [AT.out, ← HM.out]; exact ho.mono (by have := HB2.out.size; omega), nxt HB2.out hb⟩
end Go.Proofs.Ytpolobjlihhjbaa
