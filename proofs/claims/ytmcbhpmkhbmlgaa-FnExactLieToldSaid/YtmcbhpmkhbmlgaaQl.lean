/-
  LieTold in the program, by its contract. Condition: at most 2^40 lists of at most 2^40 numbers.
-/
import Derived.Test.YtmcbhpmkhbmlgaaQh
import Derived.Test.YtmcbhpmkhbmlgaaKgl
namespace Go.Proofs.Ytmcbhpmkhbmlgaa
open Go.RowKit

set_option maxHeartbeats 8000000 in
set_option maxRecDepth 20000 in
theorem implLieTold_any (n : Int) (v : Value) (Ls : List (List Int)) (a : List UInt8) (w : World) (h : Svv w v Ls) (hl : Ls.length ≤ 1099511627776) (hx : ∀ j, j < Ls.length → (rowL Ls j).length ≤ 1099511627776) :
    Calls Try.prog 27 #[.agg #[.int .i64 n, v], .string (bstr a)] w fun e w' => e = .returned (.tuple #[.int .i64 (ltX n Ls a), .int .i64 (ltL n Ls a), .bool (ltG n Ls a)]) ∧ Below w.heap.size w w' := by
  obtain ⟨p, cap, rfl⟩ := svv_form h
  have hb0 : Below w.heap.size w (w.alloc (.cells #[.int .i64 n, .slice p Ls.length cap] 36)) := (Below.refl _ w).alloc (Nat.le_refl _) _
  have hz : w.heap.size < (w.alloc (.cells #[.int .i64 n, .slice p Ls.length cap] 36)).heap.size := by simp
  have C0 := card_n w n (.slice p Ls.length cap)
  have C1 := card_v w n (.slice p Ls.length cap)
  have NW := implNumbersWithLies_any n _ Ls a 1 _ (h.below hb0 (Nat.le_refl _)) hl hx
  have e1 : nlB n Ls a 1 = askB n Ls a := by simp [nlB, inB]
  have e2 : nlR n Ls a 1 = if askB n Ls a = true then cwK Ls a 1 n.toNat else [] := by simp [nlR, e1]
  rw [e1, e2] at NW
  clear e1 e2
  have H := Lib.hid h
  have LX : Hid (ltX n Ls a = if ltG n Ls a = true then (cwK Ls a 1 n.toNat).getD 0 0 else 0) := Lib.hid rfl
  have LL : Hid (ltL n Ls a = if ltG n Ls a = true then laK (anW Ls ((cwK Ls a 1 n.toNat).getD 0 0)) a Ls.length else 0) := Lib.hid rfl
  have LG : Hid (ltG n Ls a = (askB n Ls a && decide ((cwK Ls a 1 n.toNat).length = 1))) := Lib.hid rfl
  rw [LG.out] at LX LL
  clear h hx
  cases hg : askB n Ls a with
  | false =>
    rw [hg] at NW LX LL LG
    obtain ⟨s, es⟩ : ∃ s, bstr a = s := ⟨_, rfl⟩
    rw [es] at NW ⊢
    have NW2 := Lib.hid NW
    clear hg es NW
    go_enter Try.func27, Try.ntmps27
    go_wp2_with (go_at_call 25; refine NW2.out.mono ?_; rintro e w1 ⟨u, rfl, o1, b1⟩; have B1 := nxt hb0 b1; obtain ⟨pu, cu, rfl, -⟩ := o1.sv; clear o1)
    refine bodyPost_ret (v := .tuple #[.int .i64 0, .int .i64 0, .bool false]) (by simp [results, Try.results27, go_sem]) rfl ⟨ret_iib (by rw [LX.out]; rfl) (by rw [LL.out]; rfl) (by rw [LG.out]; rfl), B1⟩
  | true =>
    rw [hg] at NW LX LL LG
    rw [if_pos rfl] at NW
    have A := askB_iff.1 hg
    have hlo := A.1.lo
    have hhi := A.1.hi
    have G := Lib.hid A.1
    have HAL := Lib.hid A.2.1
    have hl12 := A.1.len
    have AIN := Lib.hid (fun (x : Int) => anP_in Ls x)
    have DO := fun (W : World) (hb : Below w.heap.size w W) => deckOf_any n _ Ls W (H.out.below hb (Nat.le_refl _)) A.1
    have bd := fun x (hx : x ∈ cwK Ls a 1 n.toNat) => cwK_bd hx
    have BD := Lib.hid bd
    have YN := Lib.hid A.2.2
    obtain ⟨ps, eps⟩ : ∃ ps, Ls.map inL = ps := ⟨_, rfl⟩
    have PL : Hid (ps.length = Ls.length) := Lib.hid (by rw [← eps]; simp)
    have L2 : ps.length ≤ 12 := by rw [PL.out]; exact hl12
    rw [eps] at AIN DO
    have DO := Lib.hid DO
    have LF := Lib.hid (fun (x : Int) (W : World) (v : Value) (hd : Dr W v ps) (h0 : 0 ≤ x) (h1 : x ≤ 127) => liesFor_any n x v ps a W hd L2 h0 h1 YN.out (by rw [PL.out]; exact HAL.out))
    clear eps bd
    obtain ⟨s, es⟩ : ∃ s, bstr a = s := ⟨_, rfl⟩
    obtain ⟨L, eL⟩ : ∃ L, cwK Ls a 1 n.toNat = L := ⟨_, rfl⟩
    rw [es] at NW LF ⊢
    rw [eL] at NW LX LL LG BD
    have NW2 := Lib.hid NW
    clear hg es eL NW A
    by_cases h1 : L.length = 1
    · go_enter Try.func27, Try.ntmps27
      go_wp2_with (go_at_call 25; refine NW2.out.mono ?_; rintro e w2 ⟨u, rfl, o2, b2⟩; have B2 := nxt hb0 b2; have e0 := (b2.cell (p := ⟨w.heap.size, 0, none⟩) hz).trans C0; have e1 := (b2.cell (p := ⟨w.heap.size, 1, none⟩) hz).trans C1; have z2 := Nat.lt_of_lt_of_le hz b2.size; obtain ⟨gu, cu, rfl, hgu, hxu⟩ := o2.one_cell h1; clear o2)
      have hxm : L.getD 0 0 ∈ L := by rw [List.getD_eq_getElem?_getD, List.getElem?_eq_getElem (by omega)]; exact List.getElem_mem _
      have hxb := BD.out _ hxm
      obtain ⟨x, ex⟩ : ∃ x, L.getD 0 0 = x := ⟨_, rfl⟩
      rw [ex] at hxu LX LL hxb
      obtain ⟨hx0, hx1⟩ := hxb
      have LF1 := Lib.hid (fun (W : World) (v : Value) (hd : Dr W v ps) => LF.out x W v hd hx0 (by omega))
      have EM : Hid (laK (anP ps x) a ps.length = laK (anW Ls x) a Ls.length) := Lib.hid (by rw [AIN.out, PL.out])
      rw [← EM.out] at LL
      obtain ⟨F, eF⟩ : ∃ F : Nat, apK (anP ps x) a ps.length = F := ⟨_, rfl⟩
      obtain ⟨M, eM⟩ : ∃ M, laK (anP ps x) a ps.length = M := ⟨_, rfl⟩
      rw [eM] at LF1 LL
      rw [eF] at LF1
      have SA := fun (W' : World) hh => Lib.hid (tri_at (W' := W') z2 hgu e0 e1 hxu hh)
      clear LF ex eF eM e0 e1 C0 C1 hxu hxm EM
      go_upto_region 4 with (fail)
      go_region_held3 (fun w' => w'.cell? ⟨w.heap.size, 0, none⟩ = some (.int .i64 n) ∧ w'.cell? ⟨w.heap.size, 1, none⟩ = some (.slice p Ls.length cap) ∧ w'.cell? ⟨gu, 0, none⟩ = some (.int .i64 x) ∧ Below w2.heap.size w2 w') ((first | assumption | exact (SA _ (below_drewN (Below.refl _ _) 1)).out | exact SB.out | exact SC.out)) ((first
        | (go_at_call 48; refine (DO.out _ (nxt B2 (tri_bel w.heap.size gu (.int .i64 n) (.slice p Ls.length cap) (.int .i64 x) (by assumption)))).mono ?_; rintro e w6 ⟨sd, rfl, o6, b6⟩; have SB := SA w6 (nxt (tri_bel w.heap.size gu (.int .i64 n) (.slice p Ls.length cap) (.int .i64 x) (by assumption)) b6); have D6 := Lib.hid o6.dr; clear b6 o6)
        | (go_at_call 53; refine (LF1.out _ _ D6.out).mono ?_; rintro e w7 ⟨rfl, b7⟩; have SC := SA w7 (nxt SB.out.2.2.2 b7); clear b7)))
      all_goals
        have hxu := SC.out.2.2.1
        have B7 := nxt B2 SC.out.2.2.2
        go_wp2
        refine bodyPost_ret (v := .tuple #[.int .i64 x, .int .i64 M, .bool true]) (by simp [results, Try.results27, go_sem]) rfl ⟨ret_iib (by rw [LX.out, h1]; rfl) (by rw [LL.out, h1]; rfl) (by rw [LG.out, h1]; rfl), B7⟩
    · have d : ((L.length : Int) != 1) = true := by simp; omega
      have h2 : decide (L.length = 1) = false := by simp [h1]
      have Z3 : Hid (decide (L.length = 1) = false) := Lib.hid h2
      clear h2
      go_enter Try.func27, Try.ntmps27
      go_wp2_with (go_at_call 25; refine NW2.out.mono ?_; rintro e w2 ⟨u, rfl, o2, b2⟩; have B2 := nxt hb0 b2; obtain ⟨pu, cu, rfl, -⟩ := o2.sv; clear o2)
      refine bodyPost_ret (v := .tuple #[.int .i64 0, .int .i64 0, .bool false]) (by simp [results, Try.results27, go_sem]) rfl ⟨ret_iib (by rw [LX.out, Z3.out]; rfl) (by rw [LL.out, Z3.out]; rfl) (by rw [LG.out, Z3.out]; rfl), B2⟩
end Go.Proofs.Ytmcbhpmkhbmlgaa
