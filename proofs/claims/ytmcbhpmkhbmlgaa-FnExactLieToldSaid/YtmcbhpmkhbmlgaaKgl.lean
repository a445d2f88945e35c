/-
  LieTold in the model, by its contract. Condition: at most 2^40 lists of at most 2^40 numbers.
-/
import Derived.Test.YtmcbhpmkhbmlgaaKgk
import Derived.Deep.RegionHeld3
import Derived.Deep.CutRange
namespace Go.Proofs.Ytmcbhpmkhbmlgaa
open Go.RowKit

noncomputable def ltG (n : Int) (Ls : List (List Int)) (a : List UInt8) : Bool := askB n Ls a && decide ((cwK Ls a 1 n.toNat).length = 1)
noncomputable def ltX (n : Int) (Ls : List (List Int)) (a : List UInt8) : Int := if ltG n Ls a = true then (cwK Ls a 1 n.toNat).getD 0 0 else 0
noncomputable def ltL (n : Int) (Ls : List (List Int)) (a : List UInt8) : Int := if ltG n Ls a = true then laK (anW Ls ((cwK Ls a 1 n.toNat).getD 0 0)) a Ls.length else 0
theorem ret_iib {a b c d : Int} {e f : Bool} (h : a = b) (g : c = d) (k : e = f) : Ending.returned (.tuple #[.int .i64 a, .int .i64 c, .bool e]) = .returned (.tuple #[.int .i64 b, .int .i64 d, .bool f]) := by rw [h, g, k]
/-- A slice of one number: where it lies. -/
theorem Ow.one_cell {w : World} {B : Nat} {u : Value} {xs : List Int} (h : Ow w B u xs) (h1 : xs.length = 1) : ∃ g cap, u = .slice (some ⟨g, 0, none⟩) 1 cap ∧ g < w.heap.size ∧ w.cell? ⟨g, 0, none⟩ = some (.int .i64 (xs.getD 0 0)) := by
  rcases h.form with ⟨_, e⟩ | ⟨g, cap, rfl, _, hg⟩
  · rw [e] at h1; cases h1
  · have c := h.cellAt rfl (j := 0) (by omega)
    exact ⟨g, cap, by rw [h1], hg, c⟩
theorem tri_at {W W' : World} {a b : Nat} {x0 x1 y : Value} (ha : a < W.heap.size) (hb : b < W.heap.size) (h0 : W.cell? ⟨a, 0, none⟩ = some x0) (h1 : W.cell? ⟨a, 1, none⟩ = some x1) (h2 : W.cell? ⟨b, 0, none⟩ = some y) (k : Below W.heap.size W W') :
    W'.cell? ⟨a, 0, none⟩ = some x0 ∧ W'.cell? ⟨a, 1, none⟩ = some x1 ∧ W'.cell? ⟨b, 0, none⟩ = some y ∧ Below W.heap.size W W' :=
  ⟨(k.cell (p := ⟨a, 0, none⟩) ha).trans h0, (k.cell (p := ⟨a, 1, none⟩) ha).trans h1, (k.cell (p := ⟨b, 0, none⟩) hb).trans h2, k⟩
theorem tri_bel {W W' : World} (a b : Nat) (x0 x1 y : Value) (h : W'.cell? ⟨a, 0, none⟩ = some x0 ∧ W'.cell? ⟨a, 1, none⟩ = some x1 ∧ W'.cell? ⟨b, 0, none⟩ = some y ∧ Below W.heap.size W W') : Below W.heap.size W W' := h.2.2.2

set_option maxHeartbeats 8000000 in
set_option maxRecDepth 20000 in
theorem specLieTold_any (n : Int) (v : Value) (Ls : List (List Int)) (a : List UInt8) (w : World) (h : Svv w v Ls) (hl : Ls.length ≤ 1099511627776) (hx : ∀ j, j < Ls.length → (rowL Ls j).length ≤ 1099511627776) :
    Calls Try.prog 26 #[.agg #[.int .i64 n, v], .string (bstr a)] w fun e w' => e = .returned (.tuple #[.int .i64 (ltX n Ls a), .int .i64 (ltL n Ls a), .bool (ltG n Ls a)]) ∧ Below w.heap.size w w' := by
  obtain ⟨p, cap, rfl⟩ := svv_form h
  have hb0 : Below w.heap.size w (w.alloc (.cells #[.int .i64 n, .slice p Ls.length cap] 36)) := (Below.refl _ w).alloc (Nat.le_refl _) _
  have hz : w.heap.size < (w.alloc (.cells #[.int .i64 n, .slice p Ls.length cap] 36)).heap.size := by simp
  have C0 := card_n w n (.slice p Ls.length cap)
  have C1 := card_v w n (.slice p Ls.length cap)
  have CA := caAsked_any n _ Ls a _ (h.below hb0 (Nat.le_refl _)) hl hx
  have H := Lib.hid h
  have LX : Hid (ltX n Ls a = if ltG n Ls a = true then (cwK Ls a 1 n.toNat).getD 0 0 else 0) := Lib.hid rfl
  have LL : Hid (ltL n Ls a = if ltG n Ls a = true then laK (anW Ls ((cwK Ls a 1 n.toNat).getD 0 0)) a Ls.length else 0) := Lib.hid rfl
  have LG : Hid (ltG n Ls a = (askB n Ls a && decide ((cwK Ls a 1 n.toNat).length = 1))) := Lib.hid rfl
  rw [LG.out] at LX LL
  clear h hx
  cases hg : askB n Ls a with
  | false =>
    rw [hg] at CA LX LL LG
    obtain ⟨s, es⟩ : ∃ s, bstr a = s := ⟨_, rfl⟩
    rw [es] at CA ⊢
    have CA2 := Lib.hid CA
    clear hg es CA
    go_enter Try.func26, Try.ntmps26
    go_wp2_with (go_at_call 40; refine CA2.out.mono ?_; rintro e w1 ⟨rfl, b1⟩; have B1 := nxt hb0 b1)
    refine bodyPost_ret (v := .tuple #[.int .i64 0, .int .i64 0, .bool false]) (by simp [results, Try.results26, go_sem]) rfl ⟨ret_iib (by rw [LX.out]; rfl) (by rw [LL.out]; rfl) (by rw [LG.out]; rfl), B1⟩
  | true =>
    rw [hg] at CA LX LL LG
    have A := askB_iff.1 hg
    have G := Lib.hid A.1
    have HAL := Lib.hid A.2.1
    have hl12 := A.1.len
    have CW := Lib.hid (fun (W : World) (hb : Below w.heap.size w W) => caWith_any n 1 _ Ls a W (H.out.below hb (Nat.le_refl _)) A.1 A.2.1)
    have AN := Lib.hid (fun (x : Int) (W : World) (hb : Below w.heap.size w W) => caAnswers_any n x _ Ls W (H.out.below hb (Nat.le_refl _)) hl12 (card_rows A.1))
    have AP := Lib.hid (fun (x : Int) (W : World) => far_any Ls x a W hl12 A.2.1)
    obtain ⟨s, es⟩ : ∃ s, bstr a = s := ⟨_, rfl⟩
    obtain ⟨L, eL⟩ : ∃ L, cwK Ls a 1 n.toNat = L := ⟨_, rfl⟩
    rw [es] at CA CW AP ⊢
    rw [eL] at CW LX LL LG
    have CA2 := Lib.hid CA
    clear hg es eL CA A
    by_cases h1 : L.length = 1
    · go_enter Try.func26, Try.ntmps26
      go_wp2_with (first
        | (go_at_call 40; refine CA2.out.mono ?_; rintro e w1 ⟨rfl, b1⟩; have B1 := nxt hb0 b1; have d0 := (b1.cell (p := ⟨w.heap.size, 0, none⟩) hz).trans C0; have d1 := (b1.cell (p := ⟨w.heap.size, 1, none⟩) hz).trans C1; have z1 := Nat.lt_of_lt_of_le hz b1.size)
        | (go_at_call 41; refine (CW.out _ B1).mono ?_; rintro e w2 ⟨u, rfl, o2, b2⟩; have B2 := nxt B1 b2; have e0 := (b2.cell (p := ⟨w.heap.size, 0, none⟩) z1).trans d0; have e1 := (b2.cell (p := ⟨w.heap.size, 1, none⟩) z1).trans d1; have z2 := Nat.lt_of_lt_of_le z1 b2.size; obtain ⟨gu, cu, rfl, hgu, hxu⟩ := o2.one_cell h1; clear o2))
      obtain ⟨x, ex⟩ : ∃ x, L.getD 0 0 = x := ⟨_, rfl⟩
      rw [ex] at hxu LX LL
      obtain ⟨F, eF⟩ : ∃ F : Nat, farN Ls x a = F := ⟨_, rfl⟩
      have AN1 := Lib.hid (AN.out x)
      have AP1 := AP.out x
      obtain ⟨S, eS⟩ : ∃ S, bstr (anW Ls x) = S := ⟨_, rfl⟩
      obtain ⟨M, eM⟩ : ∃ M, laK (anW Ls x) a Ls.length = M := ⟨_, rfl⟩
      rw [eS] at AN1 AP1
      rw [eM] at AP1 LL
      rw [eF] at AP1
      have AP2 := Lib.hid AP1
      have SA := fun (W' : World) hh => Lib.hid (tri_at (W' := W') z2 hgu e0 e1 hxu hh)
      clear AN AP AP1 ex eF eS eM e0 e1 d0 d1 C0 C1 hxu
      go_upto_region 6 with (fail)
      go_region_held3 (fun w' => w'.cell? ⟨w.heap.size, 0, none⟩ = some (.int .i64 n) ∧ w'.cell? ⟨w.heap.size, 1, none⟩ = some (.slice p Ls.length cap) ∧ w'.cell? ⟨gu, 0, none⟩ = some (.int .i64 x) ∧ Below w2.heap.size w2 w') ((first | assumption | exact (SA _ (below_drewN (Below.refl _ _) 1)).out | exact SB.out | exact SC.out)) ((first
        | (go_at_call 52; refine (AN1.out _ (nxt B2 (tri_bel w.heap.size gu (.int .i64 n) (.slice p Ls.length cap) (.int .i64 x) (by assumption)))).mono ?_; rintro e w6 ⟨rfl, b6⟩; have SB := SA w6 (nxt (tri_bel w.heap.size gu (.int .i64 n) (.slice p Ls.length cap) (.int .i64 x) (by assumption)) b6); clear b6)
        | (go_at_call 51; refine (AP2.out _).mono ?_; rintro e w7 ⟨rfl, b7⟩; have SC := SA w7 (nxt SB.out.2.2.2 b7); clear b7)))
      all_goals
        have hxu := SC.out.2.2.1
        have B7 := nxt B2 SC.out.2.2.2
        go_wp2
        refine bodyPost_ret (v := .tuple #[.int .i64 x, .int .i64 M, .bool true]) (by simp [results, Try.results26, go_sem]) rfl ⟨ret_iib (by rw [LX.out, h1]; rfl) (by rw [LL.out, h1]; rfl) (by rw [LG.out, h1]; rfl), B7⟩
    · have d : ((L.length : Int) != 1) = true := by simp; omega
      have h2 : decide (L.length = 1) = false := by simp [h1]
      have Z3 : Hid (decide (L.length = 1) = false) := Lib.hid h2
      clear h2 AN AP
      go_enter Try.func26, Try.ntmps26
      go_wp2_with (first
        | (go_at_call 40; refine CA2.out.mono ?_; rintro e w1 ⟨rfl, b1⟩; have B1 := nxt hb0 b1; have d0 := (b1.cell (p := ⟨w.heap.size, 0, none⟩) hz).trans C0; have d1 := (b1.cell (p := ⟨w.heap.size, 1, none⟩) hz).trans C1; have z1 := Nat.lt_of_lt_of_le hz b1.size)
        | (go_at_call 41; refine (CW.out _ B1).mono ?_; rintro e w2 ⟨u, rfl, o2, b2⟩; have B2 := nxt B1 b2; obtain ⟨pu, cu, rfl, -⟩ := o2.sv; clear o2))
      refine bodyPost_ret (v := .tuple #[.int .i64 0, .int .i64 0, .bool false]) (by simp [results, Try.results26, go_sem]) rfl ⟨ret_iib (by rw [LX.out, Z3.out]; rfl) (by rw [LL.out, Z3.out]; rfl) (by rw [LG.out, Z3.out]; rfl), B2⟩
end Go.Proofs.Ytmcbhpmkhbmlgaa
