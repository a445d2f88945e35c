/-
  DropCard in the model, by contract. No condition but lengths that fit int.
-/
import Derived.Test.YtpolobjlihhjbaaKgo
namespace Go.Proofs.Ytpolobjlihhjbaa
open Go.RowKit

/-- Results: a struct of two cells in memory, and a slot. -/
theorem results_twob {P : Program} {fn : Func} {p q : Tmp} {ty : TypeId} (h : fn.results = #[.cell p ty, .tmp q]) (tmps : Array Value) (w : World) (g : Nat) (x y : Value) (fs : Array Field)
    (hp : tmps.getD p undef = .pointer (some ⟨g, 0, none⟩)) (c0 : w.cell? ⟨g, 0, none⟩ = some x) (c1 : w.cell? ⟨g, 1, none⟩ = some y)
    (hu : P.underlying ty = some (.struct fs)) (hi : (P.info? ty).map (·.size) = some 2) (b : Value) (hq : tmps.getD q undef = b) :
    (results fn tmps).run P w = .ok (.tuple #[.agg #[x, y], b]) w := by
  have hp' : tmps[p]?.getD undef = .pointer (some ⟨g, 0, none⟩) := by simpa using hp
  have hq' : tmps[q]?.getD undef = b := by simpa using hq
  have hl := run_loadVar_part (P := P) w g 0 ty #[x, y] (.struct fs) (fun j v hv => by
    match j, hv with
    | 0, hv => simp at hv; subst hv; simpa using c0
    | 1, hv => simp at hv; subst hv; simpa using c1) hu rfl (by simpa using hi)
  simp [results, h, hp', hq', asAddr, hl]

noncomputable def dcB (n : Int) (Ls : List (List Int)) (k : Int) : Bool := caB n Ls && inB k 0 (Ls.length - 1)
noncomputable def dcN (n : Int) (Ls : List (List Int)) (k : Int) : Int := if dcB n Ls k = true then n else 0
noncomputable def dcR (n : Int) (Ls : List (List Int)) (k : Int) : List (List Int) := if dcB n Ls k = true then Ls.eraseIdx k.toNat else []

set_option maxHeartbeats 2000000 in
set_option maxRecDepth 20000 in
theorem caCard_any (n k : Int) (v : Value) (Ls : List (List Int)) (w : World) (h : Svv w v Ls) (hl : Ls.length ≤ 1099511627776) (hx : ∀ j, j < Ls.length → (rowL Ls j).length ≤ 1099511627776) :
    Calls Try.prog 91 #[.agg #[.int .i64 n, v], .int .i64 k] w fun e w' => e = .returned (.bool (dcB n Ls k)) ∧ Below w.heap.size w w' := by
  obtain ⟨p, cap, rfl⟩ := svv_form h
  have hb0 : Below w.heap.size w (w.alloc (.cells #[.int .i64 n, .slice p Ls.length cap] 27)) := (Below.refl _ w).alloc (Nat.le_refl _) _
  have CG := caGood_any n _ Ls _ (h.below hb0 (Nat.le_refl _)) hl hx
  have CN := card_v w n (.slice p Ls.length cap)
  have DB : Hid (dcB n Ls k = (caB n Ls && inB k 0 (Ls.length - 1))) := Lib.hid rfl
  clear h
  cases hg : caB n Ls with
  | false =>
    rw [hg] at CG DB
    have CG := Lib.hid CG
    clear hg
    go_enter Try.func91, Try.ntmps91
    go_wp2_with (go_at_call 64; refine CG.out.mono ?_; rintro e w1 ⟨rfl, b1⟩; have B1 := nxt hb0 b1)
    go_ret
    exact ⟨ret_bool (by rw [DB.out]; rfl), B1⟩
  | true =>
    rw [hg] at CG DB
    have CG := Lib.hid CG
    have hl12 := (caB_iff.1 hg).len
    clear hg
    go_enter Try.func91, Try.ntmps91
    go_wp2_with (first
      | (go_at_call 64; refine CG.out.mono ?_; rintro e w1 ⟨rfl, b1⟩; have B1 := nxt hb0 b1; have C1 := (b1.cell (p := ⟨w.heap.size, 1, none⟩) (by simp)).trans CN)
      | (go_at_call 69; refine (l1In_any _ _ _ _).mono ?_; rintro e w2 ⟨rfl, rfl⟩))
    go_ret
    exact ⟨ret_bool (by rw [DB.out]; rfl), B1⟩

theorem pairW {w : World} {a b : Obj} : Below w.heap.size w ((w.alloc a).alloc b) := ((Below.refl _ w).alloc (Nat.le_refl _) _).alloc (by simp) _

set_option maxHeartbeats 4000000 in
set_option maxRecDepth 100000 in
theorem specDropCard_any (n k : Int) (v : Value) (Ls : List (List Int)) (w : World) (h : SrcL w v Ls) (hl : Ls.length ≤ 1099511627776) (hx : ∀ j, j < Ls.length → (rowL Ls j).length ≤ 1099511627776) :
    Calls Try.prog 48 #[.agg #[.int .i64 n, v], .int .i64 k] w fun e w' => ∃ u, e = .returned (.tuple #[.agg #[.int .i64 (dcN n Ls k), u], .bool (dcB n Ls k)]) ∧ Svv w' u (dcR n Ls k) ∧ Below w.heap.size w w' := by
  obtain ⟨p, cap, rfl⟩ := svv_form h.svv
  obtain ⟨W, eW⟩ : ∃ W, (w.alloc (.cells #[.int .i64 n, .slice p Ls.length cap] 27)).alloc (.cells #[.int .i64 0, .slice none 0 0] 27) = W := ⟨_, rfl⟩
  have hb0 : Below w.heap.size w W := by rw [← eW]; exact pairW
  have HZ : Hid (W.heap.size = w.heap.size + 1 + 1) := Lib.hid (by rw [← eW]; simp)
  have k0 : W.heap[w.heap.size]? = some (.cells #[.int .i64 n, .slice p Ls.length cap] 27 (0, 0)) := by rw [← eW]; exact blk_a _ _ _
  have k1 : W.heap[w.heap.size + 1]? = some (.cells #[.int .i64 0, .slice none 0 0] 27 (0, 0)) := by rw [← eW]; exact blk_b _ _ _
  have CC := caCard_any n k _ Ls _ (h.svv.below hb0 (Nat.le_refl _)) hl hx
  have K0 := Lib.hid k0
  have K1 := Lib.hid k1
  have H := Lib.hid h
  obtain ⟨c00, c01, -, -⟩ := cells2_of k0
  clear h hx k0 k1
  cases hg : dcB n Ls k with
  | false =>
    rw [hg] at CC
    have CC := Lib.hid CC
    have RN : Hid (dcN n Ls k = 0) := Lib.hid (by simp [dcN, hg])
    have RR : Hid (dcR n Ls k = []) := Lib.hid (by simp [dcR, hg])
    clear hg
    go_enter Try.func48, Try.ntmps48
    go_wp2_with (go_at_call 91; refine CC.out.mono ?_; rintro e w1 ⟨rfl, b1⟩; have B1 := nxt hb0 b1; have k1 := (b1.block (w.heap.size + 1) (by have := HZ.out; omega)).trans K1.out; obtain ⟨c10, c11, f10, f11⟩ := cells2_of k1; clear b1 k1)
    obtain ⟨fs, hfs⟩ := Try.cardsU
    rw [RN.out, RR.out]
    refine bodyPost_ret (v := .tuple #[.agg #[.int .i64 0, .slice none 0 0], .bool false]) (results_twob rfl _ _ (w.heap.size + 1) _ _ fs rfl ?_ ?_ hfs Try.cardsI _ rfl) rfl ⟨_, rfl, (Owa.nil _ 0 0).svv, (B1.setCell (p := ⟨w.heap.size + 1, 0, none⟩) (by show w.heap.size ≤ w.heap.size + 1; omega) _).setCell (p := ⟨w.heap.size + 1, 1, none⟩) (by show w.heap.size ≤ w.heap.size + 1; omega) _⟩
    · simp [World.cell?_setCell_other, World.cell?_setCell_same, go_sem, c10]
    · simp [World.cell?_setCell_other, World.cell?_setCell_same, go_sem, c11]
  | true =>
    rw [hg] at CC
    have CC := Lib.hid CC
    have hg2 := hg
    unfold dcB at hg2
    rw [Bool.and_eq_true] at hg2
    have G := caB_iff.1 hg2.1
    have hin := inB_iff.1 hg2.2
    obtain ⟨m, rfl⟩ : ∃ m : Nat, k = m := ⟨k.toNat, by omega⟩
    have RN : Hid (dcN n Ls m = n) := Lib.hid (by simp [dcN, hg])
    have RR : Hid (dcR n Ls m = Ls.eraseIdx m) := Lib.hid (by simp [dcR, hg])
    have FA := fun (W' : World) (b : Below w.heap.size w W') => caOwn_any n m _ Ls W' (H.out.below b (Nat.le_refl _)) G
    rw [owK_erase] at FA
    obtain ⟨E, eE⟩ : ∃ E, Ls.eraseIdx m = E := ⟨_, rfl⟩
    rw [eE] at FA RR
    have FA := Lib.hid FA
    clear hg hg2 hin G eE
    go_enter Try.func48, Try.ntmps48
    go_wp2_with (first
      | (go_at_call 91; refine CC.out.mono ?_; rintro e w1 ⟨rfl, b1⟩; have B1 := nxt hb0 b1; have k0 := (b1.block w.heap.size (by have := HZ.out; omega)).trans K0.out; have k1 := (b1.block (w.heap.size + 1) (by have := HZ.out; omega)).trans K1.out; have z1 := b1.size; obtain ⟨d00, d01, -, -⟩ := cells2_of k0; clear b1)
      | (go_at_call 92; refine (FA.out _ B1).mono ?_; rintro e w2 ⟨u, rfl, o2, b2⟩; have B2 := nxt B1 b2; have k1 := (b2.block (w.heap.size + 1) (by have := HZ.out; omega)).trans k1; obtain ⟨c10, c11, f10, f11⟩ := cells2_of k1; obtain ⟨up, uc, rfl⟩ := o2.form; have O2 := Lib.hid o2; clear o2 b2))
    obtain ⟨fs, hfs⟩ := Try.cardsU
    rw [RN.out, RR.out]
    refine bodyPost_ret (v := .tuple #[.agg #[.int .i64 n, .slice up E.length uc], .bool true]) (results_twob rfl _ _ (w.heap.size + 1) _ _ fs rfl ?_ ?_ hfs Try.cardsI _ rfl) rfl ⟨_, rfl, ((O2.out.mono (show w.heap.size + 1 + 1 ≤ _ by have := HZ.out; omega) (Nat.le_refl _)).abv (((Abv.refl _ _).setCell (g := w.heap.size + 1) (by omega) 0 _).setCell (g := w.heap.size + 1) (by omega) 1 _)).svv, (B2.setCell (p := ⟨w.heap.size + 1, 0, none⟩) (by show w.heap.size ≤ w.heap.size + 1; omega) _).setCell (p := ⟨w.heap.size + 1, 1, none⟩) (by show w.heap.size ≤ w.heap.size + 1; omega) _⟩
    · simp [World.cell?_setCell_other, World.cell?_setCell_same, go_sem, c10]
    · simp [World.cell?_setCell_other, World.cell?_setCell_same, go_sem, c11]
end Go.Proofs.Ytpolobjlihhjbaa
