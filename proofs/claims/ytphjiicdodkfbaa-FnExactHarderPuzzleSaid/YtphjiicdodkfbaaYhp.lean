/-
  HarderPuzzle in the model and in the program, by their contracts. Condition: at most 2^40 clues.
-/
import Derived.Test.YtphjiicdodkfbaaYnl
namespace Go.Proofs.Ytphjiicdodkfbaa
open Go.RowKit

noncomputable def hpF : Nat → List Cl → Nat → List Cl
  | 0, cs, _ => cs
  | n + 1, cs, k => if k < cs.length then (if slvB (woL cs k) = true then hpF n (woL cs k) k else hpF n cs (k + 1)) else cs
theorem woL_len {cs : List Cl} {k : Nat} (h : k < cs.length) : (woL cs k).length = cs.length - 1 := by
  unfold woL; rw [List.length_append, List.length_take, List.length_drop]; omega
theorem hp_yes {cs : List Cl} {k : Nat} {R : List Cl} (h : k < cs.length) (hs : slvB (woL cs k) = true) (hr : hpF (cs.length - k) cs k = R) : hpF ((woL cs k).length - k) (woL cs k) k = R := by
  rw [← hr, show cs.length - k = (cs.length - k - 1) + 1 by omega, hpF, if_pos h, if_pos hs, woL_len h, show cs.length - 1 - k = cs.length - k - 1 by omega]
theorem hp_no {cs : List Cl} {k : Nat} {R : List Cl} (h : k < cs.length) (hs : slvB (woL cs k) = false) (hr : hpF (cs.length - k) cs k = R) : hpF (cs.length - (k + 1)) cs (k + 1) = R := by
  rw [← hr, show cs.length - k = (cs.length - (k + 1)) + 1 by omega, hpF, if_pos h, hs]; rfl
theorem hp_end {cs : List Cl} {k : Nat} {R : List Cl} (h : ¬ k < cs.length) (hr : hpF (cs.length - k) cs k = R) : cs = R := by
  rw [← hr, show cs.length - k = 0 by omega, hpF]
theorem hp_len : ∀ (n : Nat) (cs : List Cl) (k : Nat), (hpF n cs k).length ≤ cs.length
  | 0, cs, _ => by rw [hpF]; exact Nat.le_refl _
  | n + 1, cs, k => by
    rw [hpF]
    split
    · split
      · exact Nat.le_trans (hp_len n _ _) (wo_len cs k)
      · exact hp_len n _ _
    · exact Nat.le_refl _
noncomputable def hpB (cs : List Cl) : Bool := pzB cs && slvB cs
noncomputable def hpR (cs : List Cl) : List Cl := if hpB cs = true then hpF cs.length cs 0 else []
theorem hpR_len (cs : List Cl) : (hpR cs).length ≤ 6 := by
  unfold hpR
  split
  · next h =>
    unfold hpB at h
    simp only [Bool.and_eq_true] at h
    have h1 := (pzB_iff.1 h.1).1
    have h2 := hp_len cs.length cs 0
    omega
  · simp
theorem allH_two : 2 ≤ allH.length := by decide +kernel
theorem slv_pos {cs : List Cl} (h : slvB cs = true) : 0 < cs.length := by
  by_cases e : cs = []
  · subst e
    have h2 : (solL []).length = 1 := by unfold slvB at h; simpa using h
    have h3 : solL [] = allH := by unfold solL; rw [List.filter_eq_self]; intro a _; rfl
    rw [h3] at h2
    have := allH_two
    omega
  · exact List.length_pos_iff.2 e
def slLen : Value → Nat
  | .slice _ n _ => n
  | _ => 0
theorem Cv.cs {w : World} {b off cap : Nat} {cs : List Cl} (h : Cv w (.slice (some ⟨b, off, none⟩) cs.length cap) cs) (h0 : 0 < cs.length) : Cs w (.slice (some ⟨b, off, none⟩) cs.length cap) cs := by
  obtain ⟨q, cap2, e, _, _, hx⟩ := h
  simp only [Value.slice.injEq, true_and] at e
  obtain ⟨rfl, rfl⟩ := e
  obtain ⟨b2, off2, hp, hb, hc3⟩ := hx h0
  simp only [Option.some.injEq, Addr.mk.injEq, and_true] at hp
  obtain ⟨rfl, rfl⟩ := hp
  exact .inr ⟨b, off, cap, rfl, hb, flC_cells hc3⟩
theorem Cv.some9 {w : World} {p : Option Addr} {cap : Nat} {cs : List Cl} (h : Cv w (.slice p cs.length cap) cs) (h0 : 0 < cs.length) : ∃ b off, p = some ⟨b, off, none⟩ := by
  obtain ⟨q, c, e, _, _, hx⟩ := h
  simp only [Value.slice.injEq, true_and] at e
  obtain ⟨rfl, rfl⟩ := e
  obtain ⟨b, off, e, _⟩ := hx h0
  exact ⟨b, off, e⟩

set_option maxHeartbeats 4000000 in
set_option maxRecDepth 20000 in
theorem clone_any (b off cap : Nat) (cs : List Cl) (w : World) (h : Cv w (.slice (some ⟨b, off, none⟩) cs.length cap) cs) (h0 : 0 < cs.length) (hl : cs.length ≤ 1000) :
    Calls Try.prog 91 #[.slice (some ⟨b, off, none⟩) cs.length cap] w fun e w' => ∃ u, e = .returned u ∧ Ck w' w.heap.size u cs ∧ Below w.heap.size w w' := by
  have HC := Lib.hid (h.cs h0)
  clear h h0
  have b1 : Below w.heap.size w (w.alloc (.cells #[] 29)) := (Below.refl _ _).alloc (Nat.le_refl _) _
  have heq : ∀ (a : Addr) (l c : Nat) (w : World), (binOp .eql 37 (.slice (some a) l c) (.slice none 0 0)).run Try.prog w = .ok (.bool false) w := fun a l c w => by
    simp only [binOp]
    simp [run_equal_slice_nil w 37 29 (some a) l c Try.underlying37]
  go_enter Try.func91, Try.ntmps91
  go_wp2_with (at_builtin; go_loud (refine wl_append_clue rfl _ _ rfl w.heap.size _ [] rfl (ckE w) _ cs rfl (HC.out.below b1 (Nat.le_refl _)) (by simp; omega) (by simp) ?_; intro v2 w2 o2 g2; have B2 := b1.trans (CkGrown (ckE w) (by simp) g2); rw [List.nil_append] at o2))
  go_ret
  exact ⟨_, rfl, o2, B2⟩

set_option maxHeartbeats 8000000 in
theorem specHarderPuzzle_any (v : Value) (cs : List Cl) (w : World) (h : Cv w v cs) (hl : cs.length ≤ 1099511627776) :
    Calls Try.prog 60 #[.agg #[v]] w fun e w' => ∃ u, e = .returned (.tuple #[.agg #[u], .bool (hpB cs)]) ∧ Ck w' w.heap.size u (hpR cs) ∧ Below w.heap.size w w' := by
  obtain ⟨p, cap, rfl⟩ := h.shape
  obtain ⟨W, eW⟩ : ∃ W, (w.alloc (.cells #[.slice p cs.length cap] 39)).alloc (.cells #[.slice none 0 0] 39) = W := ⟨_, rfl⟩
  have hb0 : Below w.heap.size w W := by rw [← eW]; exact ((Below.refl _ _).alloc (Nat.le_refl _) _).alloc (by simp) _
  have ZW : W.heap.size = w.heap.size + 1 + 1 := by rw [← eW]; simp
  have HA := Lib.hid (show W.heap[w.heap.size]? = some (.cells #[.slice p cs.length cap] 39 (0, 0)) by rw [← eW]; exact blk_a w _ _)
  have HR := Lib.hid (show W.heap[w.heap.size + 1]? = some (.cells #[.slice none 0 0] 39 (0, 0)) by rw [← eW]; exact blk_b w _ _)
  have HS := Lib.hid (h.below hb0 (Nat.le_refl _))
  have HL := Lib.hid hl
  clear h hl
  have PG := Lib.hid (pzGood_any _ cs W HS.out HL.out)
  cases hB : pzB cs
  · rw [hB] at PG
    have E0 : hpB cs = false := by unfold hpB; rw [hB]; rfl
    have E1 : hpR cs = [] := by unfold hpR; rw [E0]; rfl
    rw [E0, E1]
    clear hB E0 E1
    obtain ⟨cA, -⟩ := cells1_of HA.out
    go_enter Try.func60, Try.ntmps60
    go_wp2_with fail
    clear eW cA
    refine PG.out.mono ?_
    rintro e w1 ⟨rfl, t⟩
    clear PG
    obtain ⟨cA, -⟩ := cells1_of ((t.block _ (by omega)).trans HA.out)
    obtain ⟨cR, fR⟩ := cells1_of ((t.block _ (by omega)).trans HR.out)
    go_wp2_with fail
    exact bodyPost_ret (v := .tuple #[.agg #[.slice none 0 0], .bool false]) (by simp [results, Try.results60, go_sem, cR]) rfl ⟨_, rfl, Ck.nil _ _, (nxt hb0 t).setCell (Nat.le_succ _) _⟩
  · rw [hB] at PG
    have h6 := (pzB_iff.1 hB).1
    have HC := Lib.hid (pzB_iff.1 hB).2
    have SV := Lib.hid (fun (W' : World) (hb : Below W.heap.size W W') => pzSolved_any _ cs W' (HS.out.below hb (Nat.le_refl _)) HC.out HL.out)
    cases hS : slvB cs
    · rw [hS] at SV
      have E0 : hpB cs = false := by unfold hpB; rw [hB, hS]; rfl
      have E1 : hpR cs = [] := by unfold hpR; rw [E0]; rfl
      rw [E0, E1]
      clear hB hS E0 E1
      obtain ⟨cA, -⟩ := cells1_of HA.out
      go_enter Try.func60, Try.ntmps60
      go_wp2_with fail
      clear eW cA
      refine PG.out.mono ?_
      rintro e w1 ⟨rfl, t⟩
      clear PG
      obtain ⟨cA, -⟩ := cells1_of ((t.block _ (by omega)).trans HA.out)
      obtain ⟨cR, fR⟩ := cells1_of ((t.block _ (by omega)).trans HR.out)
      go_wp2_with fail
      refine (SV.out _ t).mono ?_
      rintro e w3 ⟨rfl, b3⟩
      replace t := nxt t b3
      clear cA cR fR b3
      obtain ⟨cA, -⟩ := cells1_of ((t.block _ (by omega)).trans HA.out)
      obtain ⟨cR, fR⟩ := cells1_of ((t.block _ (by omega)).trans HR.out)
      go_wp2_with fail
      exact bodyPost_ret (v := .tuple #[.agg #[.slice none 0 0], .bool false]) (by simp [results, Try.results60, go_sem, cR]) rfl ⟨_, rfl, Ck.nil _ _, (nxt hb0 t).setCell (Nat.le_succ _) _⟩
    · have hpos := slv_pos hS
      rw [hS] at SV
      have E0 : hpB cs = true := by unfold hpB; rw [hB, hS]; rfl
      have ER : Hid (hpF (cs.length - 0) cs 0 = hpR cs) := Lib.hid (by unfold hpR; rw [E0]; rfl)
      obtain ⟨bb, off, rfl⟩ := HS.out.some9 hpos
      rw [E0]
      obtain ⟨R, eR⟩ : ∃ R, hpR cs = R := ⟨_, rfl⟩
      rw [eR] at ER ⊢
      clear hB hS E0 eR
      obtain ⟨cA, -⟩ := cells1_of HA.out
      go_enter Try.func60, Try.ntmps60
      go_wp2_with fail
      clear eW cA
      refine PG.out.mono ?_
      rintro e w1 ⟨rfl, t⟩
      clear PG
      obtain ⟨cA, -⟩ := cells1_of ((t.block _ (by omega)).trans HA.out)
      obtain ⟨cR, fR⟩ := cells1_of ((t.block _ (by omega)).trans HR.out)
      go_wp2_with fail
      refine (SV.out _ t).mono ?_
      rintro e w3 ⟨rfl, b3⟩
      replace t := nxt t b3
      clear cA cR fR b3
      obtain ⟨cA, -⟩ := cells1_of ((t.block _ (by omega)).trans HA.out)
      obtain ⟨cR, fR⟩ := cells1_of ((t.block _ (by omega)).trans HR.out)
      clear cR fR
      have HS3 := Lib.hid (HS.out.below t (Nat.le_refl _))
      have ZT := t.size
      have b4 : Below w3.heap.size w3 (w3.alloc (.cells #[] 29)) := (Below.refl _ _).alloc (Nat.le_refl _) _
      have hsz3 : w.heap.size < w3.heap.size := by omega
      go_wp2_with (at_builtin; refine wl_append_clue rfl _ _ rfl w3.heap.size _ [] rfl (ckE w3) _ cs rfl ((HS3.out.cs hpos).below b4 (Nat.le_refl _)) (by simp; omega) (by simp) ?_; intro v2 w2 o4 g2; have B4 := b4.trans (CkGrown (ckE w3) (by simp) g2); rw [List.nil_append] at o4)
      clear g2 b4 cA
      go_loopw [4, 5] (fun x i wr => ∃ (k : Nat) (ds : List Cl), i = .int .i64 k ∧ Ck wr w3.heap.size x ds ∧ k ≤ 6 ∧ ds.length ≤ 6 ∧ Hid (∀ c ∈ ds, clB c = true) ∧ Hid (hpF (ds.length - k) ds k = R) ∧ Below w3.heap.size w3 wr) (fun x i _ => slLen x - (intOf i).toNat)
      case atStart => exact ⟨0, cs, rfl, o4, by omega, h6, HC, ER, B4⟩
      case round =>
        clear o4 B4
        obtain ⟨k, ds, rfl, ho, hk6, hd6, HD, HR2, hb⟩ := hrel
        have hz := hb.size
        by_cases hlt : k < ds.length
        · have WO := Lib.hid (fun p c (e : u4 = .slice p ds.length c) => pzWithout_any p c k ds wr (by rw [← e]; exact ho.cv) hlt (by omega))
          have HY := Lib.hid (fun h => hp_yes hlt h HR2.out)
          have HN := Lib.hid (fun h => hp_no hlt h HR2.out)
          have HWL := Lib.hid (woL_len hlt)
          have SV2 := Lib.hid (fun (u : Value) (W' : World) (h : Ck W' wr.heap.size u (woL ds k)) => pzSolved_any u (woL ds k) W' h.cv (wo_ok HD.out k) (by have := wo_len ds k; omega))
          have HWO := Lib.hid (wo_ok HD.out k)
          obtain ⟨px, cx, rfl⟩ := ho.shape
          have HO := Lib.hid ho
          have hw1 : IntKind.i64.wrap ((k : Int) + 1) = (k : Int) + 1 := IntWalk.i64_in _ (by omega)
          clear ho HR2
          obtain ⟨Q, eQ⟩ : ∃ Q, woL ds k = Q := ⟨_, rfl⟩
          rw [eQ] at HY HN SV2 HWO HWL WO
          clear eQ
          cases hS : slvB Q
          · rw [hS] at SV2
            have N := Lib.hid (HN.out hS)
            clear HY HN hS
            go_wp2_with fail
            refine (WO.out _ _ rfl).mono ?_
            rintro e w5 ⟨u5, rfl, o5, b5⟩
            go_wp2_with fail
            refine (SV2.out _ _ o5).mono ?_
            rintro e w6 ⟨rfl, b6⟩
            have b56 := nxt b5 b6
            have o6 := HO.out.below b56 (Nat.le_refl _)
            have hb6 := hb.trans (b56.mono hz)
            clear o5 b5 b6 b56
            go_wp2_with fail
            go_roundw
            case rel => exact ⟨k + 1, ds, by go_num, o6, by omega, hd6, HD, N, hb6⟩
            case measure => simp [intOf, slLen]; omega
          · rw [hS] at SV2
            have N := Lib.hid (HY.out hS)
            clear HY HN hS
            go_wp2_with fail
            refine (WO.out _ _ rfl).mono ?_
            rintro e w5 ⟨u5, rfl, o5, b5⟩
            obtain ⟨p5, c5, rfl⟩ := o5.shape
            go_wp2_with fail
            refine (SV2.out _ _ o5).mono ?_
            rintro e w6 ⟨rfl, b6⟩
            have o6 := (o5.below b6 (Nat.le_refl _)).mono hz
            have hb6 := hb.trans ((nxt b5 b6).mono hz)
            clear o5 b5 b6
            go_wp2_with fail
            go_roundw
            case rel => exact ⟨k, Q, rfl, o6, hk6, by have := HWL.out; omega, HWO, N, hb6⟩
            case measure => have := HWL.out; simp [intOf, slLen]; omega
        · have E := hp_end hlt HR2.out
          clear HR2 HD
          subst E
          obtain ⟨px, cx, rfl⟩ := ho.shape
          have t4 := nxt t hb
          have HO := Lib.hid ho
          obtain ⟨cR, fR⟩ := cells1_of ((t4.block _ (by omega)).trans HR.out)
          have HB4 := Lib.hid (nxt hb0 t4)
          clear ho t4
          go_wp2
          exact bodyPost_ret (v := .tuple #[.agg #[.slice px ds.length cx], .bool true]) (by simp [results, Try.results60, go_sem, cR]) rfl ⟨_, rfl, (Ck.abv HO.out ((Abv.refl _ _).setCell (by omega) _ _)).mono (by omega), HB4.out.setCell (Nat.le_succ _) _⟩

set_option maxHeartbeats 8000000 in
theorem implHarderPuzzle_any (v : Value) (cs : List Cl) (w : World) (h : Cv w v cs) (hl : cs.length ≤ 1099511627776) :
    Calls Try.prog 61 #[.agg #[v]] w fun e w' => ∃ u, e = .returned (.tuple #[.agg #[u], .bool (hpB cs)]) ∧ Ck w' w.heap.size u (hpR cs) ∧ Below w.heap.size w w' := by
  obtain ⟨p, cap, rfl⟩ := h.shape
  obtain ⟨W, eW⟩ : ∃ W, (w.alloc (.cells #[.slice p cs.length cap] 39)).alloc (.cells #[.slice none 0 0] 39) = W := ⟨_, rfl⟩
  have hb0 : Below w.heap.size w W := by rw [← eW]; exact ((Below.refl _ _).alloc (Nat.le_refl _) _).alloc (by simp) _
  have ZW : W.heap.size = w.heap.size + 1 + 1 := by rw [← eW]; simp
  have HA := Lib.hid (show W.heap[w.heap.size]? = some (.cells #[.slice p cs.length cap] 39 (0, 0)) by rw [← eW]; exact blk_a w _ _)
  have HR := Lib.hid (show W.heap[w.heap.size + 1]? = some (.cells #[.slice none 0 0] 39 (0, 0)) by rw [← eW]; exact blk_b w _ _)
  have HS := Lib.hid (h.below hb0 (Nat.le_refl _))
  have HL := Lib.hid hl
  clear h hl
  have PG := Lib.hid (implIsPuzzle_any _ cs W HS.out HL.out)
  cases hB : pzB cs
  · rw [hB] at PG
    have E0 : hpB cs = false := by unfold hpB; rw [hB]; rfl
    have E1 : hpR cs = [] := by unfold hpR; rw [E0]; rfl
    rw [E0, E1]
    clear hB E0 E1
    obtain ⟨cA, -⟩ := cells1_of HA.out
    go_enter Try.func61, Try.ntmps61
    go_wp2_with fail
    clear eW cA
    refine PG.out.mono ?_
    rintro e w1 ⟨rfl, t⟩
    clear PG
    obtain ⟨cA, -⟩ := cells1_of ((t.block _ (by omega)).trans HA.out)
    obtain ⟨cR, fR⟩ := cells1_of ((t.block _ (by omega)).trans HR.out)
    go_wp2_with fail
    exact bodyPost_ret (v := .tuple #[.agg #[.slice none 0 0], .bool false]) (by simp [results, Try.results61, go_sem, cR]) rfl ⟨_, rfl, Ck.nil _ _, (nxt hb0 t).setCell (Nat.le_succ _) _⟩
  · rw [hB] at PG
    have h6 := (pzB_iff.1 hB).1
    have HC := Lib.hid (pzB_iff.1 hB).2
    have SV := Lib.hid (fun (W' : World) (hb : Below W.heap.size W W') => areSolved_any _ cs W' (HS.out.below hb (Nat.le_refl _)) HC.out HL.out)
    cases hS : slvB cs
    · rw [hS] at SV
      have E0 : hpB cs = false := by unfold hpB; rw [hB, hS]; rfl
      have E1 : hpR cs = [] := by unfold hpR; rw [E0]; rfl
      rw [E0, E1]
      clear hB hS E0 E1
      obtain ⟨cA, -⟩ := cells1_of HA.out
      go_enter Try.func61, Try.ntmps61
      go_wp2_with fail
      clear eW cA
      refine PG.out.mono ?_
      rintro e w1 ⟨rfl, t⟩
      clear PG
      obtain ⟨cA, -⟩ := cells1_of ((t.block _ (by omega)).trans HA.out)
      obtain ⟨cR, fR⟩ := cells1_of ((t.block _ (by omega)).trans HR.out)
      go_wp2_with fail
      refine (SV.out _ t).mono ?_
      rintro e w3 ⟨rfl, b3⟩
      replace t := nxt t b3
      clear cA cR fR b3
      obtain ⟨cA, -⟩ := cells1_of ((t.block _ (by omega)).trans HA.out)
      obtain ⟨cR, fR⟩ := cells1_of ((t.block _ (by omega)).trans HR.out)
      go_wp2_with fail
      exact bodyPost_ret (v := .tuple #[.agg #[.slice none 0 0], .bool false]) (by simp [results, Try.results61, go_sem, cR]) rfl ⟨_, rfl, Ck.nil _ _, (nxt hb0 t).setCell (Nat.le_succ _) _⟩
    · have hpos := slv_pos hS
      rw [hS] at SV
      have E0 : hpB cs = true := by unfold hpB; rw [hB, hS]; rfl
      have ER : Hid (hpF (cs.length - 0) cs 0 = hpR cs) := Lib.hid (by unfold hpR; rw [E0]; rfl)
      obtain ⟨bb, off, rfl⟩ := HS.out.some9 hpos
      rw [E0]
      obtain ⟨R, eR⟩ : ∃ R, hpR cs = R := ⟨_, rfl⟩
      rw [eR] at ER ⊢
      clear hB hS E0 eR
      obtain ⟨cA, -⟩ := cells1_of HA.out
      go_enter Try.func61, Try.ntmps61
      go_wp2_with fail
      clear eW cA
      refine PG.out.mono ?_
      rintro e w1 ⟨rfl, t⟩
      clear PG
      obtain ⟨cA, -⟩ := cells1_of ((t.block _ (by omega)).trans HA.out)
      obtain ⟨cR, fR⟩ := cells1_of ((t.block _ (by omega)).trans HR.out)
      go_wp2_with fail
      refine (SV.out _ t).mono ?_
      rintro e w3 ⟨rfl, b3⟩
      replace t := nxt t b3
      clear cA cR fR b3
      obtain ⟨cA, -⟩ := cells1_of ((t.block _ (by omega)).trans HA.out)
      obtain ⟨cR, fR⟩ := cells1_of ((t.block _ (by omega)).trans HR.out)
      clear cR fR
      have HS3 := Lib.hid (HS.out.below t (Nat.le_refl _))
      have ZT := t.size
      go_wp2_with fail
      refine (clone_any _ _ _ cs _ HS3.out hpos (by omega)).mono ?_
      rintro e w4 ⟨v2, rfl, o4, B4⟩
      clear cA
      go_wp2_with fail
      go_loopw [4, 5] (fun x i wr => ∃ (k : Nat) (ds : List Cl), i = .int .i64 k ∧ Ck wr w3.heap.size x ds ∧ k ≤ 6 ∧ ds.length ≤ 6 ∧ Hid (∀ c ∈ ds, clB c = true) ∧ Hid (hpF (ds.length - k) ds k = R) ∧ Below w3.heap.size w3 wr) (fun x i _ => slLen x - (intOf i).toNat)
      case atStart => exact ⟨0, cs, rfl, o4, by omega, h6, HC, ER, B4⟩
      case round =>
        clear o4 B4
        obtain ⟨k, ds, rfl, ho, hk6, hd6, HD, HR2, hb⟩ := hrel
        have hz := hb.size
        by_cases hlt : k < ds.length
        · have WO := Lib.hid (fun p c (e : u4 = .slice p ds.length c) => withoutClue_any p c k ds wr (by rw [← e]; exact ho.cv) hlt (by omega))
          have HY := Lib.hid (fun h => hp_yes hlt h HR2.out)
          have HN := Lib.hid (fun h => hp_no hlt h HR2.out)
          have HWL := Lib.hid (woL_len hlt)
          have SV2 := Lib.hid (fun (u : Value) (W' : World) (h : Ck W' wr.heap.size u (woL ds k)) => areSolved_any u (woL ds k) W' h.cv (wo_ok HD.out k) (by have := wo_len ds k; omega))
          have HWO := Lib.hid (wo_ok HD.out k)
          obtain ⟨px, cx, rfl⟩ := ho.shape
          have HO := Lib.hid ho
          have hw1 : IntKind.i64.wrap ((k : Int) + 1) = (k : Int) + 1 := IntWalk.i64_in _ (by omega)
          clear ho HR2
          obtain ⟨Q, eQ⟩ : ∃ Q, woL ds k = Q := ⟨_, rfl⟩
          rw [eQ] at HY HN SV2 HWO HWL WO
          clear eQ
          cases hS : slvB Q
          · rw [hS] at SV2
            have N := Lib.hid (HN.out hS)
            clear HY HN hS
            go_wp2_with fail
            refine (WO.out _ _ rfl).mono ?_
            rintro e w5 ⟨u5, rfl, o5, b5⟩
            go_wp2_with fail
            refine (SV2.out _ _ o5).mono ?_
            rintro e w6 ⟨rfl, b6⟩
            have b56 := nxt b5 b6
            have o6 := HO.out.below b56 (Nat.le_refl _)
            have hb6 := hb.trans (b56.mono hz)
            clear o5 b5 b6 b56
            go_wp2_with fail
            go_roundw
            case rel => exact ⟨k + 1, ds, by go_num, o6, by omega, hd6, HD, N, hb6⟩
            case measure => simp [intOf, slLen]; omega
          · rw [hS] at SV2
            have N := Lib.hid (HY.out hS)
            clear HY HN hS
            go_wp2_with fail
            refine (WO.out _ _ rfl).mono ?_
            rintro e w5 ⟨u5, rfl, o5, b5⟩
            obtain ⟨p5, c5, rfl⟩ := o5.shape
            go_wp2_with fail
            refine (SV2.out _ _ o5).mono ?_
            rintro e w6 ⟨rfl, b6⟩
            have o6 := (o5.below b6 (Nat.le_refl _)).mono hz
            have hb6 := hb.trans ((nxt b5 b6).mono hz)
            clear o5 b5 b6
            go_wp2_with fail
            go_roundw
            case rel => exact ⟨k, Q, rfl, o6, hk6, by have := HWL.out; omega, HWO, N, hb6⟩
            case measure => have := HWL.out; simp [intOf, slLen]; omega
        · have E := hp_end hlt HR2.out
          clear HR2 HD
          subst E
          obtain ⟨px, cx, rfl⟩ := ho.shape
          have t4 := nxt t hb
          have HO := Lib.hid ho
          obtain ⟨cR, fR⟩ := cells1_of ((t4.block _ (by omega)).trans HR.out)
          have HB4 := Lib.hid (nxt hb0 t4)
          clear ho t4
          go_wp2
          exact bodyPost_ret (v := .tuple #[.agg #[.slice px ds.length cx], .bool true]) (by simp [results, Try.results61, go_sem, cR]) rfl ⟨_, rfl, (Ck.abv HO.out ((Abv.refl _ _).setCell (by omega) _ _)).mono (by omega), HB4.out.setCell (Nat.le_succ _) _⟩
end Go.Proofs.Ytphjiicdodkfbaa
