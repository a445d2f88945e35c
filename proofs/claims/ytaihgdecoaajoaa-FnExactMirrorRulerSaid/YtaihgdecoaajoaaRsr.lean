/-
  The model's search for complete and sparse rulers, by its contract. Condition: a list that a ruler may begin with, a length of at most 20.
-/
import Derived.Test.YtaihgdecoaajoaaRse
namespace Go.Proofs.Ytaihgdecoaajoaa
open Go.RowKit

theorem Ow.sp_ne {w : World} {B : Nat} {v : Value} {ys : List Int} (h : Ow w B v ys) (hn : ys ≠ []) : Sp w v ys := by
  rcases h.form with ⟨_, rfl⟩ | ⟨g, cap, rfl, _, _⟩
  · exact absurd rfl hn
  · exact h.sp (b := g) rfl
theorem Ow.srcR {w : World} {B : Nat} {v : Value} {ys : List Int} (h : Ow w B v ys) (hn : ys ≠ []) : Src w v ys := (h.sp_ne hn).src
theorem ow_nilR (w : World) (B : Nat) : Ow w B (.slice none 0 0) [] := World.ownsRow_nil _ _ _ _
theorem ret_li {a b : Value} {c d : Int} (h : a = b) (g : c = d) : Ending.returned (.tuple #[a, .int .i64 c]) = .returned (.tuple #[b, .int .i64 d]) := by rw [h, g]
def RsOk (c : Bool) (len d : Nat) : Prop :=
  ∀ (ms : List Int) (v : Value) (w : World) (C : Nat), Ow w C v ms → C ≤ w.heap.size → Beg ms len →
    Calls Try.prog 88 #[v, .int .i64 len, .int .i64 d, .bool c] w fun e w' => ∃ u, e = .returned (.tuple #[u, .int .i64 (rs c len d ms).2]) ∧ Ow w' C u (rs c len d ms).1 ∧ Below w.heap.size w w'

set_option maxHeartbeats 4000000 in
set_option maxRecDepth 20000 in
theorem rs_zero_true (len : Nat) : RsOk true len 0 := by
  intro ms v w C h hC hB
  have RW := Lib.hid (hB.rul (n := (len : Int)) hB.lt (by have := hB.le; omega))
  have hs := hB.short
  have SRC := Lib.hid (h.srcR (fun e => by have := hB.one; rw [e] at this; simp at this))
  have hle := hB.le
  clear h hB
  by_cases hk : (wiK (ms ++ [(len : Int)]) false ((lastM (ms ++ [(len : Int)])).toNat + 1)).length = 0
  · have R : Hid (rs true len 0 ms = (ms ++ [(len : Int)], 1)) := Lib.hid (by rw [rs, if_pos (by unfold okR; rw [if_pos rfl]; simpa using hk)])
    rw [R.out]
    go_enter Try.func88, Try.ntmps88
    go_wp2_with fail
    refine (l1Own_any _ ms _ SRC.out (by omega)).mono ?_
    rintro e w1 ⟨u1, rfl, o1, b1⟩
    have z1 := b1.size
    go_wp2_with (at_builtin; refine wpList_append_src rfl _ _ rfl w.heap.size _ ms rfl (o1.alloc _) _ [(len : Int)] rfl (src_one _ _) (by simp only [List.length_cons, List.length_nil]; omega) (by simp; omega) ?_; intro v2 w2 h2 g2)
    have b2 := (b1.alloc z1 _).trans ((o1.alloc _).grown (by simp; omega) g2)
    have sp2 := h2.sp_ne (by simp)
    clear o1 g2 b1
    go_wp2_with fail
    refine (ruWith_false v2 (ms ++ [(len : Int)]) _ sp2 RW.out).mono ?_
    rintro e w3 ⟨u3, rfl, o3, b3⟩
    have b4 := nxt b2 b3
    have h4 := h2.below b3 (Nat.le_refl _)
    have e3 := List.length_eq_zero_iff.1 hk
    rw [e3] at o3
    rcases o3.form with ⟨rfl, _⟩ | ⟨g, cp, rfl, _, _⟩
    · clear o3 h2 b2 b3
      go_wp2_with fail
      go_ret2
      exact ⟨_, rfl, h4.mono hC, b4⟩
    · clear o3 h2 b2 b3
      go_wp2_with fail
      go_ret2
      exact ⟨_, rfl, h4.mono hC, b4⟩
  · have R : Hid (rs true len 0 ms = ([], 0)) := Lib.hid (by rw [rs, if_neg (by unfold okR; rw [if_pos rfl]; simpa using hk)])
    rw [R.out]
    go_enter Try.func88, Try.ntmps88
    go_wp2_with fail
    refine (l1Own_any _ ms _ SRC.out (by omega)).mono ?_
    rintro e w1 ⟨u1, rfl, o1, b1⟩
    have z1 := b1.size
    go_wp2_with (at_builtin; refine wpList_append_src rfl _ _ rfl w.heap.size _ ms rfl (o1.alloc _) _ [(len : Int)] rfl (src_one _ _) (by simp only [List.length_cons, List.length_nil]; omega) (by simp; omega) ?_; intro v2 w2 h2 g2)
    have b2 := (b1.alloc z1 _).trans ((o1.alloc _).grown (by simp; omega) g2)
    have sp2 := h2.sp_ne (by simp)
    clear o1 g2 b1
    go_wp2_with fail
    refine (ruWith_false v2 (ms ++ [(len : Int)]) _ sp2 RW.out).mono ?_
    rintro e w3 ⟨u3, rfl, o3, b3⟩
    have b4 := nxt b2 b3
    obtain ⟨q, hq⟩ : ∃ q, (wiK (ms ++ [(len : Int)]) false ((lastM (ms ++ [(len : Int)])).toNat + 1)).length = q := ⟨_, rfl⟩
    rcases o3.form with ⟨_, e3⟩ | ⟨g, cp, rfl, _, _⟩
    · exact absurd (by rw [e3]; rfl) hk
    · rw [hq] at hk ⊢
      have dq : decide ((0 : Int) < (q : Int)) = true := by rw [decide_eq_true_eq]; omega
      clear o3 h2 b2 b3 hq
      go_wp2_with fail
      go_ret2
      exact ⟨_, rfl, ow_nilR _ _, b4⟩

set_option maxHeartbeats 4000000 in
set_option maxRecDepth 20000 in
theorem rs_zero_false (len : Nat) : RsOk false len 0 := by
  intro ms v w C h hC hB
  have RW := Lib.hid (hB.rul (n := (len : Int)) hB.lt (by have := hB.le; omega))
  have hs := hB.short
  have SRC := Lib.hid (h.srcR (fun e => by have := hB.one; rw [e] at this; simp at this))
  have hle := hB.le
  clear h hB
  by_cases hk : spB (ms ++ [(len : Int)]) = true
  · skip
    have R : Hid (rs false len 0 ms = (ms ++ [(len : Int)], 1)) := Lib.hid (by rw [rs]; unfold okR; simp [hk])
    rw [R.out]
    go_enter Try.func88, Try.ntmps88
    go_wp2_with fail
    refine (l1Own_any _ ms _ SRC.out (by omega)).mono ?_
    rintro e w1 ⟨u1, rfl, o1, b1⟩
    have z1 := b1.size
    go_wp2_with (at_builtin; refine wpList_append_src rfl _ _ rfl w.heap.size _ ms rfl (o1.alloc _) _ [(len : Int)] rfl (src_one _ _) (by simp only [List.length_cons, List.length_nil]; omega) (by simp; omega) ?_; intro v2 w2 h2 g2)
    have b2 := (b1.alloc z1 _).trans ((o1.alloc _).grown (by simp; omega) g2)
    have sp2 := h2.sp_ne (by simp)
    clear o1 g2 b1
    go_wp2_with fail
    refine (ruSparse_any v2 (ms ++ [(len : Int)]) _ sp2 RW.out).mono ?_
    rw [hk]
    rintro e w3 ⟨rfl, b3⟩
    have b4 := nxt b2 b3
    have h4 := h2.below b3 (Nat.le_refl _)
    clear h2 b2 b3
    go_wp2_with fail
    go_ret2
    exact ⟨_, rfl, h4.mono hC, b4⟩
  · have hk : spB (ms ++ [(len : Int)]) = false := by simpa using hk
    have R : Hid (rs false len 0 ms = ([], 0)) := Lib.hid (by rw [rs]; unfold okR; simp [hk])
    rw [R.out]
    go_enter Try.func88, Try.ntmps88
    go_wp2_with fail
    refine (l1Own_any _ ms _ SRC.out (by omega)).mono ?_
    rintro e w1 ⟨u1, rfl, o1, b1⟩
    have z1 := b1.size
    go_wp2_with (at_builtin; refine wpList_append_src rfl _ _ rfl w.heap.size _ ms rfl (o1.alloc _) _ [(len : Int)] rfl (src_one _ _) (by simp only [List.length_cons, List.length_nil]; omega) (by simp; omega) ?_; intro v2 w2 h2 g2)
    have b2 := (b1.alloc z1 _).trans ((o1.alloc _).grown (by simp; omega) g2)
    have sp2 := h2.sp_ne (by simp)
    clear o1 g2 b1
    go_wp2_with fail
    refine (ruSparse_any v2 (ms ++ [(len : Int)]) _ sp2 RW.out).mono ?_
    rw [hk]
    rintro e w3 ⟨rfl, b3⟩
    have b4 := nxt b2 b3
    skip
    clear h2 b2 b3
    go_wp2_with fail
    go_ret2
    exact ⟨_, rfl, ow_nilR _ _, b4⟩

set_option maxHeartbeats 8000000 in
set_option maxRecDepth 20000 in
theorem rs_step_true (len d : Nat) (hd : d ≤ 19) (ih : RsOk true len d) : RsOk true len (d + 1) := by
  intro ms v w C h hC hB
  have hlt := hB.lt
  have hle := hB.le
  have hsh := hB.short
  have h0 := hB.last0
  have h1 := hB.one
  have HB := Lib.hid hB
  have IH := Lib.hid ih
  have HS := Lib.hid h.sv
  have SRC := Lib.hid (h.srcR (fun e => by have := hB.one; rw [e] at this; simp at this))
  obtain ⟨p, cap, rfl, hx⟩ := h.sv
  obtain ⟨b, off, rfl, hbl, hc⟩ := hx (by omega)
  obtain ⟨m, hm⟩ : ∃ m, ms.length = m + 1 := ⟨ms.length - 1, by omega⟩
  have hcell0 : w.cell? ⟨b, off + m, none⟩ = some (.int .i64 (lastM ms)) := by
    have := hc m (by omega)
    rw [this]; unfold lastM; rw [hm]; rfl
  obtain ⟨l, el⟩ : ∃ l : Nat, lastM ms = l := ⟨(lastM ms).toNat, by omega⟩
  have TT : Hid (rsG (rs true len d) true ms (len - d - (l + 1)) (l + 1) ([], 0) = rs true len (d + 1) ms) := Lib.hid (by rw [rs, el]; rfl)
  have HL := Lib.hid el
  rw [el] at hcell0 hlt h0
  have OW : ∀ W, Below w.heap.size w W → Hid (Calls Try.prog 91 #[.slice (some ⟨b, off, none⟩) ms.length cap] W fun e w' => ∃ u, e = .returned u ∧ Ow w' W.heap.size u ms ∧ Below W.heap.size W w') := fun W hB2 => Lib.hid (l1Own_any _ ms W (SRC.out.below hB2 (Nat.le_refl _)) (by omega))
  obtain ⟨T, eT⟩ : ∃ T, rs true len (d + 1) ms = T := ⟨_, rfl⟩
  rw [eT] at TT ⊢
  have HM := Lib.hid hm
  have hm20 : m + 1 ≤ 20 := by omega
  have hms : ms.length ≤ 20 := hsh
  rw [hm] at OW ⊢
  have dd : ((d : Int) + 1 == 0) = false := by rw [beq_eq_false_iff_ne]; omega
  clear hc hx el eT ih h hB HS
  rw [show ((d + 1 : Nat) : Int) = (d : Int) + 1 by omega]
  have hdl : d ≤ 20 := by omega
  go_enter Try.func88, Try.ntmps88
  go_wp2
  go_loopw [11, 12, 13] (fun x z i wr => ∃ (k : Nat) (L : List Int) (cnt : Int), i = .int .i64 k ∧ z = .int .i64 cnt ∧ l + 1 ≤ k ∧ k ≤ 21 ∧ 0 ≤ cnt ∧ cnt ≤ 1048576 * k ∧ Hid (rsG (rs true len d) true ms (len - d - k) k (L, cnt) = T) ∧ Ow wr C x L ∧ Below w.heap.size w wr) (fun _ _ i _ => 22 - (intOf i).toNat)
  case atStart => exact ⟨l + 1, [], 0, by go_num, rfl, by omega, by omega, by omega, by omega, TT, ow_nilR _ _, Below.refl _ _⟩
  case round =>
    obtain ⟨k, L, cnt, rfl, rfl, hk1, hk2, hc0, hc1, HK, ho, hb⟩ := hrel
    obtain ⟨V, rfl⟩ : ∃ V, V = wr := ⟨wr, rfl⟩
    have hzV := hb.size
    by_cases hkX : k + (d + 1) ≤ len
    · have dkx : decide ((k : Int) + ((d : Int) + 1) ≤ (len : Int)) = true := by rw [decide_eq_true_eq]; omega
      have PB := HB.out.push (n := (k : Int)) (by rw [HL.out]; omega) (by omega)
      have HR := Lib.hid (HB.out.rul (n := (k : Int)) (by rw [HL.out]; omega) (by omega))
      have hsm := rs_small (c := true) (d := d) PB
      have RR := fun W v hv hC => Lib.hid (IH.out (ms ++ [(k : Int)]) v W V.heap.size hv hC PB)
      obtain ⟨f, hf⟩ : ∃ f, len - d - k = f + 1 := ⟨len - d - k - 1, by omega⟩
      have hf2 : len - d - (k + 1) = f := by omega
      have E := HK.out
      rw [hf, rsG] at E
      clear HK hf PB
      go_wp2_with fail
      refine (OW _ hb).out.mono ?_
      rintro e w3 ⟨u, rfl, o3, b3⟩
      have z3 := b3.size
      go_wp2_with (at_builtin; refine wpList_append_src rfl _ _ rfl V.heap.size _ ms rfl (o3.alloc _) _ [(k : Int)] rfl (src_one _ _) (by simp only [List.length_cons, List.length_nil]; omega) (by simp; omega) ?_; intro v' w4 h4 g4)
      have hb4 := (b3.alloc z3 _).trans ((o3.alloc _).grown (by simp; omega) g4)
      clear o3 g4 b3
      have hEQ : (if true = false ∧ spB (ms ++ [(k : Int)]) = false then (L, cnt) else rsS (L, cnt) (rs true len d (ms ++ [(k : Int)]))) = rsS (L, cnt) (rs true len d (ms ++ [(k : Int)])) := by simp
      rw [hEQ] at E
      obtain ⟨⟨L2, n2⟩, eF⟩ : ∃ F, rs true len d (ms ++ [(k : Int)]) = F := ⟨_, rfl⟩
      rw [eF] at E RR hsm
      simp only at hsm RR
      go_wp2_with fail
      refine (RR _ _ h4 hb4.size).out.mono ?_
      rintro e w5 ⟨u5, rfl, o5, b5⟩
      have hb5 := nxt hb4 b5
      have o5 := o5.mono (Nat.le_trans hC hzV)
      have ho5 := ho.below hb5 (Nat.le_refl _)
      have hbw := nxt hb hb5
      clear h4 b5 hb4 RR hb5 ho hb
      by_cases hc : cnt = 0
      · subst hc
        rw [show rsS (L, 0) (L2, n2) = (L2, n2) by simp [rsS]] at E
        have HE2 := Lib.hid E
        clear E
        go_wp2_with fail
        go_roundw
        case rel => exact ⟨k + 1, L2, n2, by go_num, by go_num, by omega, by omega, by omega, by omega, Lib.hid (by rw [hf2]; exact HE2.out), o5, hbw⟩
        case measure => simp [intOf]; omega
      · have d0 : (cnt == 0) = false := by simpa using hc
        rw [show rsS (L, cnt) (L2, n2) = (L, cnt + n2) by simp [rsS, hc]] at E
        have HE2 := Lib.hid E
        clear E
        go_wp2_with fail
        go_roundw
        case rel => exact ⟨k + 1, L, cnt + n2, by go_num, rfl, by omega, by omega, by omega, by omega, Lib.hid (by rw [hf2]; exact HE2.out), ho5, hbw⟩
        case measure => simp [intOf]; omega
    · have E := HK.out
      rw [show len - d - k = 0 by omega, rsG] at E
      have dkx : decide ((k : Int) + ((d : Int) + 1) ≤ (len : Int)) = false := by simp; omega
      subst E
      clear HK TT
      go_wp2_with fail
      go_ret2
      exact ⟨_, rfl, ho, hb⟩

set_option maxHeartbeats 8000000 in
set_option maxRecDepth 20000 in
theorem rs_step_false (len d : Nat) (hd : d ≤ 19) (ih : RsOk false len d) : RsOk false len (d + 1) := by
  intro ms v w C h hC hB
  have hlt := hB.lt
  have hle := hB.le
  have hsh := hB.short
  have h0 := hB.last0
  have h1 := hB.one
  have HB := Lib.hid hB
  have IH := Lib.hid ih
  have HS := Lib.hid h.sv
  have SRC := Lib.hid (h.srcR (fun e => by have := hB.one; rw [e] at this; simp at this))
  obtain ⟨p, cap, rfl, hx⟩ := h.sv
  obtain ⟨b, off, rfl, hbl, hc⟩ := hx (by omega)
  obtain ⟨m, hm⟩ : ∃ m, ms.length = m + 1 := ⟨ms.length - 1, by omega⟩
  have hcell0 : w.cell? ⟨b, off + m, none⟩ = some (.int .i64 (lastM ms)) := by
    have := hc m (by omega)
    rw [this]; unfold lastM; rw [hm]; rfl
  obtain ⟨l, el⟩ : ∃ l : Nat, lastM ms = l := ⟨(lastM ms).toNat, by omega⟩
  have TT : Hid (rsG (rs false len d) false ms (len - d - (l + 1)) (l + 1) ([], 0) = rs false len (d + 1) ms) := Lib.hid (by rw [rs, el]; rfl)
  have HL := Lib.hid el
  rw [el] at hcell0 hlt h0
  have OW : ∀ W, Below w.heap.size w W → Hid (Calls Try.prog 91 #[.slice (some ⟨b, off, none⟩) ms.length cap] W fun e w' => ∃ u, e = .returned u ∧ Ow w' W.heap.size u ms ∧ Below W.heap.size W w') := fun W hB2 => Lib.hid (l1Own_any _ ms W (SRC.out.below hB2 (Nat.le_refl _)) (by omega))
  obtain ⟨T, eT⟩ : ∃ T, rs false len (d + 1) ms = T := ⟨_, rfl⟩
  rw [eT] at TT ⊢
  have HM := Lib.hid hm
  have hm20 : m + 1 ≤ 20 := by omega
  have hms : ms.length ≤ 20 := hsh
  rw [hm] at OW ⊢
  have dd : ((d : Int) + 1 == 0) = false := by rw [beq_eq_false_iff_ne]; omega
  clear hc hx el eT ih h hB HS
  rw [show ((d + 1 : Nat) : Int) = (d : Int) + 1 by omega]
  have hdl : d ≤ 20 := by omega
  go_enter Try.func88, Try.ntmps88
  go_wp2
  go_loopw [11, 12, 13] (fun x z i wr => ∃ (k : Nat) (L : List Int) (cnt : Int), i = .int .i64 k ∧ z = .int .i64 cnt ∧ l + 1 ≤ k ∧ k ≤ 21 ∧ 0 ≤ cnt ∧ cnt ≤ 1048576 * k ∧ Hid (rsG (rs false len d) false ms (len - d - k) k (L, cnt) = T) ∧ Ow wr C x L ∧ Below w.heap.size w wr) (fun _ _ i _ => 22 - (intOf i).toNat)
  case atStart => exact ⟨l + 1, [], 0, by go_num, rfl, by omega, by omega, by omega, by omega, TT, ow_nilR _ _, Below.refl _ _⟩
  case round =>
    obtain ⟨k, L, cnt, rfl, rfl, hk1, hk2, hc0, hc1, HK, ho, hb⟩ := hrel
    obtain ⟨V, rfl⟩ : ∃ V, V = wr := ⟨wr, rfl⟩
    have hzV := hb.size
    by_cases hkX : k + (d + 1) ≤ len
    · have dkx : decide ((k : Int) + ((d : Int) + 1) ≤ (len : Int)) = true := by rw [decide_eq_true_eq]; omega
      have PB := HB.out.push (n := (k : Int)) (by rw [HL.out]; omega) (by omega)
      have HR := Lib.hid (HB.out.rul (n := (k : Int)) (by rw [HL.out]; omega) (by omega))
      have hsm := rs_small (c := false) (d := d) PB
      have RR := fun W v hv hC => Lib.hid (IH.out (ms ++ [(k : Int)]) v W V.heap.size hv hC PB)
      obtain ⟨f, hf⟩ : ∃ f, len - d - k = f + 1 := ⟨len - d - k - 1, by omega⟩
      have hf2 : len - d - (k + 1) = f := by omega
      have E := HK.out
      rw [hf, rsG] at E
      clear HK hf PB
      go_wp2_with fail
      refine (OW _ hb).out.mono ?_
      rintro e w3 ⟨u, rfl, o3, b3⟩
      have z3 := b3.size
      go_wp2_with (at_builtin; refine wpList_append_src rfl _ _ rfl V.heap.size _ ms rfl (o3.alloc _) _ [(k : Int)] rfl (src_one _ _) (by simp only [List.length_cons, List.length_nil]; omega) (by simp; omega) ?_; intro v' w4 h4 g4)
      have hb4 := (b3.alloc z3 _).trans ((o3.alloc _).grown (by simp; omega) g4)
      clear o3 g4 b3
      by_cases hk : spB (ms ++ [(k : Int)]) = true
      · have hEQ : (if false = false ∧ spB (ms ++ [(k : Int)]) = false then (L, cnt) else rsS (L, cnt) (rs false len d (ms ++ [(k : Int)]))) = rsS (L, cnt) (rs false len d (ms ++ [(k : Int)])) := by simp [hk]
        go_wp2_with fail
        refine (ruSparse_any v' (ms ++ [(k : Int)]) _ (h4.sp_ne (by simp)) HR.out).mono ?_
        rw [hk]
        rintro e w4b ⟨rfl, b4⟩
        have h4 := h4.below b4 (Nat.le_refl _)
        have hb4 := nxt hb4 b4
        clear b4
        rw [hEQ] at E
        obtain ⟨⟨L2, n2⟩, eF⟩ : ∃ F, rs false len d (ms ++ [(k : Int)]) = F := ⟨_, rfl⟩
        rw [eF] at E RR hsm
        simp only at hsm RR
        go_wp2_with fail
        refine (RR _ _ h4 hb4.size).out.mono ?_
        rintro e w5 ⟨u5, rfl, o5, b5⟩
        have hb5 := nxt hb4 b5
        have o5 := o5.mono (Nat.le_trans hC hzV)
        have ho5 := ho.below hb5 (Nat.le_refl _)
        have hbw := nxt hb hb5
        clear h4 b5 hb4 RR hb5 ho hb
        by_cases hc : cnt = 0
        · subst hc
          rw [show rsS (L, 0) (L2, n2) = (L2, n2) by simp [rsS]] at E
          have HE2 := Lib.hid E
          clear E
          go_wp2_with fail
          go_roundw
          case rel => exact ⟨k + 1, L2, n2, by go_num, by go_num, by omega, by omega, by omega, by omega, Lib.hid (by rw [hf2]; exact HE2.out), o5, hbw⟩
          case measure => simp [intOf]; omega
        · have d0 : (cnt == 0) = false := by simpa using hc
          rw [show rsS (L, cnt) (L2, n2) = (L, cnt + n2) by simp [rsS, hc]] at E
          have HE2 := Lib.hid E
          clear E
          go_wp2_with fail
          go_roundw
          case rel => exact ⟨k + 1, L, cnt + n2, by go_num, rfl, by omega, by omega, by omega, by omega, Lib.hid (by rw [hf2]; exact HE2.out), ho5, hbw⟩
          case measure => simp [intOf]; omega
      · have hk : spB (ms ++ [(k : Int)]) = false := by simpa using hk
        rw [if_pos ⟨trivial, hk⟩] at E
        have HE2 := Lib.hid E
        clear E
        go_wp2_with fail
        refine (ruSparse_any v' (ms ++ [(k : Int)]) _ (h4.sp_ne (by simp)) HR.out).mono ?_
        rw [hk]
        rintro e w4b ⟨rfl, b4⟩
        have hb4 := nxt hb4 b4
        have ho5 := ho.below hb4 (Nat.le_refl _)
        have hbw := nxt hb hb4
        clear b4 h4 hb4 ho hb RR
        go_wp2_with fail
        go_roundw
        case rel => exact ⟨k + 1, L, cnt, by go_num, rfl, by omega, by omega, by omega, by omega, Lib.hid (by rw [hf2]; exact HE2.out), ho5, hbw⟩
        case measure => simp [intOf]; omega
    · have E := HK.out
      rw [show len - d - k = 0 by omega, rsG] at E
      have dkx : decide ((k : Int) + ((d : Int) + 1) ≤ (len : Int)) = false := by simp; omega
      subst E
      clear HK TT
      go_wp2_with fail
      go_ret2
      exact ⟨_, rfl, ho, hb⟩

theorem rs_any (c : Bool) (len : Nat) : ∀ d, d ≤ 20 → RsOk c len d := by
  intro d
  induction d with
  | zero => intro _; cases c; exact rs_zero_false len; exact rs_zero_true len
  | succ d ih =>
    intro hd
    have ih := ih (by omega)
    cases c
    · exact rs_step_false len d (by omega) ih
    · exact rs_step_true len d (by omega) ih
end Go.Proofs.Ytaihgdecoaajoaa
