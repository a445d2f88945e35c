/-
  PutPiece in the model and in the program, by their contracts: both give the same pieces. Conditions: none but a slice that isn't nil (the law copies what comes in).
-/
import Derived.Test.YtpijogajjinedaaPut
namespace Go.Proofs.Ytpijogajjinedaa
open Go.RowKit

theorem concat3_any (b : Nat) (v1 v2 v3 : Value) (x1 x2 x3 : List Int) (w : World) (hh : w.heap[b]? = some (.cells #[v1, v2, v3] 22)) (h1 : Src w v1 x1) (h2 : Src w v2 x2) (h3 : Src w v3 x3)
    (l1 : x1.length ≤ 1048576) (l2 : x2.length ≤ 1048576) (l3 : x3.length ≤ 1048576) :
    Calls Try.prog 77 #[.slice (some ⟨b, 0, none⟩) 3 3] w fun e w' => ∃ u, e = .returned u ∧ Ow w' w.heap.size u (x1 ++ x2 ++ x3) ∧ Below w.heap.size w w' := by
  refine (concat_any b [(v1, x1), (v2, x2), (v3, x3)] w (Array.getElem?_eq_some_iff.1 hh).1 (by simp) ?_ ?_ ?_).mono ?_
  · intro j q hq
    match j, hq with
    | 0, hq => simp at hq; subst hq; simp [World.cell?, hh]
    | 1, hq => simp at hq; subst hq; simp [World.cell?, hh]
    | 2, hq => simp at hq; subst hq; simp [World.cell?, hh]
  · intro j q hq
    match j, hq with
    | 0, hq => simp at hq; subst hq; exact h1
    | 1, hq => simp at hq; subst hq; exact h2
    | 2, hq => simp at hq; subst hq; exact h3
  · intro j q hq
    match j, hq with
    | 0, hq => simp at hq; subst hq; exact l1
    | 1, hq => simp at hq; subst hq; exact l2
    | 2, hq => simp at hq; subst hq; exact l3
  · rintro e w' ⟨u, he, ho, hb⟩
    exact ⟨u, he, by simpa [catTo] using ho, hb⟩
theorem concat2_any (b : Nat) (v1 v2 : Value) (x1 x2 : List Int) (w : World) (hh : w.heap[b]? = some (.cells #[v1, v2] 22)) (h1 : Src w v1 x1) (h2 : Src w v2 x2)
    (l1 : x1.length ≤ 1048576) (l2 : x2.length ≤ 1048576) :
    Calls Try.prog 77 #[.slice (some ⟨b, 0, none⟩) 2 2] w fun e w' => ∃ u, e = .returned u ∧ Ow w' w.heap.size u (x1 ++ x2) ∧ Below w.heap.size w w' := by
  refine (concat_any b [(v1, x1), (v2, x2)] w (Array.getElem?_eq_some_iff.1 hh).1 (by simp) ?_ ?_ ?_).mono ?_
  · intro j q hq
    match j, hq with
    | 0, hq => simp at hq; subst hq; simp [World.cell?, hh]
    | 1, hq => simp at hq; subst hq; simp [World.cell?, hh]
  · intro j q hq
    match j, hq with
    | 0, hq => simp at hq; subst hq; exact h1
    | 1, hq => simp at hq; subst hq; exact h2
  · intro j q hq
    match j, hq with
    | 0, hq => simp at hq; subst hq; exact l1
    | 1, hq => simp at hq; subst hq; exact l2
  · rintro e w' ⟨u, he, ho, hb⟩
    exact ⟨u, he, by simpa [catTo] using ho, hb⟩

theorem ow_nil (w : World) (B : Nat) : Ow w B (.slice none 0 0) [] := World.ownsRow_nil _ _ _ _
theorem ret_lb {u v : Value} {c d : Bool} (h : u = v) (g : c = d) : Ending.returned (.tuple #[u, .bool c]) = .returned (.tuple #[v, .bool d]) := by rw [h, g]

theorem putB_no {xs : List Int} {n : Int} (h : goodB xs = false) : putB xs n = false ∧ putR xs n = [] := by
  have e : putB xs n = false := by simp [putB, h]
  exact ⟨e, by simp [putR, e]⟩
theorem putB_out {xs : List Int} {n : Int} (h : inB n 1 10000 = false) : putB xs n = false ∧ putR xs n = [] := by
  have e : putB xs n = false := by simp [putB, h]
  exact ⟨e, by simp [putR, e]⟩
theorem putB_full {xs : List Int} {n : Int} (h : xs.length = 20) : putB xs n = false ∧ putR xs n = [] := by
  have e : putB xs n = false := by simp [putB, h]
  exact ⟨e, by simp [putR, e]⟩
theorem putB_yes {xs : List Int} {n : Int} (hg : goodB xs = true) (hi : inB n 1 10000 = true) (h : xs.length ≠ 20) : putB xs n = true ∧ putR xs n = putL xs n := by
  have e : putB xs n = true := by simp [putB, h, hg, hi]
  exact ⟨e, by simp [putR, e]⟩

set_option maxHeartbeats 4000000 in
set_option maxRecDepth 100000 in
theorem specPutPiece_any (v : Value) (xs : List Int) (n : Int) (w : World) (h : Sp w v xs) (hl : xs.length ≤ 1099511627776) :
    Calls Try.prog 43 #[v, .int .i64 n] w fun e w' => ∃ u, e = .returned (.tuple #[u, .bool (putB xs n)]) ∧ Ow w' w.heap.size u (putR xs n) ∧ Below w.heap.size w w' := by
  have hsp := h
  have hs := h.sv
  obtain ⟨b0, off0, cap, rfl, _, _, _, _⟩ := h
  by_cases hg : Good xs
  · have hgb := goodB_yes hg
    by_cases hi : inB n 1 10000 = true
    · by_cases h20 : xs.length = 20
      · have HR := Lib.hid (putB_full (n := n) h20)
        have q20 : ((xs.length : Int) == 20) = true := by simp; omega
        have H20 := Lib.hid h20
        clear h20
        go_enter Try.func43, Try.ntmps43
        go_wp2_with fail
        refine (piGood_any _ _ _ hs hl).mono ?_
        rintro e w1 ⟨rfl, b1⟩
        go_wp2_with fail
        refine (l1In_any _ _ _ _).mono ?_
        rintro e w1' ⟨rfl, rfl⟩
        go_wp2_with fail
        go_ret2
        exact ⟨_, ret_lb rfl HR.out.1.symm, by rw [HR.out.2]; exact ow_nil _ _, b1⟩
      have HR := Lib.hid (putB_yes hgb hi h20)
      have q20 : ((xs.length : Int) == 20) = false := by simp; omega
      have hl20 := hg.len
      clear h20
      go_enter Try.func43, Try.ntmps43
      go_wp2_with fail
      refine (piGood_any _ _ _ hs hl).mono ?_
      rintro e w1 ⟨rfl, b1⟩
      have h1 := hsp.below b1 (Nat.le_refl _)
      go_wp2_with fail
      refine (l1In_any _ _ _ _).mono ?_
      rintro e w1' ⟨rfl, rfl⟩
      go_wp2_with fail
      refine (piPut_any _ _ _ _ h1 hg).mono ?_
      rintro e w2 ⟨u, rfl, o2, b2⟩
      go_wp2_with fail
      go_ret2
      exact ⟨_, ret_lb rfl HR.out.1.symm, by rw [HR.out.2]; exact o2.mono b1.size, nxt b1 b2⟩
    · have hi : inB n 1 10000 = false := by simpa using hi
      have HR := Lib.hid (putB_out (xs := xs) hi)
      go_enter Try.func43, Try.ntmps43
      go_wp2_with fail
      refine (piGood_any _ _ _ hs hl).mono ?_
      rintro e w1 ⟨rfl, b1⟩
      go_wp2_with fail
      refine (l1In_any _ _ _ _).mono ?_
      rintro e w1' ⟨rfl, rfl⟩
      go_wp2_with fail
      go_ret2
      exact ⟨_, ret_lb rfl HR.out.1.symm, by rw [HR.out.2]; exact ow_nil _ _, b1⟩
  · have hgb := goodB_no hg
    have HR := Lib.hid (putB_no (n := n) hgb)
    go_enter Try.func43, Try.ntmps43
    go_wp2_with fail
    refine (piGood_any _ _ _ hs hl).mono ?_
    rintro e w1 ⟨rfl, b1⟩
    go_wp2_with fail
    go_ret2
    exact ⟨_, ret_lb rfl HR.out.1.symm, by rw [HR.out.2]; exact ow_nil _ _, b1⟩

set_option maxHeartbeats 4000000 in
set_option maxRecDepth 100000 in
theorem implPutPiece_any (v : Value) (xs : List Int) (n : Int) (w : World) (h : Sp w v xs) (hl : xs.length ≤ 1099511627776) :
    Calls Try.prog 44 #[v, .int .i64 n] w fun e w' => ∃ u, e = .returned (.tuple #[u, .bool (putB xs n)]) ∧ Ow w' w.heap.size u (putR xs n) ∧ Below w.heap.size w w' := by
  have hsp := h
  have hs := h.sv
  obtain ⟨b0, off0, cap, rfl, _, _, _, _⟩ := h
  by_cases hg : Good xs
  · have hgb := goodB_yes hg
    by_cases hi : inB n 1 10000 = true
    · by_cases h20 : xs.length = 20
      · have HR := Lib.hid (putB_full (n := n) h20)
        have q20 : ((xs.length : Int) == 20) = true := by simp; omega
        have H20 := Lib.hid h20
        clear h20
        go_enter Try.func44, Try.ntmps44
        go_wp2_with fail
        refine (arePieces_any _ _ _ hs hl).mono ?_
        rintro e w1 ⟨rfl, b1⟩
        go_wp2_with fail
        refine (isPiece_any _ _).mono ?_
        rintro e w1' ⟨rfl, rfl⟩
        go_wp2_with fail
        go_ret2
        exact ⟨_, ret_lb rfl HR.out.1.symm, by rw [HR.out.2]; exact ow_nil _ _, b1⟩
      have HR := Lib.hid (putB_yes hgb hi h20)
      have q20 : ((xs.length : Int) == 20) = false := by simp; omega
      have hl20 := hg.len
      clear h20
      go_enter Try.func44, Try.ntmps44
      go_wp2_with fail
      refine (arePieces_any _ _ _ hs hl).mono ?_
      rintro e w1 ⟨rfl, b1⟩
      have h1 := hsp.below b1 (Nat.le_refl _)
      go_wp2_with fail
      refine (isPiece_any _ _).mono ?_
      rintro e w1' ⟨rfl, rfl⟩
      go_wp2_with fail
      refine (search_any _ _ _ _ h1.sv hg).mono ?_
      rintro e w1' ⟨k, rfl, hk, rfl⟩
      have PL := Lib.hid (putL_eq hk.cut)
      have hkl := hk.le
      obtain ⟨b, off, cap', hv, hcap, hcm, hbl, hc⟩ := h1
      simp only [Value.slice.injEq, Option.some.injEq, Addr.mk.injEq, and_true, true_and] at hv
      obtain ⟨⟨rfl, rfl⟩, rfl⟩ := hv
      have hcm : cap ≤ 9223372036854775807 := by unfold maxLen at hcm; exact hcm
      have st := src_take (w := w1) (b := b0) (off := off0) (c := cap) hbl hc hkl
      have sd := src_drop (w := w1) (b := b0) (off := off0) (c := cap - k) (k := k) hbl hc
      have hi0 : (0 : Int) ≤ (k : Int) := by omega
      have hi1 : (k : Int) ≤ (cap : Int) := by omega
      have hi2 : (k : Int) ≤ (xs.length : Int) := by omega
      clear hc hk
      have hlist : (xs.take k).length ≤ 1048576 ∧ (xs.drop k).length ≤ 1048576 := by simp only [List.length_take, List.length_drop]; omega
      by_cases hcc : cap = k
      · have sd := src_end (w := w1) (b := b0) (off := off0) (c := 0) (k := k) (xs := xs) hbl (by omega)
        rw [show xs.length - k = 0 by omega] at sd
        subst hcc
        go_wp2
        go_region_with (go_at_call 77; refine (concat3_any _ _ _ _ _ [n] _ _ (by exact blk_b w1 _ _) (by exact st.below (((Below.refl _ w1).alloc (Nat.le_refl _) _).alloc (by simp) _).drew (Nat.le_refl _)) (by exact (src_one w1 n).below ((Below.refl _ _).alloc (Nat.le_refl _) _).drew (Nat.le_refl _)) (by exact sd.below (((Below.refl _ w1).alloc (Nat.le_refl _) _).alloc (by simp) _).drew (Nat.le_refl _)) hlist.1 (by simp) hlist.2).mono ?_; rintro e w3 ⟨u, rfl, o3, b3⟩)
        have b4 : Below w1.heap.size w1 w3 := (((Below.refl _ w1).alloc (Nat.le_refl _) _).alloc (by simp) _).drew.trans (b3.mono (by simp; omega))
        go_wp2
        go_ret2
        exact ⟨_, ret_lb rfl HR.out.1.symm, by rw [HR.out.2, PL.out]; exact o3.mono (by have := b1.size; simp; omega), nxt b1 b4⟩
      · go_wp2
        go_region_with (go_at_call 77; refine (concat3_any _ _ _ _ _ [n] _ _ (by exact blk_b w1 _ _) (by exact st.below (((Below.refl _ w1).alloc (Nat.le_refl _) _).alloc (by simp) _).drew (Nat.le_refl _)) (by exact (src_one w1 n).below ((Below.refl _ _).alloc (Nat.le_refl _) _).drew (Nat.le_refl _)) (by exact sd.below (((Below.refl _ w1).alloc (Nat.le_refl _) _).alloc (by simp) _).drew (Nat.le_refl _)) hlist.1 (by simp) hlist.2).mono ?_; rintro e w3 ⟨u, rfl, o3, b3⟩)
        have b4 : Below w1.heap.size w1 w3 := (((Below.refl _ w1).alloc (Nat.le_refl _) _).alloc (by simp) _).drew.trans (b3.mono (by simp; omega))
        go_wp2
        go_ret2
        exact ⟨_, ret_lb rfl HR.out.1.symm, by rw [HR.out.2, PL.out]; exact o3.mono (by have := b1.size; simp; omega), nxt b1 b4⟩
    · have hi : inB n 1 10000 = false := by simpa using hi
      have HR := Lib.hid (putB_out (xs := xs) hi)
      go_enter Try.func44, Try.ntmps44
      go_wp2_with fail
      refine (arePieces_any _ _ _ hs hl).mono ?_
      rintro e w1 ⟨rfl, b1⟩
      go_wp2_with fail
      refine (isPiece_any _ _).mono ?_
      rintro e w1' ⟨rfl, rfl⟩
      go_wp2_with fail
      go_ret2
      exact ⟨_, ret_lb rfl HR.out.1.symm, by rw [HR.out.2]; exact ow_nil _ _, b1⟩
  · have hgb := goodB_no hg
    have HR := Lib.hid (putB_no (n := n) hgb)
    go_enter Try.func44, Try.ntmps44
    go_wp2_with fail
    refine (arePieces_any _ _ _ hs hl).mono ?_
    rintro e w1 ⟨rfl, b1⟩
    go_wp2_with fail
    go_ret2
    exact ⟨_, ret_lb rfl HR.out.1.symm, by rw [HR.out.2]; exact ow_nil _ _, b1⟩

end Go.Proofs.Ytpijogajjinedaa
