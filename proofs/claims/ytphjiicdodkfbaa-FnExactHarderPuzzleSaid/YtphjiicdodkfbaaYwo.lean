/-
  Clues without one, in the model and in the program, by their contracts. Conditions: at most 1,024 clues; an index of one.
-/
import Derived.Test.YtphjiicdodkfbaaYca
import Derived.Test.YtphjiicdodkfbaaYsl
import Derived.Deep.RegionLaw
import Derived.Deep.RegionHeld3
import Derived.Deep.CutRange
namespace Go.Proofs.Ytphjiicdodkfbaa
open Go.RowKit

theorem ckE (w : World) : Ck (w.alloc (.cells #[] 29)) w.heap.size (.slice (some ⟨w.heap.size, 0, none⟩) 0 0) [] :=
  World.ownsRow_made w #[] 0 (Nat.le_refl _) (by unfold maxLen; omega) rfl

set_option maxHeartbeats 8000000 in
set_option maxRecDepth 20000 in
theorem withoutClue_any (p : Option Addr) (cap k : Nat) (cs : List Cl) (w : World) (h : Cv w (.slice p cs.length cap) cs) (hk : k < cs.length) (hl : cs.length ≤ 1000) :
    Calls Try.prog 86 #[.slice p cs.length cap, .int .i64 (k : Int)] w fun e w' => ∃ u, e = .returned u ∧ Ck w' w.heap.size u (woL cs k) ∧ Below w.heap.size w w' := by
  have HF := h.facts
  obtain ⟨b, off, rfl⟩ : ∃ b off, p = some ⟨b, off, none⟩ := by
    obtain ⟨q, c, e, _, _, hx⟩ := h
    simp only [Value.slice.injEq, true_and] at e
    obtain ⟨rfl, rfl⟩ := e
    obtain ⟨b, off, e, _⟩ := hx (by omega)
    exact ⟨b, off, e⟩
  obtain ⟨hf1, hf2⟩ := HF
  have hcap : cap ≤ 9223372036854775807 := by unfold maxLen at hf2; exact hf2
  have ST := fun (W : World) (hb : Below w.heap.size w W) (c2 : Nat) => Lib.hid ((h.below hb (Nat.le_refl _)).cs_take (c2 := c2) hk)
  have SD := fun (W : World) (hb : Below w.heap.size w W) (c2 : Nat) => Lib.hid ((h.below hb (Nat.le_refl _)).cs_drop (c2 := c2) (l := cs.length - (k + 1)) hk rfl)
  obtain ⟨pt, ite⟩ : ∃ pt, (if cap = k + 1 then some (⟨b, off, none⟩ : Addr) else some ⟨b, off + (k + 1) * 3, none⟩) = pt := ⟨_, rfl⟩
  rw [ite] at SD
  have HT : Hid (cs.take k ++ cs.drop (k + 1) = woL cs k) := Lib.hid rfl
  have L1 : Hid ((cs.take k).length ≤ 1024) := Lib.hid (by rw [List.length_take]; omega)
  have L2 : Hid ((cs.drop (k + 1)).length ≤ 1024) := Lib.hid (by rw [List.length_drop]; omega)
  generalize cs.take k = T1 at *
  generalize cs.drop (k + 1) = T2 at *
  generalize woL cs k = T3 at *
  have HST := Lib.hid ST
  have HSD := Lib.hid SD
  have b1 : (0 : Int) ≤ (k : Int) := by omega
  have b2 : (k : Int) ≤ (cap : Int) := by omega
  have b3 : (0 : Int) ≤ (k : Int) + 1 := by omega
  have b4 : (k : Int) + 1 ≤ (cs.length : Int) := by omega
  have b5 : (cs.length : Int) ≤ (cap : Int) := by omega
  have b6 : (k : Int) ≤ (cs.length : Int) := by omega
  have b7 : ((k : Int) + 1).toNat = k + 1 := by omega
  have wk : IntKind.i64.wrap ((k : Int) + 1) = (k : Int) + 1 := IntWalk.i64_in _ (by omega)
  clear h ST SD hk hl
  go_enter Try.func86, Try.ntmps86
  go_upto_region 1 with (fail)
  go_region_held3 (fun w' => Below w.heap.size w w') ((first | assumption | exact below_drewN (Below.refl _ _) 1 | exact (Below.refl _ w).drew.alloc (by simp) _ | exact ((Below.refl _ w).alloc (Nat.le_refl _) _).drew | exact (below_drewN (Below.refl _ w) 1).alloc (by simp) _ | exact (Below.refl _ w).alloc (Nat.le_refl _) _ | exact SB.out)) ((go_at_call 110; go_loud (refine (concatC2_any w.heap.size (.slice (some ⟨b, off, none⟩) k k) (.slice pt (cs.length - (k + 1)) (cap - (k + 1))) T1 T2 _ (by first | exact heap_alloc_new w.drew _ | exact heap_alloc_new w _) (HST.out _ (by first | exact (Below.refl _ w).drew.alloc (by simp) _ | exact (Below.refl _ w).alloc (Nat.le_refl _) _) k).out (HSD.out _ (by first | exact (Below.refl _ w).drew.alloc (by simp) _ | exact (Below.refl _ w).alloc (Nat.le_refl _) _) _).out L1.out L2.out).mono ?_; rintro e w5 ⟨u5, rfl, o5, b5⟩; have SB : Hid (Below w.heap.size w w5) := Lib.hid (by first | exact ((Below.refl _ w).drew.alloc (by simp) _).trans (b5.mono (by simp)) | exact ((Below.refl _ w).alloc (Nat.le_refl _) _).trans (b5.mono (by simp))); have O5 : Hid (Ck w5 w.heap.size u5 (T1 ++ T2)) := Lib.hid (o5.mono (by simp)); clear o5 b5)))
  all_goals
    go_wp2
    go_ret
    exact ⟨_, rfl, HT.out ▸ O5.out, SB.out⟩

set_option maxHeartbeats 8000000 in
set_option maxRecDepth 20000 in
theorem pzWithout_any (p : Option Addr) (cap k : Nat) (cs : List Cl) (w : World) (h : Cv w (.slice p cs.length cap) cs) (hk : k < cs.length) (hl : cs.length ≤ 1000) :
    Calls Try.prog 84 #[.slice p cs.length cap, .int .i64 (k : Int)] w fun e w' => ∃ u, e = .returned u ∧ Ck w' w.heap.size u (woL cs k) ∧ Below w.heap.size w w' := by
  have HF := h.facts
  obtain ⟨b, off, rfl⟩ : ∃ b off, p = some ⟨b, off, none⟩ := by
    obtain ⟨q, c, e, _, _, hx⟩ := h
    simp only [Value.slice.injEq, true_and] at e
    obtain ⟨rfl, rfl⟩ := e
    obtain ⟨b, off, e, _⟩ := hx (by omega)
    exact ⟨b, off, e⟩
  obtain ⟨hf1, hf2⟩ := HF
  have hcap : cap ≤ 9223372036854775807 := by unfold maxLen at hf2; exact hf2
  have ST := fun (W : World) (hb : Below w.heap.size w W) (c2 : Nat) => Lib.hid ((h.below hb (Nat.le_refl _)).cs_take (c2 := c2) hk)
  have SD := fun (W : World) (hb : Below w.heap.size w W) (c2 : Nat) => Lib.hid ((h.below hb (Nat.le_refl _)).cs_drop (c2 := c2) (l := cs.length - (k + 1)) hk rfl)
  obtain ⟨pt, ite⟩ : ∃ pt, (if cap = k + 1 then some (⟨b, off, none⟩ : Addr) else some ⟨b, off + (k + 1) * 3, none⟩) = pt := ⟨_, rfl⟩
  rw [ite] at SD
  have HT : Hid (cs.take k ++ cs.drop (k + 1) = woL cs k) := Lib.hid rfl
  have L1 : Hid ((cs.take k).length ≤ 1024) := Lib.hid (by rw [List.length_take]; omega)
  have L2 : Hid ((cs.drop (k + 1)).length ≤ 1024) := Lib.hid (by rw [List.length_drop]; omega)
  generalize cs.take k = T1 at *
  generalize cs.drop (k + 1) = T2 at *
  generalize woL cs k = T3 at *
  have HST := Lib.hid ST
  have HSD := Lib.hid SD
  have b1 : (0 : Int) ≤ (k : Int) := by omega
  have b2 : (k : Int) ≤ (cap : Int) := by omega
  have b3 : (0 : Int) ≤ (k : Int) + 1 := by omega
  have b4 : (k : Int) + 1 ≤ (cs.length : Int) := by omega
  have b5 : (cs.length : Int) ≤ (cap : Int) := by omega
  have b6 : (k : Int) ≤ (cs.length : Int) := by omega
  have b7 : ((k : Int) + 1).toNat = k + 1 := by omega
  have wk : IntKind.i64.wrap ((k : Int) + 1) = (k : Int) + 1 := IntWalk.i64_in _ (by omega)
  clear h ST SD hk hl
  go_enter Try.func84, Try.ntmps84
  go_upto_region 1 with (fail)
  go_region_law (first
    | (go_loud (refine step_append_clue rfl (.tmp 5) (.tmp 8) rfl w.heap.size _ [] rfl (by first | exact (ckE w).below ((Below.refl _ _).drew) (Nat.le_refl _) | exact (by simpa using ckE w.drew) | exact ckE w) _ T1 rfl (HST.out _ (by first | exact ((Below.refl _ w).alloc (Nat.le_refl _) _).drew | exact (Below.refl _ w).drew.alloc (by simp) _ | exact (Below.refl _ w).alloc (Nat.le_refl _) _) _).out (by have := L1.out; simp; omega) (by simp) ?_; intro v2 w2 o2 g2; have B2 : Below w.heap.size w w2 := (by first | exact (((Below.refl _ w).alloc (Nat.le_refl _) _).drew).trans (CkGrown ((ckE w).below ((Below.refl _ _).drew) (Nat.le_refl _)) (by simp) g2) | exact ((Below.refl _ w).drew.alloc (by simp) _).trans (CkGrown (by simpa using ckE w.drew) (by simp) g2) | exact ((Below.refl _ w).alloc (Nat.le_refl _) _).trans (CkGrown (ckE w) (by simp) g2))))
    | (refine step_append_clue rfl (.tmp 9) (.tmp 13) rfl w.heap.size _ ([] ++ T1) rfl o2 _ T2 rfl (HSD.out _ B2 _).out (by have := L1.out; have := L2.out; simp; omega) B2.size ?_; intro v3 w3 o3 g3; have B3 : Below w.heap.size w w3 := B2.trans (CkGrown o2 B2.size g3)))
  all_goals
    go_wp2
    go_ret
    exact ⟨_, rfl, HT.out ▸ o3, B3⟩
end Go.Proofs.Ytphjiicdodkfbaa
