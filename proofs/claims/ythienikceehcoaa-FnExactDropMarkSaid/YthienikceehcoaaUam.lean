/-
  AddMark in the model, by its contract. Condition: slices of at most 2^40 numbers.
-/
import Derived.Test.YthienikceehcoaaRsr
import Derived.Test.YthienikceehcoaaUpu
namespace Go.Proofs.Ythienikceehcoaa
open Go.RowKit

theorem srcT {w : World} {b off c k : Nat} {xs : List Int} (hb : b < w.heap.size) (hc : ∀ j, j < xs.length → w.cell? ⟨b, off + j, none⟩ = some (.int .i64 (xs.getD j 0))) (hk : k ≤ xs.length) : Src w (.slice (some ⟨b, off, none⟩) k c) (xs.take k) := by
  have e : (xs.take k).length = k := by simp; omega
  refine .inr ⟨b, off, c, by rw [e], hb, fun j hj => ?_⟩
  rw [hc j (by omega), List.getD_eq_getElem?_getD, List.getD_eq_getElem?_getD, List.getElem?_take, if_pos (by omega)]
theorem srcD {w : World} {b off c k : Nat} {xs : List Int} (hb : b < w.heap.size) (hc : ∀ j, j < xs.length → w.cell? ⟨b, off + j, none⟩ = some (.int .i64 (xs.getD j 0))) : Src w (.slice (some ⟨b, off + k, none⟩) (xs.length - k) c) (xs.drop k) := by
  have e : (xs.drop k).length = xs.length - k := by simp
  refine .inr ⟨b, off + k, c, by rw [e], hb, fun j hj => ?_⟩
  rw [Nat.add_assoc, hc (k + j) (by omega), List.getD_eq_getElem?_getD, List.getD_eq_getElem?_getD, List.getElem?_drop]
set_option maxHeartbeats 4000000 in
set_option maxRecDepth 20000 in
theorem l1Put_any (v : Value) (ms : List Int) (a : Int) (w : World) (h : Sp w v ms) (S : Rul ms) (ha : 0 < a) (hal : a < lastM ms) (hn : ¬ a ∈ ms) :
    Calls Try.prog 26 #[v, .int .i64 a] w fun e w' => ∃ u, e = .returned u ∧ Ow w' w.heap.size u (adL ms a) ∧ Below w.heap.size w w' := by
  have hlb := S.last_bd
  have h61 : ms.length ≤ 61 := hlb.2.2
  have HT := Lib.hid S
  have HNM := Lib.hid hn
  obtain ⟨b, off, cap, rfl, hcap, hcm, hbl, hc⟩ := h
  have HC := Lib.hid hc
  have hcm : cap ≤ 9223372036854775807 := by unfold maxLen at hcm; exact hcm
  have HAL := Lib.hid hal
  clear hc S hn hal
  go_enter Try.func26, Try.ntmps26
  go_wp2
  go_loop [5] (fun x => ∃ k : Nat, k < ms.length ∧ x = .int .i64 k ∧ Hid (∀ j, j < k → ms.getD j 0 < a)) (fun x => ms.length - (intOf x).toNat)
  case atStart => exact ⟨0, by have := HT.out.two; omega, rfl, Lib.hid (fun j hj => by omega)⟩
  case round =>
    obtain ⟨k, hk, rfl, HK⟩ := hrel
    have hcell := HC.out k hk
    have NX : Hid (ms.getD k 0 < a → k + 1 < ms.length) := Lib.hid (fun g => by
      by_cases e : k + 1 = ms.length
      · have e2 : lastM ms = ms.getD k 0 := by unfold lastM; rw [show ms.length - 1 = k by omega]
        have := HAL.out
        omega
      · omega)
    have NE : Hid (¬ ms.getD k 0 = a) := Lib.hid (fun g => HNM.out (g ▸ getD_mem hk))
    have K0 : Hid (¬ ms.getD k 0 < a → 1 ≤ k) := Lib.hid (fun g => by
      by_cases e : k = 0
      · subst e; rw [HT.out.zero] at g; omega
      · omega)
    have AE : Hid (a < ms.getD k 0 → ms.take k ++ [a] ++ ms.drop k = adL ms a) := Lib.hid (fun g => adL_eq HT.out.ris (by omega) (by have := HAL.out; omega) (by omega) HK.out (fun _ => g))
    have ST : Hid (∀ j, j < k + 1 → ms.getD k 0 < a → ms.getD j 0 < a) := Lib.hid (fun j hj g => by
      by_cases e : j = k
      · subst e; exact g
      · exact HK.out j (by omega))
    obtain ⟨x, ex⟩ : ∃ x, ms.getD k 0 = x := ⟨_, rfl⟩
    rw [ex] at hcell NX NE K0 AE ST
    have EX := Lib.hid ex
    clear ex
    by_cases hx : x < a
    · have hk1 := NX.out hx
      go_wp2
      go_round
      case rel => exact ⟨k + 1, hk1, by go_num, Lib.hid (fun j hj => ST.out j hj hx)⟩
      case measure => simp [intOf]; omega
    · have dx : decide (x < a) = false := by simpa using hx
      have hne := NE.out
      have de : (x == a) = false := by simpa using hne
      have hk1 := K0.out hx
      have E := Lib.hid (AE.out (by omega))
      have s1 := Lib.hid (srcT (c := cap) (k := k) hbl HC.out (by omega))
      have s3 := Lib.hid (srcD (c := cap - k) (k := k) hbl HC.out)
      have b0 : Below w.heap.size w (w.alloc (.cells #[] 3)) := (Below.refl _ _).alloc (Nat.le_refl _) _
      have oe := ow_empty w
      have hlt1 : (ms.take k).length = k := by rw [List.length_take]; omega
      have hlt3 : (ms.drop k).length = ms.length - k := by simp
      clear NX NE K0 AE ST HK HNM HAL hne
      go_wp2_with (at_builtin; first
        | (refine wpList_append_src rfl _ _ rfl w.heap.size _ [] rfl oe _ (ms.take k) rfl (s1.out.below b0 (Nat.le_refl _)) (by rw [hlt1]; simp; omega) (by simp) ?_; intro v1 w1 o1 g1; have b1 := b0.trans (oe.grown (by simp) g1); have z1 := b1.size; rw [List.nil_append] at o1; clear g1)
        | (refine wpList_append_src rfl _ _ rfl w.heap.size _ (ms.take k) rfl (o1.alloc _) _ [a] rfl (src_one _ _) (by simp only [List.length_cons, List.length_nil]; omega) (by simp; omega) ?_; intro v2 w2 o2 g2; have b2 := (b1.alloc z1 _).trans ((o1.alloc _).grown (by simp; omega) g2); have z2 := b2.size; clear g2 o1)
        | (refine wpList_append_src rfl _ _ rfl w.heap.size _ (ms.take k ++ [a]) rfl o2 _ (ms.drop k) rfl (s3.out.below b2 (Nat.le_refl _)) (by rw [List.length_append, hlt1, hlt3]; simp; omega) (by omega) ?_; intro v3 w3 o3 g3; have b3 := b2.trans (o2.grown (by omega) g3); clear g3 o2))
      go_ret
      exact ⟨_, rfl, by rw [← E.out]; exact o3, b3⟩

set_option maxHeartbeats 4000000 in
set_option maxRecDepth 20000 in
theorem specAddMark_any (v : Value) (ms : List Int) (a1 : Int) (w : World) (h : Sp w v ms) (hl : ms.length ≤ 1099511627776) :
    Calls Try.prog 13 #[v, .int .i64 a1] w fun e w' => ∃ u, e = .returned (.tuple #[u, .bool (amB ms a1)]) ∧ Ow w' w.heap.size u (amR ms a1) ∧ Below w.heap.size w w' := by
  have HS := Lib.hid h.sv
  have RI := Lib.hid (ruInner_any v ms a1 w h hl)
  by_cases hi : inrB ms a1 = true
  · have R := Lib.hid (show amB ms a1 = !decide (a1 ∈ ms) by simp [amB, hi])
    have hib : Rul ms ∧ 1 ≤ a1 ∧ a1 ≤ lastM ms - 1 := by
      simp only [inrB, Bool.and_eq_true] at hi
      exact ⟨rulB_iff.1 hi.1, inB_iff.1 hi.2⟩
    rw [hi] at RI
    by_cases hm : a1 ∈ ms
    · have R2 := Lib.hid (show amB ms a1 = false by rw [R.out]; simpa using hm)
      have Q := Lib.hid (show amR ms a1 = [] by simp [amR, R2.out])
      have dm : decide (a1 ∈ ms) = true := by simpa using hm
      clear h hm hi
      go_enter Try.func13, Try.ntmps13
      go_wp2_with fail
      refine RI.out.mono ?_
      rintro e w1 ⟨rfl, b1⟩
      go_wp2_with fail
      refine (l1Has_any _ ms _ _ (HS.out.below b1 (Nat.le_refl _)) hl).mono ?_
      rw [dm]
      rintro e w1' ⟨rfl, rfl⟩
      go_wp2_with fail
      go_ret2
      exact ⟨_, ret_lb rfl R2.out.symm, by rw [Q.out]; exact World.ownsRow_nil _ _ _ _, b1⟩
    · have R2 := Lib.hid (show amB ms a1 = true by rw [R.out]; simpa using hm)
      have Q := Lib.hid (show amR ms a1 = adL ms a1 by simp [amR, R2.out])
      have dm : decide (a1 ∈ ms) = false := by simpa using hm
      have PU := fun W (hb : Below w.heap.size w W) => Lib.hid (l1Put_any v ms a1 W (h.below hb (Nat.le_refl _)) hib.1 (by omega) (by omega) hm)
      clear h hm hi hib
      go_enter Try.func13, Try.ntmps13
      go_wp2_with fail
      refine RI.out.mono ?_
      rintro e w1 ⟨rfl, b1⟩
      go_wp2_with fail
      refine (l1Has_any _ ms _ _ (HS.out.below b1 (Nat.le_refl _)) hl).mono ?_
      rw [dm]
      rintro e w1' ⟨rfl, rfl⟩
      go_wp2_with fail
      refine (PU _ b1).out.mono ?_
      rintro e w2 ⟨u, rfl, o, b2⟩
      have o := o.mono b1.size
      go_wp2_with fail
      go_ret2
      exact ⟨_, ret_lb rfl R2.out.symm, by rw [Q.out]; exact o, nxt b1 b2⟩
  · have hi : inrB ms a1 = false := by simpa using hi
    have R2 := Lib.hid (show amB ms a1 = false by simp [amB, hi])
    have Q := Lib.hid (show amR ms a1 = [] by simp [amR, R2.out])
    rw [hi] at RI
    clear h
    go_enter Try.func13, Try.ntmps13
    go_wp2_with fail
    refine RI.out.mono ?_
    rintro e w1 ⟨rfl, b1⟩
    go_wp2_with fail
    go_ret2
    exact ⟨_, ret_lb rfl R2.out.symm, by rw [Q.out]; exact World.ownsRow_nil _ _ _ _, b1⟩
end Go.Proofs.Ythienikceehcoaa
