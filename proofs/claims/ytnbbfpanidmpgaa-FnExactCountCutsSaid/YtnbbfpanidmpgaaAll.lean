/-
  FirstCuts and CountCuts in the model, by their contracts. No condition.
-/
import Derived.Test.YtnbbfpanidmpgaaLook
namespace Go.Proofs.Ytnbbfpanidmpgaa
open Go.RowKit

theorem RowS.mono {w : World} {B C n : Nat} {v : Value} {hd : List Int} (h : RowS w B v n hd) (hC : C ≤ B) : RowS w C v n hd := by
  obtain ⟨vals, ⟨h0, h1⟩, h2⟩ := h
  refine ⟨vals, ⟨h0, ?_⟩, fun hn => (h2 hn).mono hC⟩
  rcases h1 with h1 | ⟨g, cap, cur, hv, hg, r⟩
  · exact .inl h1
  · exact .inr ⟨g, cap, cur, hv, Nat.le_trans hC hg, r⟩
theorem allC_len {m : Int} (hm : 1 ≤ m ∧ m ≤ 63) : (allC m).length ≤ 1048576 := by
  have h1 := (least_le hm.1 hm.2).1
  rw [allC_sel]
  refine Nat.le_trans (selM_len _ _ _ _) ?_
  have h2 : (m - 0).toNat + 1 ≤ 64 := by omega
  have h3 : ((m - 0).toNat + 1) ^ leastC mostC 0 m ≤ 64 ^ leastC mostC 0 m := Nat.pow_le_pow_left h2 _
  have h4 : (64 : Nat) ^ leastC mostC 0 m ≤ 64 ^ 3 := Nat.pow_le_pow_right (by omega) h1
  have h5 : (64 : Nat) ^ 3 = 262144 := by decide
  omega

set_option maxHeartbeats 4000000 in
theorem chAll_any (m : Int) (hm : 1 ≤ m ∧ m ≤ 63) (w : World) :
    Calls Try.prog 73 #[.int .i64 m] w fun e w' => ∃ u, e = .returned u ∧ RowS w' w.heap.size u (allC m).length ((allC m).headD []) ∧ Below w.heap.size w w' := by
  have h3 := (least_le hm.1 hm.2).1
  have hlen := allC_len hm
  have HAS := Lib.hid (allC_sel m)
  have hok : CutsOk m [] := ⟨by omega, by simp, ⟨fun j hj => by simp at hj, fun j hj => by simp at hj⟩⟩
  have hb0 : Below w.heap.size w (w.alloc (.cells #[.slice none 0 0] 47)) := (Below.refl _ _).alloc (Nat.le_refl _) _
  have hbx := Boxed.new w 47 (.slice none 0 0)
  have hr0 : RowS (w.alloc (.cells #[.slice none 0 0] 47)) (w.heap.size + 1) (.slice none 0 0) 0 [] := RowS.nil _ _ _
  have hnil : Ow (w.alloc (.cells #[.slice none 0 0] 47)) 0 (.slice none 0 0) [] := ow_nil _ _
  obtain ⟨W, hW⟩ : ∃ W, w.alloc (.cells #[.slice none 0 0] 47) = W := ⟨_, rfl⟩
  have HW := Lib.hid hW
  rw [hW] at hb0 hbx hr0 hnil
  clear hW
  go_enter Try.func73, Try.ntmps73
  go_wp2_with fail
  rw [HW.out]
  refine (chFewest_any m _ (by omega)).mono ?_
  rintro e w1 ⟨rfl, rfl⟩
  go_wp2_with fail
  refine (chLook_any m hm (leastC mostC 0 m) [] (.slice none 0 0) (.slice none 0 0) w.heap.size 0 [] W hok (by simp; omega) hnil hbx hr0 (by rw [show freeAt ([] : List Int) ([] : List Int).length = 0 from rfl, ← HAS.out]; omega)).mono ?_
  rw [show freeAt ([] : List Int) ([] : List Int).length = 0 from rfl, ← HAS.out]
  rintro e w2 ⟨rfl, v2, hP2, hr2, hk2⟩
  have hb2 := hb0.trans hk2.below
  have hcell := hP2.cell
  have HR2 := Lib.hid hr2
  clear hnil hbx hr0 hok hb0 hk2 hP2 hr2
  go_wp2_with fail
  go_ret
  refine ⟨_, rfl, ?_, hb2⟩
  have := HR2.out
  simp only [Nat.zero_add, hdA, if_true] at this
  exact this.mono (by omega)

noncomputable def fsB (m : Int) : Bool := inB m 1 63
noncomputable def fsR (m : Int) : List Int := if fsB m = true then (allC m).headD [] else []
noncomputable def csR (m : Int) : Int := if fsB m = true then ((allC m).length : Int) else 0
theorem fs_no {m : Int} (h : inB m 1 63 = false) : fsB m = false ∧ fsR m = [] ∧ csR m = 0 := by
  have : fsB m = false := h
  exact ⟨this, by simp [fsR, this], by simp [csR, this]⟩
theorem fs_yes {m : Int} (h : inB m 1 63 = true) : fsB m = true ∧ fsR m = (allC m).headD [] ∧ csR m = ((allC m).length : Int) := by
  have : fsB m = true := h
  exact ⟨this, by simp [fsR, this], by simp [csR, this]⟩

set_option maxHeartbeats 4000000 in
theorem specCountCuts_any (m : Int) (w : World) : Calls Try.prog 42 #[.int .i64 m] w fun e w' => e = .returned (.tuple #[.int .i64 (csR m), .bool (fsB m)]) ∧ Below w.heap.size w w' := by
  by_cases hin : inB m 1 63 = true
  · have hb := inB_iff.1 hin
    have HR := Lib.hid (fs_yes hin)
    have hlen := allC_len hb
    go_enter Try.func42, Try.ntmps42
    go_wp2_with (go_at_call 69; refine (l1In_any _ _ _ _).mono ?_; rintro e w' ⟨rfl, rfl⟩)
    refine (chAll_any m hb _).mono ?_
    rintro e w1 ⟨u, rfl, ⟨vals, h1, h2⟩, b1⟩
    obtain ⟨n, hn⟩ : ∃ n, (allC m).length = n + 1 := ⟨(allC m).length - 1, by have := List.length_pos_iff.2 (allC_ne hb.1 hb.2); omega⟩
    rw [hn] at h1
    obtain ⟨g, cap, rfl⟩ := ownsRow_succ h1
    have HN := Lib.hid hn
    clear hin h1 h2 hn
    go_wp2_with fail
    go_ret2
    exact ⟨ret_ib (by rw [HR.out.2.2, HN.out]; omega) HR.out.1.symm, b1⟩
  · have hin : inB m 1 63 = false := by simpa using hin
    have HR := Lib.hid (fs_no hin)
    go_enter Try.func42, Try.ntmps42
    go_wp2_with (go_at_call 69; refine (l1In_any _ _ _ _).mono ?_; rintro e w' ⟨rfl, rfl⟩)
    go_ret2
    exact ⟨ret_ib HR.out.2.2.symm HR.out.1.symm, Below.refl _ _⟩

set_option maxHeartbeats 4000000 in
theorem specFirstCuts_any (m : Int) (w : World) : Calls Try.prog 40 #[.int .i64 m] w fun e w' => ∃ u, e = .returned (.tuple #[u, .bool (fsB m)]) ∧ Ow w' w.heap.size u (fsR m) ∧ Below w.heap.size w w' := by
  by_cases hin : inB m 1 63 = true
  · have hb := inB_iff.1 hin
    have HR := Lib.hid (fs_yes hin)
    have hlen := allC_len hb
    go_enter Try.func40, Try.ntmps40
    go_wp2_with (go_at_call 69; refine (l1In_any _ _ _ _).mono ?_; rintro e w' ⟨rfl, rfl⟩)
    obtain ⟨H, hH⟩ : ∃ H, (allC m).headD [] = H := ⟨_, rfl⟩
    have HH := Lib.hid hH
    refine (chAll_any m hb _).mono ?_
    rw [hH]
    clear hH
    rintro e w1 ⟨u, rfl, ⟨vals, h1, h2⟩, b1⟩
    obtain ⟨n, hn⟩ : ∃ n, (allC m).length = n + 1 := ⟨(allC m).length - 1, by have := List.length_pos_iff.2 (allC_ne hb.1 hb.2); omega⟩
    rw [hn] at h1 h2
    have hvl : vals.length = n + 1 := by have := h1.1; simpa using this
    obtain ⟨y, ey⟩ : ∃ y, vals.getD 0 undef = y := ⟨_, rfl⟩
    obtain ⟨g, cap, rfl⟩ := ownsRow_succ h1
    have ho := h2 (by omega)
    rw [ey] at ho
    have hcell : w1.cell? ⟨g, 0, none⟩ = some y := by
      have := World.ownsRow.cellAt h1 0 (by omega)
      rw [this, ← ey, List.getD_eq_getElem?_getD, List.getElem?_eq_getElem (by omega)]; rfl
    obtain ⟨q, cq, rfl, -⟩ := ho.sv
    have HO := Lib.hid ho
    clear hin h1 h2 hn hvl ey ho
    go_wp2_with fail
    go_ret2
    exact ⟨_, ret_lb rfl HR.out.1.symm, by rw [HR.out.2.1, HH.out]; exact HO.out, b1⟩
  · have hin : inB m 1 63 = false := by simpa using hin
    have HR := Lib.hid (fs_no hin)
    go_enter Try.func40, Try.ntmps40
    go_wp2_with (go_at_call 69; refine (l1In_any _ _ _ _).mono ?_; rintro e w' ⟨rfl, rfl⟩)
    go_ret2
    exact ⟨_, ret_lb rfl HR.out.1.symm, by rw [HR.out.2.1]; exact ow_nil _ _, Below.refl _ _⟩
end Go.Proofs.Ytnbbfpanidmpgaa
