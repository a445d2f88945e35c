/-
  Sets of pieces as bits in the program: made of a list of indices, told as a list of indices; what is given and what is taken. Condition: indices below 8.
-/
import Derived.Test.YtkdnbphopcnpnaaDoorPfewe
import Derived.Test.YtkdnbphopcnpnaaDoorCate
import Derived.Laws.BitsAllLaws
namespace Go.Proofs.YtkdnbphopcnpnaaDoor
open Go.RowKit

theorem src_one (w : World) (n : Int) : Src (w.alloc (.cells #[.int .i64 n] 3)) (.slice (some ⟨w.heap.size, 0, none⟩) 1 1) [n] := by
  refine .inr ⟨w.heap.size, 0, 1, rfl, by simp, fun j hj => ?_⟩
  obtain rfl : j = 0 := by simpa using hj
  have h := heap_alloc_new w (.cells #[.int .i64 n] 3)
  simp only [World.cell?, h]
  rfl
theorem or_bit (m : Nat) (hm : m < 256) (x : Int) (h0 : 0 ≤ x) (h7 : x ≤ 7) : bits .or .u64 (m : Int) (IntKind.u64.wrap (2 ^ x.toNat)) = ((m ||| 1 <<< x.toNat : Nat) : Int) := by
  obtain ⟨i, rfl⟩ : ∃ i : Nat, x = i := ⟨x.toNat, by omega⟩
  have h3 : (2 : Nat) ^ i ≤ 2 ^ 7 := Nat.pow_le_pow_right (by omega) (by omega)
  have e : IntKind.u64.wrap (2 ^ (i : Int).toNat) = ((2 ^ i : Nat) : Int) := by
    rw [Int.toNat_natCast]
    have h4 : ((2 : Int) ^ i) = ((2 ^ i : Nat) : Int) := by simp
    rw [h4]
    simp only [IntKind.wrap, IntKind.bits, IntKind.signed]
    have h5 : ((2 ^ i : Nat) : Int) < 18446744073709551616 := by omega
    simp
    rw [Int.emod_eq_of_lt]
    · exact_mod_cast Nat.zero_le _
    · have := h5; simpa using this
  rw [e, u64_or_nat m (2 ^ i) (by omega) (by omega), Int.toNat_natCast, Nat.one_shiftLeft]
theorem and_bit (m k : Nat) (hm : m < 256) : bits .and .u64 ((m : Int) / 2 ^ k) 1 = (if bitI m k = true then 1 else 0) := by
  have e : (m : Int) / 2 ^ k = ((m / 2 ^ k : Nat) : Int) := by simp
  have h1 : m / 2 ^ k ≤ m := Nat.div_le_self _ _
  rw [e, show (1 : Int) = ((1 : Nat) : Int) from rfl, u64_and_nat _ 1 (by omega) (by omega), Nat.and_one_is_mod]
  unfold bitI
  rw [Nat.testBit_eq_decide_div_mod_eq]
  by_cases h : m / 2 ^ k % 2 = 1
  · simp [h]
  · have : m / 2 ^ k % 2 = 0 := by omega
    simp [this]

set_option maxHeartbeats 2000000 in
set_option maxRecDepth 20000 in
theorem heldOf_any (v : Value) (ys : List Int) (w : World) (h : Sv w v ys) (hr : Rs 0 7 ys) :
    Calls Tryd.prog 25 #[v] w fun e w' => e = .returned (.int .u64 (maskL ys : Nat)) ∧ w = w' := by
  have hlen := hr.len
  obtain ⟨p, cap, rfl, hx⟩ := h
  have HR := Lib.hid hr
  clear hr
  go_enter Tryd.func25, Tryd.ntmps25
  go_wp2
  go_loop [3, 8] (fun t i => ∃ (k m : Nat), k ≤ ys.length ∧ i = .int .i64 k ∧ t = .int .u64 m ∧ m < 256 ∧ Hid (maskF 0 (ys.take k) = m)) (fun _ i => ys.length - (intOf i).toNat)
  case atStart => exact ⟨0, 0, Nat.zero_le _, rfl, rfl, by omega, Lib.hid rfl⟩
  case round =>
    obtain ⟨k, m, hk, rfl, rfl, hm, HM⟩ := hrel
    by_cases hlt : k < ys.length
    · obtain ⟨b, off, rfl, hbl, hc⟩ := hx (by omega)
      have hcell := hc k hlt
      obtain ⟨x, ex⟩ : ∃ x, ys.getD k 0 = x := ⟨_, rfl⟩
      rw [ex] at hcell
      have hxb : 0 ≤ x ∧ x ≤ 7 := by
        rw [← ex]
        refine HR.out.mem _ ?_
        rw [List.getD_eq_getElem?_getD, List.getElem?_eq_getElem hlt]; exact List.getElem_mem hlt
      obtain ⟨hx0, hx7⟩ := hxb
      have EX := Lib.hid ex
      have OB := Lib.hid (or_bit m hm x hx0 hx7)
      clear hc hx ex
      go_wp2
      go_round
      case rel =>
        refine ⟨k + 1, m ||| 1 <<< x.toNat, by omega, by go_num, ?_, ?_, Lib.hid ?_⟩
        · rw [← OB.out]
        · refine Nat.or_lt_two_pow (n := 8) hm ?_
          rw [Nat.one_shiftLeft]
          exact Nat.pow_lt_pow_right (by omega) (by omega)
        · rw [mask_step ys k hlt, HM.out, EX.out]
      case measure => simp [intOf]; omega
    · clear hx
      go_wp2
      go_ret
      have hke : k = ys.length := by omega
      have e : m = maskL ys := by rw [← HM.out, hke, List.take_length]; rfl
      exact ⟨by rw [e]; rfl, rfl⟩

def idxTo (m k : Nat) : List Int := ((List.range k).filter (bitI m)).map fun (i : Nat) => (i : Int)
theorem idxTo_yes {m k : Nat} (h : bitI m k = true) : idxTo m (k + 1) = idxTo m k ++ [(k : Int)] := by
  unfold idxTo; rw [List.range_succ, List.filter_append]; simp [h]
theorem idxTo_no {m k : Nat} (h : bitI m k = false) : idxTo m (k + 1) = idxTo m k := by
  unfold idxTo; rw [List.range_succ, List.filter_append]; simp [h]
theorem idxTo_len (m k : Nat) : (idxTo m k).length ≤ k := by
  unfold idxTo; rw [List.length_map]; exact Nat.le_trans (List.length_filter_le _ _) (by simp)

set_option maxHeartbeats 2000000 in
set_option maxRecDepth 20000 in
theorem indices_any (m : Nat) (w : World) (hm : m < 256) :
    Calls Tryd.prog 37 #[.int .u64 m] w fun e w' => ∃ u, e = .returned u ∧ Ow w' w.heap.size u (idx m) ∧ Below w.heap.size w w' := by
  go_enter Tryd.func37, Tryd.ntmps37
  go_wp2
  go_loopw [3, 6] (fun t i wr => ∃ k : Nat, k ≤ 8 ∧ i = .int .i64 k ∧ Ow wr w.heap.size t (idxTo m k) ∧ Below w.heap.size w wr) (fun _ i _ => 8 - (intOf i).toNat)
  case atStart => exact ⟨0, by omega, rfl, ow_empty w, (Below.refl _ _).alloc (Nat.le_refl _) _⟩
  case round =>
    obtain ⟨k, hk, rfl, ho, hb⟩ := hrel
    have hz := hb.size
    have hil := idxTo_len m k
    by_cases hlt : k < 8
    · have AB := and_bit m k hm
      by_cases hbit : bitI m k = true
      · rw [if_pos hbit] at AB
        have S := Lib.hid (idxTo_yes hbit)
        clear hbit
        go_wp2_with (at_builtin; refine wpList_append_src rfl _ _ rfl w.heap.size _ (idxTo m k) rfl (ho.alloc _) _ [(k : Int)] rfl (src_one _ _) (by simp only [List.length_cons, List.length_nil]; omega) (by simp; omega) ?_; intro v' w3 h3 g3)
        have b3 := (hb.alloc hz _).trans ((ho.alloc _).grown (by simp; omega) g3)
        clear ho g3 hb
        go_roundw
        case rel => exact ⟨k + 1, by omega, by go_num, by rw [S.out]; exact h3, b3⟩
        case measure => simp only [intOf]; omega
      · have hbit : bitI m k = false := by simpa using hbit
        have S := Lib.hid (idxTo_no hbit)
        rw [hbit] at AB
        simp only [Bool.false_eq_true, if_false] at AB
        clear hbit
        go_wp2
        go_roundw
        case rel => exact ⟨k + 1, by omega, by go_num, by rw [S.out]; exact ho, hb⟩
        case measure => simp only [intOf]; omega
    · have hk8 : k = 8 := by omega
      subst hk8
      go_wp2
      go_ret
      exact ⟨_, rfl, ho, hb⟩

end Go.Proofs.YtkdnbphopcnpnaaDoor
