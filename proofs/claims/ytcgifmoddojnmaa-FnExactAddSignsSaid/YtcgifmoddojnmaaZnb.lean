/-
  Balanced digits written and read in the program, by contracts. Conditions: texts of at most 2^20 signs.
-/
import Derived.Test.YtcgifmoddojnmaaZlo
import Derived.Test.YtcgifmoddojnmaaZns
namespace Go.Proofs.Ytcgifmoddojnmaa
open Go.RowKit

def WrI (n0 : Int) (S : ByteArray) (m : Int) : Prop := (-1000000 ≤ m ∧ m ≤ 1000000) ∧ ∃ l : List UInt8, S = bstr l ∧ l.length ≤ 1000001 ∧ ((l = [] ∧ m = n0) ∨ (l ≠ [] ∧ balT n0 = bal m ++ l))
def WrM (S : ByteArray) (m : Int) : Nat := 2 * m.natAbs + (if S.size = 0 then 1 else 0)
def WrR (n0 : Int) (S : ByteArray) (_m : Int) : Prop := S = bstr (balT n0)
theorem bstr_pos {l : List UInt8} (h : l ≠ []) : 0 < (bstr l).size := by
  rw [bstr_size]
  exact List.length_pos_iff.2 h
theorem WrI.next {n0 m : Int} {S : ByteArray} (h0 : -1000000 ≤ n0) (h1 : n0 ≤ 1000000) (h : WrI n0 S m) (hg : m ≠ 0 ∨ S = ⟨#[]⟩) :
    WrI n0 (bstr [sc (un m)] ++ S) (qn m) ∧ WrM (bstr [sc (un m)] ++ S) (qn m) < WrM S m := by
  obtain ⟨⟨m0, m1⟩, l, rfl, hl, hc⟩ := h
  have e : bstr [sc (un m)] ++ bstr l = bstr (sc (un m) :: l) := bstr_app [sc (un m)] l
  have hq : (qn m).natAbs ≤ m.natAbs := by
    by_cases hz : m = 0
    · subst hz; decide
    · exact Nat.le_of_lt (qn_small hz)
  have hb : balT n0 = bal (qn m) ++ (sc (un m) :: l) := by
    rcases hc with ⟨rfl, rfl⟩ | ⟨hne, hb⟩
    · unfold balT
      by_cases hz : m = 0
      · subst hz
        rw [if_pos rfl, show qn 0 = 0 by decide, bal_zero]
        rfl
      · rw [if_neg hz, bal_step hz]
    · have hz : m ≠ 0 := hg.resolve_right (fun h => by
        have h2 := bstr_pos hne
        rw [h] at h2
        exact absurd h2 (by decide))
      rw [hb, bal_step hz, List.append_assoc]
      rfl
  rw [e]
  refine ⟨⟨by omega, _, rfl, ?_, .inr ⟨by simp, hb⟩⟩, ?_⟩
  · have h2 := balT_len n0
    rw [hb, List.length_append] at h2
    omega
  · unfold WrM
    have hp : (bstr (sc (un m) :: l)).size ≠ 0 := by rw [bstr_size]; simp
    rw [if_neg hp]
    by_cases hz : m = 0
    · have hS := hg.resolve_left (fun h => h hz)
      rw [hS, if_pos (by rfl)]
      subst hz
      decide
    · have := qn_small hz
      omega

theorem lead_bal (n : Int) (w : World) (h0 : -1000000 ≤ n) (h1 : n ≤ 1000000) :
    Calls Try.prog 84 #[.agg #[.string ⟨#[]⟩, .int .i64 n], .func (.func 85) #[] #[]] w fun e w' => (∃ m' : Int, e = .returned (.agg #[.string (bstr (balT n)), .int .i64 m'])) ∧ Below w.heap.size w w' := by
  refine (leadWrite_any (WrI n) WrM (WrR n) ⟨#[]⟩ n w ⟨⟨h0, h1⟩, [], rfl, by simp, .inl ⟨rfl, rfl⟩⟩ ?_).mono ?_
  · intro S m W hI
    by_cases hg : m ≠ 0 ∨ S = ⟨#[]⟩
    · have hN := hI.next h0 h1 hg
      have hs : S.size ≤ 1099511627776 := by
        obtain ⟨-, l, rfl, hl, -⟩ := hI
        rw [bstr_size]
        omega
      refine (write_go S m W hg (by have := hI.1; omega) (by have := hI.1; omega) hs).mono ?_
      rintro e w' ⟨rfl, b⟩
      exact ⟨⟨_, _, _, rfl, fun _ => hN, fun h => by cases h⟩, b⟩
    · obtain ⟨hz, hS⟩ := not_or.1 hg
      have hz : m = 0 := by omega
      subst hz
      obtain ⟨-, l, rfl, hl, hc⟩ := hI
      have hne : l ≠ [] := fun e => by rw [e] at hS; exact hS rfl
      have hb := (hc.resolve_left (fun h => hne h.1)).2
      rw [bal_zero, List.nil_append] at hb
      refine (write_stop _ W (bstr_pos hne)).mono ?_
      rintro e w' ⟨rfl, b⟩
      exact ⟨⟨_, _, _, rfl, fun h => (by cases h), fun _ => by unfold WrR; rw [hb]⟩, b⟩
  · rintro e w' ⟨⟨S', m', rfl, hR⟩, b⟩
    unfold WrR at hR
    rw [hR]
    exact ⟨⟨_, rfl⟩, b⟩

def RdI (a : List UInt8) (S : ByteArray) (m : Int) : Prop := ∃ k, k ≤ a.length ∧ S = bstr (a.drop k) ∧ m = nf 0 (a.take k)
theorem lead_num (a : List UInt8) (w : World) (h : a.length ≤ 13) :
    Calls Try.prog 84 #[.agg #[.string (bstr a), .int .i64 0], .func (.func 88) #[] #[]] w fun e w' => (∃ S' : ByteArray, e = .returned (.agg #[.string S', .int .i64 (nf 0 a)])) ∧ Below w.heap.size w w' := by
  refine (leadRead_any (RdI a) (fun S _ => S.size) (fun _ m => m = nf 0 a) (bstr a) 0 w ⟨0, Nat.zero_le _, rfl, rfl⟩ ?_).mono ?_
  · rintro S m W ⟨k, hk, rfl, rfl⟩
    have hb := nf_small a k hk (by omega)
    by_cases hlt : k < a.length
    · have hl : 1 ≤ (a.drop k).length := by rw [List.length_drop]; omega
      have e1 : (a.drop k).drop 1 = a.drop (k + 1) := by rw [List.drop_drop]
      have e2 : (a.drop k).getD 0 0 = a.getD k 0 := by
        rw [List.getD_eq_getElem?_getD, List.getD_eq_getElem?_getD, List.getElem?_drop]
        rfl
      refine (read_go (a.drop k) _ W hl (by omega) (by omega)).mono ?_
      rintro e w' ⟨rfl, b⟩
      rw [e1, e2, ← nf_take hlt rfl]
      exact ⟨⟨_, _, _, rfl, fun _ => ⟨⟨k + 1, by omega, rfl, rfl⟩, by rw [bstr_size, bstr_size, List.length_drop, List.length_drop]; omega⟩, fun h => by cases h⟩, b⟩
    · have hke : k = a.length := by omega
      subst hke
      rw [List.drop_length, List.take_length]
      refine (read_stop _ W).mono ?_
      rintro e w' ⟨rfl, b⟩
      exact ⟨⟨_, _, _, rfl, fun h => (by cases h), fun _ => rfl⟩, b⟩
  · rintro e w' ⟨⟨S', m', rfl, hR⟩, b⟩
    rw [hR]
    exact ⟨⟨_, rfl⟩, b⟩

theorem field_bt (s : ByteArray) (m : Int) (w : World) : (Instr.field 74 (.agg #[.string s, .int .i64 m]) 0).run Try.prog w = .ok (.string s) w := by rfl
theorem field_bn (s : ByteArray) (m : Int) (w : World) : (Instr.field 74 (.agg #[.string s, .int .i64 m]) 1).run Try.prog w = .ok (.int .i64 m) w := by rfl

set_option maxHeartbeats 4000000 in
set_option maxRecDepth 100000 in
theorem implBalancedOf_any (n : Int) (w : World) :
    Calls Try.prog 46 #[.int .i64 n] w fun e w' => e = .returned (.tuple #[.string (bstr (yesL (inB n (-1000000) 1000000) (balT n))), .bool (inB n (-1000000) 1000000)]) ∧ Below w.heap.size w w' := by
  cases hi : inB n (-1000000) 1000000 with
  | false =>
    rw [yesL_f]
    have hb : n < -1000000 ∨ (¬ n < -1000000 ∧ 1000000 < n) := by
      by_cases h : n < -1000000
      · exact .inl h
      · refine .inr ⟨h, ?_⟩
        by_cases h2 : n ≤ 1000000
        · rw [inB_iff.2 ⟨by omega, h2⟩] at hi
          cases hi
        · omega
    clear hi
    rcases hb with hb | ⟨hb, hc⟩
    all_goals
      go_enter Try.func46, Try.ntmps46
      go_wp2
      go_ret2
      exact ⟨ret_sb rfl rfl, Below.refl _ _⟩
  | true =>
    rw [yesL_t]
    have hb := inB_iff.1 hi
    have FL := fun (m : Int) W => field_bt (bstr (balT n)) m W
    have LB := fun W => Lib.hid (lead_bal n W hb.1 hb.2)
    have g0 : ¬ n < -1000000 := by omega
    have g1 : ¬ 1000000 < n := by omega
    obtain ⟨s, es⟩ : ∃ s, bstr (balT n) = s := ⟨_, rfl⟩
    rw [es] at LB FL ⊢
    clear es hi hb
    go_enter Try.func46, Try.ntmps46
    go_wp2_with (go_at_call 84; refine (LB _).out.mono ?_; rintro e w1 ⟨⟨m1, rfl⟩, b1⟩)
    go_ret2
    exact ⟨ret_sb rfl rfl, b1⟩

set_option maxHeartbeats 4000000 in
set_option maxRecDepth 100000 in
theorem implNumberOfSigns_any (a : List UInt8) (w : World) (_hl : a.length ≤ 1048576) :
    Calls Try.prog 48 #[.string (bstr a)] w fun e w' => e = .returned (.tuple #[.int .i64 (nmR a), .bool (dgB a)]) ∧ Below w.heap.size w w' := by
  have AD := fun W => Lib.hid (areDigits_any a W)
  cases hd : dgB a with
  | false =>
    rw [hd] at AD
    rw [show nmR a = 0 by simp [nmR, hd]]
    obtain ⟨s, es⟩ : ∃ s, bstr a = s := ⟨_, rfl⟩
    rw [es] at AD ⊢
    clear es hd
    go_enter Try.func48, Try.ntmps48
    go_wp2_with (go_at_call 87; refine (AD _).out.mono ?_; rintro e w1 ⟨rfl, b1⟩)
    go_ret2
    exact ⟨rfl, b1⟩
  | true =>
    rw [hd] at AD
    rw [show nmR a = nf 0 a by simp [nmR, hd]]
    have FL := fun (S : ByteArray) W => field_bn S (nf 0 a) W
    have LN := fun W => Lib.hid (lead_num a W (dgB_iff.1 hd).1.2)
    obtain ⟨s, es⟩ : ∃ s, bstr a = s := ⟨_, rfl⟩
    obtain ⟨m, em⟩ : ∃ m, nf 0 a = m := ⟨_, rfl⟩
    rw [es] at AD LN ⊢
    rw [em] at LN FL ⊢
    clear es em hd
    have bs0 : ∀ W : World, Below W.heap.size W W := fun W => Below.refl _ _
    go_enter Try.func48, Try.ntmps48
    go_wp2_with (first
      | (go_at_call 87; refine (AD _).out.mono ?_; rintro e w1 ⟨rfl, b1⟩)
      | (go_at_call 84; refine (LN _).out.mono ?_; rintro e w2 ⟨⟨S2, rfl⟩, b2⟩))
    go_ret2
    exact ⟨rfl, nxt b1 b2⟩

end Go.Proofs.Ytcgifmoddojnmaa
