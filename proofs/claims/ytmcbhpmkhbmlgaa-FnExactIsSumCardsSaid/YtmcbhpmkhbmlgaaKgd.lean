/-
  Cards in the model: whether there are cards and answers, by contract. Conditions: at most 2^40 lists of at most 2^40 numbers.
-/
import Derived.Test.YtmcbhpmkhbmlgaaKgc
namespace Go.Proofs.Ytmcbhpmkhbmlgaa
open Go.RowKit

set_option maxHeartbeats 2000000 in
set_option maxRecDepth 20000 in
theorem caAsked_any (n : Int) (v : Value) (Ls : List (List Int)) (a : List UInt8) (w : World) (h : Svv w v Ls) (hl : Ls.length ≤ 1099511627776) (hx : ∀ j, j < Ls.length → (rowL Ls j).length ≤ 1099511627776) :
    Calls Try.prog 40 #[.agg #[.int .i64 n, v], .string (bstr a)] w fun e w' => e = .returned (.bool (askB n Ls a)) ∧ Below w.heap.size w w' := by
  obtain ⟨p, cap, rfl⟩ := svv_form h
  have hsz := bstr_size a
  obtain ⟨s, es⟩ : ∃ s, bstr a = s := ⟨_, rfl⟩
  have ES := Lib.hid es
  rw [es] at hsz ⊢
  clear es
  have hb0 : Below w.heap.size w (w.alloc (.cells #[.int .i64 n, .slice p Ls.length cap] 36)) := (Below.refl _ w).alloc (Nat.le_refl _) _
  have CG := caGood_any n _ Ls _ (h.below hb0 (Nat.le_refl _)) hl hx
  have CN := card_v w n (.slice p Ls.length cap)
  clear h
  cases hg : caB n Ls with
  | false =>
    rw [hg] at CG
    have CG := Lib.hid CG
    have AN := Lib.hid (askB_no (n := n) (Ls := Ls) (a := a) (fun g => by have := caB_yes g.1; rw [hg] at this; cases this))
    clear hg
    go_enter Try.func40, Try.ntmps40
    go_wp2_with (go_at_call 55; refine CG.out.mono ?_; rintro e w1 ⟨rfl, b1⟩; have B1 := nxt hb0 b1)
    go_ret
    exact ⟨ret_bool AN.out.symm, B1⟩
  | true =>
    rw [hg] at CG
    have CG := Lib.hid CG
    have G := Lib.hid (caB_iff.1 hg)
    clear hg
    by_cases hlen : a.length = Ls.length
    · have HL := Lib.hid hlen
      have hsl : s.size = Ls.length := by omega
      have hl12 := G.out.len
      go_enter Try.func40, Try.ntmps40
      go_wp2_with (go_at_call 55; refine CG.out.mono ?_; rintro e w1 ⟨rfl, b1⟩; have B1 := nxt hb0 b1; have C1 := (b1.cell (p := ⟨w.heap.size, 1, none⟩) (by simp)).trans CN; have Z1 := B1.size)
      go_loopw [5] (fun _ wr => ∃ k : Nat, k ≤ a.length ∧ Hid (YnTo a k) ∧ wr.heap[w1.heap.size]? = some (.stringIter s k) ∧ Below w.heap.size w wr) (fun _ wr => a.length - wr.iterPos w1.heap.size)
      case atStart => exact ⟨0, Nat.zero_le _, Lib.hid (YnTo.zero _), w1.iter_heap s 0, B1.alloc Z1 _⟩
      case round =>
        clear B1 C1 b1
        obtain ⟨k, hk, HY, hI, hb⟩ := hrel
        have hp := iterPos_of hI
        by_cases hlt : k < a.length
        · have hks : k < s.size := by omega
          have hA : ∀ wx : World, (Instr.index 9 (.string s) (.int .i64 (k : Int))).run Try.prog wx = .ok (.int .u8 ((a.getD k 0).toNat : Int)) wx := fun wx => by
            rw [← ES.out]; exact byte_at a k hlt 9 Try.underlying9 wx
          by_cases hy : a.getD k 0 = 121 ∨ a.getD k 0 = 110
          · have e0 : ∀ h : k < (bstr a).size, ((bstr a)[k]'h).toNat < 128 := fun h => by
              rw [byte_is a k hlt h]
              rcases hy with e | e <;> rw [e] <;> decide
            rw [ES.out] at e0
            have hnx : ∀ ty, (Instr.next (.pointer (some ⟨w1.heap.size, 0, none⟩)) true ty).run Try.prog wr = _ := fun ty => Lib.run_next_ascii_at wr w1.heap.size s k ty hI hks (e0 hks)
            have hI2 := Lib.iterAt_heap wr w1.heap.size s k (k + 1) hI
            have hb2 := Lib.below_iterAt hb Z1 s (k + 1)
            obtain ⟨w2, e2⟩ : ∃ w2, wr.iterAt w1.heap.size s (k + 1) = w2 := ⟨_, rfl⟩
            rw [e2] at hnx hI2 hb2
            obtain ⟨r, er⟩ : ∃ r : Nat, (s[k]'hks).toNat = r := ⟨_, rfl⟩
            rw [er] at hnx
            have HN := Lib.hid (HY.out.succ hy)
            clear e0 er e2 hI hb hks
            rcases hy with e | e
            all_goals
              rw [e] at hA
              clear e
              go_wp2
              go_roundw
              case rel => exact ⟨k + 1, by omega, HN, hI2, hb2⟩
              case measure => rw [hp, iterPos_of hI2]; omega
          · have hnx : ∀ ty, (Instr.next (.pointer (some ⟨w1.heap.size, 0, none⟩)) true ty).run Try.prog wr = _ := fun ty => Lib.run_next_any_at wr w1.heap.size s k ty hI hks
            have hb2 := Lib.below_iterAt hb Z1 s (k + (Utf8.decode s k).2)
            obtain ⟨w2, e2⟩ : ∃ w2, wr.iterAt w1.heap.size s (k + (Utf8.decode s k).2) = w2 := ⟨_, rfl⟩
            rw [e2] at hnx hb2
            obtain ⟨r, er⟩ : ∃ r, (Utf8.decode s k).1 = r := ⟨_, rfl⟩
            rw [er] at hnx
            have AN := Lib.hid (askB_no (n := n) (Ls := Ls) (a := a) (fun g => hy (g.2.2 k hlt)))
            have n1 : ¬ ((a.getD k 0).toNat : Int) = 121 := fun e => hy (.inl (UInt8.toNat_inj.1 (by have : (121 : UInt8).toNat = 121 := rfl; omega)))
            have n2 : ¬ ((a.getD k 0).toNat : Int) = 110 := fun e => hy (.inr (UInt8.toNat_inj.1 (by have : (110 : UInt8).toNat = 110 := rfl; omega)))
            obtain ⟨x, ex⟩ : ∃ x : Int, ((a.getD k 0).toNat : Int) = x := ⟨_, rfl⟩
            rw [ex] at hA n1 n2
            have m1 : (x != 121) = true := by simpa using n1
            have m2 : (x != 110) = true := by simpa using n2
            clear hy er e2 ex hI hb hks
            go_wp2
            go_ret
            exact ⟨ret_bool AN.out.symm, hb2⟩
        · have hke : k = a.length := by omega
          have hnx : ∀ ty, (Instr.next (.pointer (some ⟨w1.heap.size, 0, none⟩)) true ty).run Try.prog wr = _ := fun ty => Lib.run_next_end_at wr w1.heap.size s k ty hI (by omega)
          have AN : Hid (askB n Ls a = true) := Lib.hid (askB_iff.2 ⟨G.out, HL.out, by rw [← hke]; exact HY.out⟩)
          go_wp2
          go_ret
          exact ⟨ret_bool AN.out.symm, hb⟩
    · have AN := Lib.hid (askB_no (n := n) (Ls := Ls) (a := a) (fun g => hlen g.2.1))
      have hs2 : ((s.size : Int) == (Ls.length : Int)) = false := by rw [beq_eq_false_iff_ne]; omega
      clear hlen
      go_enter Try.func40, Try.ntmps40
      go_wp2_with (go_at_call 55; refine CG.out.mono ?_; rintro e w1 ⟨rfl, b1⟩; have B1 := nxt hb0 b1; have C1 := (b1.cell (p := ⟨w.heap.size, 1, none⟩) (by simp)).trans CN)
      go_ret
      exact ⟨ret_bool AN.out.symm, B1⟩

end Go.Proofs.Ytmcbhpmkhbmlgaa
