/-
  Cards in the model: at how many places answers differ, and at which last one, by contract. Condition: the first text has at most 1000 signs, all of one byte, the second as many or more.
-/
import Derived.Test.YtmcbhpmkhbmlgaaKgb
import Derived.Lib.OthersKept
import Derived.WalkSmall
namespace Go.Proofs.Ytmcbhpmkhbmlgaa
open Go.RowKit

theorem byte_at (l : List UInt8) (k : Nat) (hk : k < l.length) (t : TypeId) (ht : Try.prog.underlying t = some .string) (w : World) :
    (Instr.index t (.string (bstr l)) (.int .i64 (k : Int))).run Try.prog w = .ok (.int .u8 ((l.getD k 0).toNat : Int)) w := by
  have hs : (bstr l).size = l.length := bstr_size l
  rw [run_index_string (P := Try.prog) w t (bstr l) .i64 (k : Int) ht, dif_pos (by omega)]
  have e : (bstr l)[((k : Nat) : Int).toNat]'(by omega) = l.getD k 0 := by
    rw [List.getD_eq_getElem?_getD, List.getElem?_eq_getElem hk]
    simp [bstr]
    rfl
  rw [e]
theorem byte_is (l : List UInt8) (k : Nat) (hk : k < l.length) (h : k < (bstr l).size) : (bstr l)[k]'h = l.getD k 0 := by
  rw [List.getD_eq_getElem?_getD, List.getElem?_eq_getElem hk]
  simp [bstr]
  rfl
set_option maxHeartbeats 2000000 in
set_option maxRecDepth 20000 in
theorem caApart_any (a b : List UInt8) (w : World) (ha : ∀ j, j < a.length → (a.getD j 0).toNat < 128) (hab : a.length ≤ b.length) (hl : a.length ≤ 1000) :
    Calls Try.prog 51 #[.string (bstr a), .string (bstr b)] w fun e w' => e = .returned (.tuple #[.int .i64 (apK a b a.length), .int .i64 (laK a b a.length)]) ∧ Below w.heap.size w w' := by
  have hsz := bstr_size a
  obtain ⟨s, es⟩ : ∃ s, bstr a = s := ⟨_, rfl⟩
  obtain ⟨t, et⟩ : ∃ t, bstr b = t := ⟨_, rfl⟩
  have ES := Lib.hid es
  have ET := Lib.hid et
  rw [es] at hsz ⊢
  rw [et]
  clear es et
  go_enter Try.func51, Try.ntmps51
  go_wp2
  go_loopw [6, 7] (fun n z wr => ∃ k : Nat, k ≤ a.length ∧ n = .int .i64 (apK a b k) ∧ z = .int .i64 (laK a b k) ∧ wr.heap[w.heap.size]? = some (.stringIter s k) ∧ Below w.heap.size w wr) (fun _ _ wr => a.length - wr.iterPos w.heap.size)
  case atStart => exact ⟨0, Nat.zero_le _, rfl, rfl, w.iter_heap s 0, (Below.refl _ w).alloc (Nat.le_refl _) _⟩
  case round =>
    obtain ⟨k, hk, rfl, rfl, hI, hb⟩ := hrel
    have hp := iterPos_of hI
    by_cases hlt : k < a.length
    · have hks : k < s.size := by omega
      have e0 : ∀ h : k < (bstr a).size, ((bstr a)[k]'h).toNat < 128 := fun h => by rw [byte_is a k hlt h]; exact ha k hlt
      rw [ES.out] at e0
      have hnx : ∀ ty, (Instr.next (.pointer (some ⟨w.heap.size, 0, none⟩)) true ty).run Try.prog wr = _ := fun ty => Lib.run_next_ascii_at wr w.heap.size s k ty hI hks (e0 hks)
      have hI2 := Lib.iterAt_heap wr w.heap.size s k (k + 1) hI
      have hb2 := Lib.below_iterAt hb (Nat.le_refl _) s (k + 1)
      obtain ⟨w1, e1⟩ : ∃ w1, wr.iterAt w.heap.size s (k + 1) = w1 := ⟨_, rfl⟩
      rw [e1] at hnx hI2 hb2
      have hp2 := iterPos_of hI2
      have hA : ∀ wx : World, (Instr.index 9 (.string s) (.int .i64 (k : Int))).run Try.prog wx = .ok (.int .u8 ((a.getD k 0).toNat : Int)) wx := fun wx => by
        rw [← ES.out]; exact byte_at a k hlt 9 Try.underlying9 wx
      have hB : ∀ wx : World, (Instr.index 9 (.string t) (.int .i64 (k : Int))).run Try.prog wx = .ok (.int .u8 ((b.getD k 0).toNat : Int)) wx := fun wx => by
        rw [← ET.out]; exact byte_at b k (by omega) 9 Try.underlying9 wx
      have q1 := apK_le a b k
      obtain ⟨r, er⟩ : ∃ r : Nat, (s[k]'hks).toNat = r := ⟨_, rfl⟩
      rw [er] at hnx
      by_cases hxy : a.getD k 0 = b.getD k 0
      · have HS := Lib.hid (apK_same hxy)
        rw [← hxy] at hB
        obtain ⟨x, ex⟩ : ∃ x : Int, ((a.getD k 0).toNat : Int) = x := ⟨_, rfl⟩
        rw [ex] at hA hB
        obtain ⟨p, ep⟩ : ∃ p : Nat, apK a b k = p := ⟨_, rfl⟩
        obtain ⟨z, ez⟩ : ∃ z : Int, laK a b k = z := ⟨_, rfl⟩
        rw [ep] at HS q1 ⊢
        rw [ez] at HS ⊢
        clear e0 er e1 ex hxy ep ez hI hb hks
        go_wp2
        go_region
        all_goals
          go_wp2
          go_roundw
          case rel => exact ⟨k + 1, by omega, by rw [HS.out.1], by rw [HS.out.2], by first | exact hI2 | simpa using hI2, by first | exact hb2 | exact below_drewN hb2 _⟩
          case measure => first | (rw [hp, show World.iterPos _ w.heap.size = k + 1 from iterPos_of (by first | exact hI2 | simpa using hI2)]; omega) | (simp [hp, hp2]; omega)
      · have HS := Lib.hid (apK_diff hxy)
        have hne : ¬ ((a.getD k 0).toNat : Int) = ((b.getD k 0).toNat : Int) := fun e => hxy (UInt8.toNat_inj.1 (by omega))
        obtain ⟨x, ex⟩ : ∃ x : Int, ((a.getD k 0).toNat : Int) = x := ⟨_, rfl⟩
        obtain ⟨y, ey⟩ : ∃ y : Int, ((b.getD k 0).toNat : Int) = y := ⟨_, rfl⟩
        rw [ex] at hA hne
        rw [ey] at hB hne
        have dxy : (x == y) = false := by simpa using hne
        obtain ⟨p, ep⟩ : ∃ p : Nat, apK a b k = p := ⟨_, rfl⟩
        obtain ⟨z, ez⟩ : ∃ z : Int, laK a b k = z := ⟨_, rfl⟩
        rw [ep] at HS q1 ⊢
        rw [ez]
        clear e0 er e1 ex ey hxy hne ep ez hI hb hks
        go_wp2
        go_region
        all_goals
          go_wp2
          go_roundw
          case rel => exact ⟨k + 1, by omega, by rw [HS.out.1]; go_num, by rw [HS.out.2], by first | exact hI2 | simpa using hI2, by first | exact hb2 | exact below_drewN hb2 _⟩
          case measure => first | (rw [hp, show World.iterPos _ w.heap.size = k + 1 from iterPos_of (by first | exact hI2 | simpa using hI2)]; omega) | (simp [hp, hp2]; omega)
    · have hke : k = a.length := by omega
      have hnx : ∀ ty, (Instr.next (.pointer (some ⟨w.heap.size, 0, none⟩)) true ty).run Try.prog wr = _ := fun ty => Lib.run_next_end_at wr w.heap.size s k ty hI (by omega)
      subst hke
      go_wp2
      go_ret2
      exact ⟨rfl, hb⟩

end Go.Proofs.Ytmcbhpmkhbmlgaa
