/-
  FirstsSum in the program, by its contract. Condition: at most 2^40 lists of at most 2^40 numbers.
-/
import Derived.Test.YtmcbhpmkhbmlgaaQa
import Derived.Test.YtmcbhpmkhbmlgaaKgk
namespace Go.Proofs.Ytmcbhpmkhbmlgaa
open Go.RowKit

set_option maxHeartbeats 8000000 in
set_option maxRecDepth 20000 in
theorem implFirstsSum_any (n : Int) (v : Value) (Ls : List (List Int)) (a : List UInt8) (w : World) (h : Svv w v Ls) (hl : Ls.length ≤ 1099511627776) (hx : ∀ j, j < Ls.length → (rowL Ls j).length ≤ 1099511627776) :
    Calls Try.prog 29 #[.agg #[.int .i64 n, v], .string (bstr a)] w fun e w' => e = .returned (.tuple #[.int .i64 (fuR n Ls a), .bool (fuB n Ls a)]) ∧ Below w.heap.size w w' := by
  obtain ⟨p, cap, rfl⟩ := svv_form h
  have hb0 : Below w.heap.size w (w.alloc (.cells #[.int .i64 n, .slice p Ls.length cap] 36)) := (Below.refl _ w).alloc (Nat.le_refl _) _
  have AC := implAreCards_any n _ Ls _ (h.below hb0 (Nat.le_refl _)) hl hx
  have AA := Lib.hid (fun (W : World) (hb : Below w.heap.size w W) => areAnswers_any n _ Ls a W (h.below hb (Nat.le_refl _)))
  have C0 := card_n w n (.slice p Ls.length cap)
  have C1 := card_v w n (.slice p Ls.length cap)
  have H := Lib.hid h
  have FB : Hid (fuB n Ls a = (caB n Ls && ynB Ls a && fsS Ls a)) := Lib.hid (by simp [fuB, ask_yn])
  have FR : Hid (fuR n Ls a = if (caB n Ls && ynB Ls a) = true then fsV Ls a else 0) := Lib.hid (by simp [fuR, ask_yn])
  have hsz := bstr_size a
  obtain ⟨s, es⟩ : ∃ s, bstr a = s := ⟨_, rfl⟩
  have ES := Lib.hid es
  rw [es] at AA hsz ⊢
  clear h hx es
  cases hg : caB n Ls with
  | false =>
    rw [hg] at AC FB FR
    have AC2 := Lib.hid AC
    clear hg AC
    go_enter Try.func29, Try.ntmps29
    go_wp2_with (go_at_call 46; refine AC2.out.mono ?_; rintro e w1 ⟨rfl, b1⟩; have B1 := nxt hb0 b1)
    go_ret2
    exact ⟨ret_ib (by rw [FR.out]; rfl) (by rw [FB.out]; rfl), B1⟩
  | true =>
    rw [hg] at AC FB FR
    have AC2 := Lib.hid AC
    have G := Lib.hid (caB_iff.1 hg)
    have hlo := G.out.lo
    have hhi := G.out.hi
    have hl12 := G.out.len
    clear hg AC
    cases hy : ynB Ls a with
    | false =>
      rw [hy] at FB FR AA
      clear hy
      go_enter Try.func29, Try.ntmps29
      go_wp2_with (first
        | (go_at_call 46; refine AC2.out.mono ?_; rintro e w1 ⟨rfl, b1⟩; have B1 := nxt hb0 b1; have d0 := (b1.cell (p := ⟨w.heap.size, 0, none⟩) (by simp)).trans C0; have d1 := (b1.cell (p := ⟨w.heap.size, 1, none⟩) (by simp)).trans C1)
        | (go_at_call 47; refine (AA.out _ B1).mono ?_; rintro e w2 ⟨rfl, b2⟩; have B2 := nxt B1 b2))
      go_ret2
      exact ⟨ret_ib (by rw [FR.out]; rfl) (by rw [FB.out]; rfl), B2⟩
    | true =>
      rw [hy] at FB FR AA
      have YN : Hid (a.length = Ls.length ∧ YnTo a a.length) := Lib.hid (by simpa [ynB] using hy)
      have hal := YN.out.1
      clear hy
      go_enter Try.func29, Try.ntmps29
      go_wp2_with (first
        | (go_at_call 46; refine AC2.out.mono ?_; rintro e w1 ⟨rfl, b1⟩; have B1 := nxt hb0 b1; have d0 := (b1.cell (p := ⟨w.heap.size, 0, none⟩) (by simp)).trans C0; have d1 := (b1.cell (p := ⟨w.heap.size, 1, none⟩) (by simp)).trans C1; have z1 : w.heap.size < w1.heap.size := Nat.lt_of_lt_of_le (by simp) b1.size)
        | (go_at_call 47; refine (AA.out _ B1).mono ?_; rintro e w2 ⟨rfl, b2⟩; have B2 := nxt B1 b2; have e1 := (b2.cell (p := ⟨w.heap.size, 1, none⟩) z1).trans d1; have z2 : w.heap.size < w2.heap.size := Nat.lt_of_lt_of_le z1 b2.size; clear C0 C1 d0 d1))
      go_loopw [6] (fun t wr => ∃ (k : Nat) (y : Int), k ≤ a.length ∧ t = .int .i64 y ∧ 0 ≤ y ∧ y ≤ 127 * k ∧ Hid (fsK Ls a k = some y) ∧ wr.heap[w2.heap.size]? = some (.stringIter s k) ∧ Below w.heap.size w wr ∧ wr.cell? ⟨w.heap.size, 1, none⟩ = some (.slice p Ls.length cap)) (fun _ wr => a.length - wr.iterPos w2.heap.size)
      case atStart => exact ⟨0, 0, Nat.zero_le _, rfl, by omega, by omega, Lib.hid rfl, w2.iter_heap s 0, B2.alloc B2.size _, (((Below.refl w2.heap.size w2).alloc (Nat.le_refl _) _).cell (p := ⟨w.heap.size, 1, none⟩) z2).trans e1⟩
      case round =>
        clear B2 e1
        obtain ⟨k, y, hk, rfl, hy0, hy1, HF, hI, hb, C1⟩ := hrel
        have hp := iterPos_of hI
        by_cases hlt : k < a.length
        · have hks : k < s.size := by omega
          have hbyte : ∀ h : k < (bstr a).size, (bstr a)[k]'h = a.getD k 0 := fun h => byte_is a k hlt h
          rw [ES.out] at hbyte
          have hyk := YN.out.2 k hlt
          have e0 : (s[k]'hks).toNat < 128 := by
            rw [hbyte hks]
            rcases hyk with e | e <;> rw [e] <;> decide
          have hnx : ∀ ty, (Instr.next (.pointer (some ⟨w2.heap.size, 0, none⟩)) true ty).run Try.prog wr = _ := fun ty => Lib.run_next_ascii_at wr w2.heap.size s k ty hI hks e0
          have hI2 := Lib.iterAt_heap wr w2.heap.size s k (k + 1) hI
          have hb2 := Lib.below_iterAt hb (k := w2.heap.size) (by omega) s (k + 1)
          have C2 : (wr.iterAt w2.heap.size s (k + 1)).cell? ⟨w.heap.size, 1, none⟩ = some (.slice p Ls.length cap) := by
            rw [← C1]; simp only [World.cell?]; rw [Lib.iterAt_other _ _ _ _ _ (by omega)]
          obtain ⟨w3, e3⟩ : ∃ w3, wr.iterAt w2.heap.size s (k + 1) = w3 := ⟨_, rfl⟩
          rw [e3] at hnx hI2 hb2 C2
          rw [hbyte hks] at hnx
          obtain ⟨b, off, rfl, hbl, hr⟩ := svv_row H.out (by omega)
          obtain ⟨u, hcell, hs⟩ := hr k (by omega)
          have hcell := (hb2.cell (p := ⟨b, off + k, none⟩) hbl).trans hcell
          obtain ⟨pu, cu, rfl, hu⟩ := hs.below hb2 (Nat.le_refl _)
          have hris := G.out.ris k (by omega)
          have hk0 : (0 : Int) ≤ (k : Int) := by omega
          have hk1 : (k : Int) < Ls.length := by omega
          clear e0 e3 hI hb hks C1 hbyte hr hs
          by_cases hc : a.getD k 0 = 121
          · rw [hc] at hnx
            by_cases hz : (rowL Ls k).length = 0
            · have HN := Lib.hid (fs_none (by omega) (fsK_empty HF.out hc hz))
              have dz : (((rowL Ls k).length : Int) == 0) = true := by rw [hz]; rfl
              clear hu hc hris hz hyk
              go_wp2
              go_ret2
              exact ⟨ret_ib (by rw [FR.out]; exact HN.out.1.symm) (by rw [FB.out, HN.out.2]; rfl), hb2⟩
            · have HN := Lib.hid (fsK_add HF.out hc hz)
              have dz : (((rowL Ls k).length : Int) == 0) = false := by rw [beq_eq_false_iff_ne]; omega
              obtain ⟨bu, ou, rfl, hbu, hcu⟩ := hu (by omega)
              have hx := hcu 0 (by omega)
              rw [Nat.add_zero] at hx
              have hbd := hris.1 0 (by show 0 < (rowL Ls k).length; omega)
              have hpos : (0 : Int) < (rowL Ls k).length := by omega
              change 0 ≤ (rowL Ls k).getD 0 0 ∧ (rowL Ls k).getD 0 0 ≤ n - 1 at hbd
              have HN : Hid (fsK Ls a (k + 1) = some (y + (rowL Ls k).getD 0 0)) := HN
              obtain ⟨x, ex⟩ : ∃ x, (rowL Ls k).getD 0 0 = x := ⟨_, rfl⟩
              rw [ex] at hx HN hbd
              obtain ⟨hbd0, hbd1⟩ := hbd
              clear hu hc hris hz ex hcu hyk
              go_wp2
              go_roundw
              case rel => exact ⟨k + 1, y + x, by omega, by go_num, by omega, by omega, HN, hI2, hb2, C2⟩
              case measure => rw [hp, iterPos_of hI2]; omega
          · have hn : a.getD k 0 = 110 := by rcases hyk with e | e; exact absurd e hc; exact e
            have HN := Lib.hid (fsK_skip HF.out hc)
            rw [hn] at hnx
            clear hu hc hris hyk hn
            go_wp2
            go_roundw
            case rel => exact ⟨k + 1, y, by omega, rfl, by omega, by omega, HN, hI2, hb2, C2⟩
            case measure => rw [hp, iterPos_of hI2]; omega
        · have hke : k = a.length := by omega
          have hnx : ∀ ty, (Instr.next (.pointer (some ⟨w2.heap.size, 0, none⟩)) true ty).run Try.prog wr = _ := fun ty => Lib.run_next_end_at wr w2.heap.size s k ty hI (by omega)
          clear hI
          have HN := Lib.hid (fs_some (Ls := Ls) (a := a) (s := y) (by rw [← hal, ← hke]; exact HF.out))
          go_wp2
          go_ret2
          exact ⟨ret_ib (by rw [FR.out]; exact HN.out.1.symm) (by rw [FB.out, HN.out.2]; rfl), hb⟩
end Go.Proofs.Ytmcbhpmkhbmlgaa
