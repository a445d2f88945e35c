/-
  The library's IndexRune and ContainsRune in a text of signs of one byte, at every rune, by contracts. Condition: a text of at most 2^40 signs.
-/
import Derived.Test.YtmcbhpmkhbmlgaaKgd
import Derived.Deep.RegionWith
import Derived.BigRegion
import Derived.IntWalk
import Derived.Lib.OthersKept
import Derived.WalkSmall
import Derived.Laws.Runes
import Derived.Laws.RangeAny
import Derived.Laws.StandIn
import Derived.WalkMore
namespace Go.Proofs.Ytmcbhpmkhbmlgaa
open Go.RowKit

theorem ibs_run (s : ByteArray) (c : Int) (w : World) : (callFunc 81 #[.string s, .int .u8 c]).run Try.prog w = .ok (.value (.int .i64 (firstIdx s c.toNat.toUInt8))) w := by
  rw [run_callFunc_indexByte Try.func81 (by kernel_rfl) (by kernel_rfl) (by kernel_rfl) (by kernel_rfl), run_indexByte_string]
  rfl
theorem lite_any (s : ByteArray) (c : Int) (w : World) : Calls Try.prog 80 #[.string s, .int .u8 c] w fun e w' => e = .returned (.int .i64 (firstIdx s c.toNat.toUInt8)) ∧ w = w' := by
  have hr := ibs_run s c
  obtain ⟨q, eq⟩ : ∃ q, firstIdx s c.toNat.toUInt8 = q := ⟨_, rfl⟩
  rw [eq] at hr ⊢
  clear eq
  go_enter Try.func80, Try.ntmps80
  go_wp2
  go_ret
  exact ⟨rfl, rfl⟩
theorem indexByte_any (s : ByteArray) (c : Int) (w : World) : Calls Try.prog 76 #[.string s, .int .u8 c] w fun e w' => e = .returned (.int .i64 (firstIdx s c.toNat.toUInt8)) ∧ w = w' := by
  have hr := fun w => Lib.hid (lite_any s c w)
  obtain ⟨q, eq⟩ : ∃ q, firstIdx s c.toNat.toUInt8 = q := ⟨_, rfl⟩
  rw [eq] at hr ⊢
  clear eq
  go_enter Try.func76, Try.ntmps76
  go_wp2_with (go_at_call 80; refine (hr _).out.mono ?_; rintro e w' ⟨rfl, rfl⟩)
  go_ret
  exact ⟨rfl, rfl⟩
theorem validRune_any (r : Int) (w : World) : Calls Try.prog 77 #[.int .i32 r] w fun e w' => e = .returned (.bool (Utf8.valid r)) ∧ w = w' := by
  have e := validRune_eq r
  have R := Lib.hid e
  clear e
  by_cases h1 : 0 ≤ r
  · by_cases h2 : r < 55296
    · have V := Lib.hid (show validRune r = true by simp only [validRune, decide_eq_true_eq]; exact .inl ⟨h1, h2⟩)
      go_enter Try.func77, Try.ntmps77
      go_wp2
      go_ret
      exact ⟨ret_bool (by rw [R.out, V.out]), rfl⟩
    · by_cases h3 : 57343 < r
      · by_cases h4 : r ≤ 1114111
        · have V := Lib.hid (show validRune r = true by simp only [validRune, decide_eq_true_eq]; exact .inr ⟨h3, h4⟩)
          go_enter Try.func77, Try.ntmps77
          go_wp2
          go_ret
          exact ⟨ret_bool (by rw [R.out, V.out]), rfl⟩
        · have V := Lib.hid (show validRune r = false by simp only [validRune, decide_eq_false_iff_not]; omega)
          go_enter Try.func77, Try.ntmps77
          go_wp2
          go_ret
          exact ⟨ret_bool (by rw [R.out, V.out]), rfl⟩
      · have V := Lib.hid (show validRune r = false by simp only [validRune, decide_eq_false_iff_not]; omega)
        go_enter Try.func77, Try.ntmps77
        go_wp2
        go_ret
        exact ⟨ret_bool (by rw [R.out, V.out]), rfl⟩
  · have V := Lib.hid (show validRune r = false by simp only [validRune, decide_eq_false_iff_not]; omega)
    go_enter Try.func77, Try.ntmps77
    go_wp2
    go_ret
    exact ⟨ret_bool (by rw [R.out, V.out]), rfl⟩

/-- Whether a rune is one of some signs of one byte. -/
def runeB (ss : List UInt8) (r : Int) : Bool := decide (r < 128) && ss.any (· == r.toNat.toUInt8)
theorem runeB_high {ss : List UInt8} {r : Int} (h : 128 ≤ r) : runeB ss r = false := by
  have : decide (r < 128) = false := by simpa using h
  simp [runeB, this]
theorem runeB_low {ss : List UInt8} {b : UInt8} (h : b.toNat < 128) : runeB ss (b.toNat : Int) = decide (b ∈ ss) := by
  have e : decide ((b.toNat : Int) < 128) = true := by simp; omega
  have e2 : ((b.toNat : Int)).toNat.toUInt8 = b := by
    rw [Int.toNat_natCast]
    exact UInt8.ofNat_toNat
  simp only [runeB, e, Bool.true_and, e2]
  rw [Bool.eq_iff_iff]
  simp
theorem bstr_mem {ss : List UInt8} {b : UInt8} (h : b ∈ (bstr ss).data.toList) : b ∈ ss := by simpa [bstr] using h
theorem runeB_idx (ss : List UInt8) {r : Int} (h : r < 128) : decide (0 ≤ firstIdx (bstr ss) r.toNat.toUInt8) = runeB ss r := by
  have e : decide (r < 128) = true := by simpa using h
  rw [firstIdx_nonneg]
  simp [runeB, e, bstr]

set_option maxHeartbeats 8000000 in
set_option maxRecDepth 100000 in
theorem indexRune_any (ss : List UInt8) (r : Int) (w : World) (hs : ∀ b ∈ ss, b.toNat < 128) (_hl : ss.length ≤ 1099511627776) (h0 : 0 ≤ r) (h1 : r ≤ 2147483647) :
    Calls Try.prog 75 #[.string (bstr ss), .int .i32 r] w fun e w' => (∃ q : Int, e = .returned (.int .i64 q) ∧ decide (0 ≤ q) = runeB ss r) ∧ Below w.heap.size w w' := by
  have hsz := bstr_size ss
  by_cases hlo : r < 128
  · have R := Lib.hid (runeB_idx ss hlo)
    have IB := fun w => Lib.hid (indexByte_any (bstr ss) r w)
    obtain ⟨q, eq⟩ : ∃ q, firstIdx (bstr ss) r.toNat.toUInt8 = q := ⟨_, rfl⟩
    rw [eq] at R IB
    obtain ⟨s, es⟩ : ∃ s, bstr ss = s := ⟨_, rfl⟩
    rw [es] at IB ⊢
    have hw : IntKind.u8.wrap r = r := by rw [IntKind.wrap_u8]; omega
    clear eq es hsz hs
    go_enter Try.func75, Try.ntmps75
    go_wp2_with (go_at_call 76; refine (IB _).out.mono ?_; rintro e w' ⟨rfl, rfl⟩)
    go_ret
    exact ⟨⟨_, rfl, R.out⟩, Below.refl _ _⟩
  · have hhi : 128 ≤ r := by omega
    have RB := Lib.hid (runeB_high (ss := ss) hhi)
    by_cases he : r = 65533
    · subst he
      have HS : Hid (∀ k : Nat, ∀ h : k < (bstr ss).size, ((bstr ss)[k]'h).toNat < 128) := Lib.hid (fun k h => by
        have hk : k < ss.length := by omega
        rw [byte_is ss k hk h]
        apply hs
        rw [List.getD_eq_getElem?_getD, List.getElem?_eq_getElem hk]
        exact List.getElem_mem _)
      obtain ⟨s, es⟩ : ∃ s, bstr ss = s := ⟨_, rfl⟩
      rw [es] at HS hsz ⊢
      clear es hs
      go_enter Try.func75, Try.ntmps75
      go_wp2
      go_loopw [5, 6] (fun _ _ wr => ∃ k : Nat, k ≤ s.size ∧ wr.heap[w.heap.size]? = some (.stringIter s k) ∧ Below w.heap.size w wr) (fun _ _ wr => s.size - wr.iterPos w.heap.size)
      case atStart => exact ⟨0, Nat.zero_le _, w.iter_heap s 0, (Below.refl _ _).alloc (Nat.le_refl _) _⟩
      case round =>
        obtain ⟨k, hk, hI, hb⟩ := hrel
        have hp := iterPos_of hI
        by_cases hlt : k < s.size
        · have hnx : ∀ ty, (Instr.next (.pointer (some ⟨w.heap.size, 0, none⟩)) true ty).run Try.prog wr = _ := fun ty => Lib.run_next_ascii_at wr w.heap.size s k ty hI hlt (HS.out k hlt)
          have hb8 := HS.out k hlt
          have hI2 := Lib.iterAt_heap wr w.heap.size s k (k + 1) hI
          have hb2 := Lib.below_iterAt hb (Nat.le_refl _) s (k + 1)
          obtain ⟨w2, e2⟩ : ∃ w2, wr.iterAt w.heap.size s (k + 1) = w2 := ⟨_, rfl⟩
          rw [e2] at hnx hI2 hb2
          obtain ⟨c, ec⟩ : ∃ c : Nat, (s[k]'hlt).toNat = c := ⟨_, rfl⟩
          rw [ec] at hnx hb8
          have hne : ((c : Int) == 65533) = false := by rw [beq_eq_false_iff_ne]; omega
          clear ec e2 hI hb
          go_wp2
          go_roundw
          case rel => exact ⟨k + 1, by omega, hI2, hb2⟩
          case measure => rw [hp, iterPos_of hI2]; omega
        · have hnx : ∀ ty, (Instr.next (.pointer (some ⟨w.heap.size, 0, none⟩)) true ty).run Try.prog wr = _ := fun ty => Lib.run_next_end_at wr w.heap.size s k ty hI (by omega)
          go_wp2
          go_ret
          exact ⟨⟨-1, rfl, by rw [RB.out]; rfl⟩, hb⟩
    · have VR := fun w => Lib.hid (validRune_any r w)
      cases hv : Utf8.valid r with
      | false =>
        rw [hv] at VR
        obtain ⟨s, es⟩ : ∃ s, bstr ss = s := ⟨_, rfl⟩
        rw [es]
        have d : (r == 65533) = false := by simpa using he
        clear es hs hsz hv he
        go_enter Try.func75, Try.ntmps75
        go_wp2_with (go_at_call 77; refine (VR _).out.mono ?_; rintro e w' ⟨rfl, rfl⟩)
        go_ret
        exact ⟨⟨-1, rfl, by rw [RB.out]; rfl⟩, Below.refl _ _⟩
      | true =>
        rw [hv] at VR
        obtain ⟨e2, e4, eL⟩ := encode_facts r hv hhi
        obtain ⟨E, hE⟩ : ∃ E, Utf8.encode r = E := ⟨_, rfl⟩
        rw [hE] at e2 e4 eL
        obtain ⟨L, hL⟩ : ∃ L : Nat, E.size = L + 1 := ⟨E.size - 1, by omega⟩
        have hLs : E.size - 1 < E.size := by omega
        have eL := eL hLs
        have d : (r == 65533) = false := by simpa using he
        obtain ⟨c, ec⟩ : ∃ c : Nat, (E[E.size - 1]'hLs).toNat = c := ⟨_, rfl⟩
        have hc8 : c < 256 := by rw [← ec]; exact UInt8.toNat_lt _
        rw [ec] at eL
        have hIL : ∀ wx : World, (Instr.index 9 (.string E) (.int .i64 (L : Int))).run Try.prog wx = .ok (.int .u8 (c : Int)) wx := fun wx => by
          rw [run_index_string (P := Try.prog) wx 9 E .i64 (L : Int) Try.underlying9, dif_pos (by omega)]
          have : ((L : Int)).toNat = E.size - 1 := by omega
          simp only [this, ec]
        have FI : Hid (∀ a e : Nat, firstIdx ((bstr ss).extract a e) ((c : Int)).toNat.toUInt8 = -1) := Lib.hid (fun a e => firstIdx_ascii (bstr ss) a e _ (fun b hb => hs b (bstr_mem hb)) (by
          rw [Int.toNat_natCast]
          show 128 ≤ (UInt8.ofNat c).toNat
          rw [UInt8.toNat_ofNat']
          omega))
        have hcv : ∀ wx : World, (convert 21 9 (.int .i32 r)).run Try.prog wx = .ok (.string E) wx := fun wx => by
          rw [← hE]; exact run_convert_int_string wx 21 9 .i32 r (by rw [Try.underlying21]; rfl) Try.underlying9
        clear hE
        have HS : Hid (∀ k : Nat, k < ss.length → (ss.getD k 0).toNat < 128) := Lib.hid (fun k hk => by
          apply hs
          rw [List.getD_eq_getElem?_getD, List.getElem?_eq_getElem hk]
          exact List.getElem_mem _)
        have BA := Lib.hid (fun k (hk : k < ss.length) wx => byte_at ss k hk 9 Try.underlying9 wx)
        have IB := fun (a e : Nat) w => Lib.hid (by have h := indexByte_any ((bstr ss).extract a e) (c : Int) w; rw [FI.out a e] at h; exact h)
        obtain ⟨s, es⟩ : ∃ s, bstr ss = s := ⟨_, rfl⟩
        rw [es] at BA IB hsz ⊢
        clear es hs hv he ec FI
        by_cases hLl : L < ss.length
        · have hA := BA.out L hLl
          have hb8 := HS.out L hLl
          obtain ⟨b, eb⟩ : ∃ b : Nat, (ss.getD L 0).toNat = b := ⟨_, rfl⟩
          rw [eb] at hA hb8
          have hne : ((b : Int) != (c : Int)) = true := by simp; omega
          have hLi : (L : Int) < (s.size : Int) := by omega
          have hw1 : IntKind.i64.wrap ((L : Int) + 1) = (L : Int) + 1 := IntWalk.i64_in _ (by omega)
          have hcut : ∀ wx : World, (Instr.slice 9 (.string s) (some (.int .i64 ((L : Int) + 1))) none none).run Try.prog wx = .ok (.string (s.extract ((L : Int) + 1).toNat s.size)) wx := fun wx => by
            rw [run_slice_string_from_if (P := Try.prog) wx 9 s .i64 ((L : Int) + 1) Try.underlying9, if_pos (by omega)]
          have IX := fun w => IB ((L : Int) + 1).toNat s.size w
          obtain ⟨X, eX⟩ : ∃ X, s.extract ((L : Int) + 1).toNat s.size = X := ⟨_, rfl⟩
          rw [eX] at hcut IX
          clear eX
          go_enter Try.func75, Try.ntmps75
          go_wp2_with (go_at_call 77; refine (VR _).out.mono ?_; rintro e w' ⟨rfl, rfl⟩)
          go_wp2
          go_step3
          go_wp2
          go_loopw [9, 10] (fun i f wr => i = .int .i64 L ∧ f = .int .i64 0 ∧ Below w.heap.size w wr) (fun _ _ _ => 0)
          case atStart => exact ⟨rfl, rfl, Below.refl _ _⟩
          case round =>
            obtain ⟨rfl, rfl, hb⟩ := hrel
            go_wp2
            go_step3
            go_wp2
            go_quiet (fail)
            go_wp2
            go_region_with (go_at_call 76; refine (IX _).out.mono ?_; rintro e w' ⟨rfl, rfl⟩)
            all_goals
              go_wp2
              simp +zetaDelta only [Exit.noGoto_ret, Exit.inBlock, Exit.then]
              go_ret
              exact ⟨⟨-1, rfl, by rw [RB.out]; rfl⟩, by first | exact hb | exact below_drewN hb _ | exact (below_drewN hb _).drew⟩
        · have hLi : ¬ (L : Int) < (s.size : Int) := by omega
          go_enter Try.func75, Try.ntmps75
          go_wp2_with (go_at_call 77; refine (VR _).out.mono ?_; rintro e w' ⟨rfl, rfl⟩)
          go_wp2
          go_step3
          go_wp2
          go_loopw [9, 10] (fun i f wr => i = .int .i64 L ∧ f = .int .i64 0 ∧ Below w.heap.size w wr) (fun _ _ _ => 0)
          case atStart => exact ⟨rfl, rfl, Below.refl _ _⟩
          case round =>
            obtain ⟨rfl, rfl, hb⟩ := hrel
            go_wp2
            simp only [Exit.noGoto_ret]
            go_ret
            exact ⟨⟨-1, rfl, by rw [RB.out]; rfl⟩, hb⟩

set_option maxHeartbeats 2000000 in
theorem containsRune_any (ss : List UInt8) (r : Int) (w : World) (hs : ∀ b ∈ ss, b.toNat < 128) (hl : ss.length ≤ 1099511627776) (h0 : 0 ≤ r) (h1 : r ≤ 2147483647) :
    Calls Try.prog 73 #[.string (bstr ss), .int .i32 r] w fun e w' => e = .returned (.bool (runeB ss r)) ∧ Below w.heap.size w w' := by
  have IR := Lib.hid (indexRune_any ss r w hs hl h0 h1)
  obtain ⟨s, es⟩ : ∃ s, bstr ss = s := ⟨_, rfl⟩
  rw [es] at IR ⊢
  clear es
  go_enter Try.func73, Try.ntmps73
  go_wp2_with (go_at_call 75; refine IR.out.mono ?_; rintro e w2 ⟨⟨q, rfl, hq⟩, b2⟩; have HQ := Lib.hid hq; clear hq)
  go_ret
  exact ⟨ret_bool HQ.out, b2⟩

/-- The first k signs of a text are some of the given ones. -/
def InTo (a ss : List UInt8) (k : Nat) : Prop := ∀ j, j < k → a.getD j 0 ∈ ss
noncomputable def onlyB (a ss : List UInt8) : Bool := @decide (InTo a ss a.length) (Classical.propDecidable _)
theorem onlyB_yes {a ss : List UInt8} (h : InTo a ss a.length) : onlyB a ss = true := by simp [onlyB, h]
theorem onlyB_no {a ss : List UInt8} {k : Nat} (hk : k < a.length) (h : a.getD k 0 ∉ ss) : onlyB a ss = false := by
  simp only [onlyB, decide_eq_false_iff_not]; exact fun g => h (g k hk)

set_option maxHeartbeats 2000000 in
set_option maxRecDepth 20000 in
theorem hasOnly_any (a ss : List UInt8) (w : World) (hs : ∀ b ∈ ss, b.toNat < 128) (hl : ss.length ≤ 1099511627776) :
    Calls Try.prog 66 #[.string (bstr a), .string (bstr ss)] w fun e w' => e = .returned (.bool (onlyB a ss)) ∧ Below w.heap.size w w' := by
  have hsz := bstr_size a
  have CR := Lib.hid (fun (r : Int) (W : World) (h0 : 0 ≤ r) (h1 : r ≤ 2147483647) => containsRune_any ss r W hs hl h0 h1)
  have HS := Lib.hid hs
  have BY := Lib.hid (fun k (hk : k < a.length) (h : k < (bstr a).size) => byte_is a k hk h)
  obtain ⟨t, et⟩ : ∃ t, bstr ss = t := ⟨_, rfl⟩
  obtain ⟨s, es⟩ : ∃ s, bstr a = s := ⟨_, rfl⟩
  rw [et] at CR ⊢
  rw [es] at hsz BY ⊢
  clear es et hs
  go_enter Try.func66, Try.ntmps66
  go_wp2
  go_loopw [6] (fun _ wr => ∃ k : Nat, k ≤ a.length ∧ Hid (InTo a ss k) ∧ wr.heap[w.heap.size]? = some (.stringIter s k) ∧ Below w.heap.size w wr) (fun _ wr => a.length - wr.iterPos w.heap.size)
  case atStart => exact ⟨0, Nat.zero_le _, Lib.hid (fun j hj => by omega), w.iter_heap s 0, (Below.refl _ _).alloc (Nat.le_refl _) _⟩
  case round =>
    obtain ⟨k, hk, HI, hI, hb⟩ := hrel
    have hp := iterPos_of hI
    by_cases hlt : k < a.length
    · have hks : k < s.size := by omega
      have hbk := BY.out k hlt hks
      by_cases h8 : (a.getD k 0).toNat < 128
      · have hnx : ∀ ty, (Instr.next (.pointer (some ⟨w.heap.size, 0, none⟩)) true ty).run Try.prog wr = _ := fun ty => Lib.run_next_ascii_at wr w.heap.size s k ty hI hks (by rw [hbk]; exact h8)
        have hI2 := Lib.iterAt_heap wr w.heap.size s k (k + 1) hI
        have hb2 := Lib.below_iterAt hb (Nat.le_refl _) s (k + 1)
        obtain ⟨w2, e2⟩ : ∃ w2, wr.iterAt w.heap.size s (k + 1) = w2 := ⟨_, rfl⟩
        rw [e2] at hnx hI2 hb2
        rw [hbk] at hnx
        have C2 := CR.out ((a.getD k 0).toNat : Int) w2 (by omega) (by omega)
        rw [runeB_low h8] at C2
        have C3 := Lib.hid C2
        obtain ⟨c, ec⟩ : ∃ c : Nat, (a.getD k 0).toNat = c := ⟨_, rfl⟩
        rw [ec] at hnx C3
        have hlti : w.heap.size < w2.heap.size := (Array.getElem?_eq_some_iff.1 hI2).1
        clear C2 e2 hI hb ec hbk
        by_cases hm : a.getD k 0 ∈ ss
        · have d : decide (a.getD k 0 ∈ ss) = true := by simpa using hm
          rw [d] at C3
          have HI2 : Hid (InTo a ss (k + 1)) := Lib.hid (fun j hj => by
            by_cases e : j = k
            · subst e; exact hm
            · exact HI.out j (by omega))
          clear hm d
          go_wp2_with (go_at_call 73; refine C3.out.mono ?_; rintro e w3 ⟨rfl, b3⟩)
          have hI3 := (b3.block w.heap.size hlti).trans hI2
          go_roundw
          case rel => exact ⟨k + 1, by omega, HI2, hI3, hb2.trans (b3.mono (by omega))⟩
          case measure => rw [hp, iterPos_of hI3]; omega
        · have d : decide (a.getD k 0 ∈ ss) = false := by simpa using hm
          rw [d] at C3
          have R := Lib.hid (onlyB_no hlt hm)
          clear hm d
          go_wp2_with (go_at_call 73; refine C3.out.mono ?_; rintro e w3 ⟨rfl, b3⟩)
          go_ret
          exact ⟨ret_bool R.out.symm, hb2.trans (b3.mono (by omega))⟩
      · have hm : a.getD k 0 ∉ ss := fun h => h8 (HS.out _ h)
        have hnx : ∀ ty, (Instr.next (.pointer (some ⟨w.heap.size, 0, none⟩)) true ty).run Try.prog wr = _ := fun ty => Lib.run_next_any_at wr w.heap.size s k ty hI hks
        have hd := decode_high s k hks (by rw [hbk]; omega)
        have hd2 := decode_le s k
        have hI2 := Lib.iterAt_heap wr w.heap.size s k (k + (Utf8.decode s k).2) hI
        have hb2 := Lib.below_iterAt hb (Nat.le_refl _) s (k + (Utf8.decode s k).2)
        obtain ⟨w2, e2⟩ : ∃ w2, wr.iterAt w.heap.size s (k + (Utf8.decode s k).2) = w2 := ⟨_, rfl⟩
        rw [e2] at hnx hI2 hb2
        obtain ⟨r, er⟩ : ∃ r, (Utf8.decode s k).1 = r := ⟨_, rfl⟩
        rw [er] at hnx hd hd2
        have hlti : w.heap.size < w2.heap.size := (Array.getElem?_eq_some_iff.1 hI2).1
        have C2 := CR.out r w2 (by omega) (by omega)
        rw [runeB_high (by have := hd.1; omega)] at C2
        have C3 := Lib.hid C2
        have R := Lib.hid (onlyB_no hlt hm)
        clear C2 e2 hI hb er hbk hm hd hd2
        go_wp2_with (go_at_call 73; refine C3.out.mono ?_; rintro e w3 ⟨rfl, b3⟩)
        go_ret
        exact ⟨ret_bool R.out.symm, hb2.trans (b3.mono (by omega))⟩
    · have hke : k = a.length := by omega
      have hnx : ∀ ty, (Instr.next (.pointer (some ⟨w.heap.size, 0, none⟩)) true ty).run Try.prog wr = _ := fun ty => Lib.run_next_end_at wr w.heap.size s k ty hI (by omega)
      have R : Hid (onlyB a ss = true) := Lib.hid (onlyB_yes (by rw [← hke]; exact HI.out))
      go_wp2
      go_ret
      exact ⟨ret_bool R.out.symm, hb⟩

end Go.Proofs.Ytmcbhpmkhbmlgaa
