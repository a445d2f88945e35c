/-
  A deck of cards in the program: the answers of a number, and how many answers are not a number's, by their contracts. Conditions: at most 12 cards; numbers of 0..127.
-/
import Derived.Test.YtmcbhpmkhbmlgaaQc
import Derived.Test.YtmcbhpmkhbmlgaaKgc
namespace Go.Proofs.Ytmcbhpmkhbmlgaa
open Go.RowKit

theorem deck_s (w : World) (n : Int) (v : Value) : (w.alloc (.cells #[.int .i64 n, v] 64)).cell? ⟨w.heap.size, 1, none⟩ = some v := by
  rw [cell_of_row _ _ _ _ _ _ (heap_alloc_new w _)]; rfl
theorem deck_n (w : World) (n : Int) (v : Value) : (w.alloc (.cells #[.int .i64 n, v] 64)).cell? ⟨w.heap.size, 0, none⟩ = some (.int .i64 n) := by
  rw [cell_of_row _ _ _ _ _ _ (heap_alloc_new w _)]; rfl
theorem Dr.form {w : World} {v : Value} {ps : List (Int → Bool)} (h : Dr w v ps) : ∃ p cap, v = .slice p ps.length cap := by
  obtain ⟨p, cap, e, _⟩ := h; exact ⟨p, cap, e⟩
theorem Dr.row {w : World} {p : Option Addr} {cap : Nat} {ps : List (Int → Bool)} (h : Dr w (.slice p ps.length cap) ps) (h0 : 0 < ps.length) :
    ∃ g o, p = some ⟨g, o, none⟩ ∧ g < w.heap.size ∧ ∀ k q, ps[k]? = some q → ∀ j, j < 128 → w.cell? ⟨g, o + (k * 128 + j), none⟩ = some (.bool (q (j : Int))) := by
  obtain ⟨p', cap', e, hx⟩ := h
  simp only [Value.slice.injEq, true_and] at e
  obtain ⟨rfl, rfl⟩ := e
  exact hx h0

set_option maxHeartbeats 4000000 in
set_option maxRecDepth 100000 in
theorem answersOf_any (n x : Int) (v : Value) (ps : List (Int → Bool)) (w : World) (h : Dr w v ps) (hl : ps.length ≤ 12) (h0 : 0 ≤ x) (h1 : x ≤ 127) :
    Calls Try.prog 56 #[.agg #[.int .i64 n, v], .int .i64 x] w fun e w' => e = .returned (.string (bstr (anP ps x))) ∧ Below w.heap.size w w' := by
  obtain ⟨p, cap, rfl⟩ := h.form
  obtain ⟨d, rfl⟩ : ∃ d : Nat, x = d := ⟨x.toNat, by omega⟩
  have hb0 : Below w.heap.size w (w.alloc (.cells #[.int .i64 n, .slice p ps.length cap] 64)) := (Below.refl _ w).alloc (Nat.le_refl _) _
  have H := Lib.hid h
  clear h
  go_enter Try.func56, Try.ntmps56
  go_wp2
  go_loopw [5, 11] (fun t i wr => ∃ (k : Nat) (s : ByteArray), k ≤ ps.length ∧ i = .int .i64 k ∧ t = .string s ∧ Hid (s = bstr (anPK ps d k)) ∧ s.size = k ∧ Below w.heap.size w wr) (fun _ i _ => ps.length - (intOf i).toNat)
  case atStart => exact ⟨0, _, Nat.zero_le _, rfl, rfl, Lib.hid rfl, rfl, hb0⟩
  case round =>
    clear hb0
    obtain ⟨k, s, hk, rfl, rfl, HS, hs, hb⟩ := hrel
    by_cases hlt : k < ps.length
    · obtain ⟨g, o, rfl, hg, hc⟩ := H.out.row (by omega)
      obtain ⟨q, hq⟩ : ∃ q, ps[k]? = some q := ⟨_, List.getElem?_eq_getElem hlt⟩
      have hpart : ∀ j v, (bA q)[j]? = some v → wr.cell? ⟨g, o + k * 128 + j, none⟩ = some v := fun j v hv => by
        have hj : j < 128 := by
          by_cases e : j < 128
          · exact e
          · rw [Array.getElem?_eq_none (by rw [bA_size]; omega)] at hv; cases hv
        rw [bA_at q hj] at hv
        have := (hb.cell (p := ⟨g, o + (k * 128 + j), none⟩) hg).trans (hc k q hq j hj)
        rw [Nat.add_assoc, this]
        exact hv
      have HP := Lib.hid hpart
      have HCs : Hid ((bA q).size = 128) := Lib.hid (bA_size q)
      have HCo : Hid ((bA q).all (·.oneCell') = true) := Lib.hid (bA_one q)
      have hat : (bA q)[d]? = some (.bool (q (d : Int))) := bA_at q (by omega)
      obtain ⟨C, eC⟩ : ∃ C, bA q = C := ⟨_, rfl⟩
      rw [eC] at HP HCs HCo hat
      have YES := fun e => anPK_yes (x := (d : Int)) hq e
      have NO := fun e => anPK_no (x := (d : Int)) hq e
      obtain ⟨z, ez⟩ : ∃ z, q (d : Int) = z := ⟨_, rfl⟩
      rw [ez] at hat YES NO
      have hd0 : (0 : Int) ≤ (d : Int) := by omega
      have hd1 : (d : Int) < 128 := by omega
      clear hpart hc hq eC ez
      cases z
      · have HN := Lib.hid (NO rfl)
        clear YES NO
        go_wp2_with (first
          | (refine wl_load_part rfl 61 _ rfl g (o + k * 128) rfl C _ (by exact HP.out) Try.setU rfl (by rw [HCs.out]; exact Try.setI) ?_)
          | (refine wpList_store_row rfl 61 _ _ rfl wr.heap.size C rfl rfl 61 Try.zeroCells61 (by exact heap_alloc_new wr _) (by rw [HCs.out]; exact Try.setI) (by rw [HCs.out]; exact Try.zcS) HCo.out ?_; rw [World.setRow_alloc_new]))
        go_roundw
        case rel => exact ⟨k + 1, _, by omega, by go_num, rfl, Lib.hid (by rw [HS.out, HN.out, ← bstr_app]; rfl), by rw [ByteArray.size_append, hs]; rfl, hb.alloc hb.size _⟩
        case measure => simp only [intOf]; omega
      · have HN := Lib.hid (YES rfl)
        clear YES NO
        go_wp2_with (first
          | (refine wl_load_part rfl 61 _ rfl g (o + k * 128) rfl C _ (by exact HP.out) Try.setU rfl (by rw [HCs.out]; exact Try.setI) ?_)
          | (refine wpList_store_row rfl 61 _ _ rfl wr.heap.size C rfl rfl 61 Try.zeroCells61 (by exact heap_alloc_new wr _) (by rw [HCs.out]; exact Try.setI) (by rw [HCs.out]; exact Try.zcS) HCo.out ?_; rw [World.setRow_alloc_new]))
        go_roundw
        case rel => exact ⟨k + 1, _, by omega, by go_num, rfl, Lib.hid (by rw [HS.out, HN.out, ← bstr_app]; rfl), by rw [ByteArray.size_append, hs]; rfl, hb.alloc hb.size _⟩
        case measure => simp only [intOf]; omega
    · have hke : k = ps.length := by omega
      subst hke
      have HE := Lib.hid (anPK_all ps (d : Int))
      go_wp2
      go_ret
      exact ⟨ret_str (by rw [HS.out, HE.out]), hb⟩

set_option maxHeartbeats 4000000 in
set_option maxRecDepth 100000 in
theorem liesFor_any (n x : Int) (v : Value) (ps : List (Int → Bool)) (a : List UInt8) (w : World) (h : Dr w v ps) (hl : ps.length ≤ 12) (h0 : 0 ≤ x) (h1 : x ≤ 127) (hy : YnTo a a.length) (ha : a.length = ps.length) :
    Calls Try.prog 53 #[.agg #[.int .i64 n, v], .string (bstr a), .int .i64 x] w fun e w' => e = .returned (.tuple #[.int .i64 (apK (anP ps x) a ps.length), .int .i64 (laK (anP ps x) a ps.length)]) ∧ Below w.heap.size w w' := by
  obtain ⟨p, cap, rfl⟩ := h.form
  obtain ⟨d, rfl⟩ : ∃ d : Nat, x = d := ⟨x.toNat, by omega⟩
  have hd0 : (0 : Int) ≤ (d : Int) := by omega
  have hd1 : (d : Int) < 128 := by omega
  have hsz := bstr_size a
  obtain ⟨s, es⟩ : ∃ s, bstr a = s := ⟨_, rfl⟩
  have ES := Lib.hid es
  rw [es] at hsz ⊢
  clear es
  have hb0 : Below w.heap.size w (w.alloc (.cells #[.int .i64 n, .slice p ps.length cap] 64)) := (Below.refl _ w).alloc (Nat.le_refl _) _
  have H := Lib.hid h
  have HY := Lib.hid hy
  have C1 := deck_s w n (.slice p ps.length cap)
  obtain ⟨W, eW⟩ : ∃ W, w.alloc (.cells #[.int .i64 n, .slice p ps.length cap] 64) = W := ⟨_, rfl⟩
  rw [eW] at hb0 C1
  have HZ : Hid (W.heap.size = w.heap.size + 1) := Lib.hid (by rw [← eW]; simp)
  have EW := Lib.hid eW
  clear h hy eW
  go_enter Try.func53, Try.ntmps53
  go_wp2
  rw [EW.out]
  go_loopw [6, 7] (fun t l wr => ∃ k : Nat, k ≤ a.length ∧ t = .int .i64 (apK (anP ps d) a k) ∧ l = .int .i64 (laK (anP ps d) a k) ∧ wr.heap[w.heap.size + 1]? = some (.stringIter s k) ∧ Below w.heap.size w wr ∧ wr.cell? ⟨w.heap.size, 1, none⟩ = some (.slice p ps.length cap)) (fun _ _ wr => a.length - wr.iterPos (w.heap.size + 1))
  case atStart => exact ⟨0, Nat.zero_le _, rfl, rfl, by have := W.iter_heap s 0; rwa [HZ.out] at this, hb0.alloc hb0.size _, by
    rw [← C1]; exact ((Below.refl (w.heap.size + 1) W).alloc (by rw [HZ.out]; exact Nat.le_refl _) _).cell (p := ⟨w.heap.size, 1, none⟩) (Nat.lt_succ_self _)⟩
  case round =>
    clear C1 hb0
    obtain ⟨k, hk, rfl, rfl, hI, hb, C1⟩ := hrel
    have hp := iterPos_of hI
    by_cases hlt : k < a.length
    · have hks : k < s.size := by omega
      have hbyte : ∀ h : k < (bstr a).size, (bstr a)[k]'h = a.getD k 0 := fun h => byte_is a k hlt h
      rw [ES.out] at hbyte
      have hyk := HY.out k hlt
      have e0 : (s[k]'hks).toNat < 128 := by
        rw [hbyte hks]
        rcases hyk with e | e <;> rw [e] <;> decide
      have hnx : ∀ ty, (Instr.next (.pointer (some ⟨w.heap.size + 1, 0, none⟩)) true ty).run Try.prog wr = _ := fun ty => Lib.run_next_ascii_at wr (w.heap.size + 1) s k ty hI hks e0
      have hI2 := Lib.iterAt_heap wr (w.heap.size + 1) s k (k + 1) hI
      have hb2 := Lib.below_iterAt hb (k := w.heap.size + 1) (by omega) s (k + 1)
      have C2 : (wr.iterAt (w.heap.size + 1) s (k + 1)).cell? ⟨w.heap.size, 1, none⟩ = some (.slice p ps.length cap) := by
        rw [← C1]; simp only [World.cell?]; rw [Lib.iterAt_other _ _ _ _ _ (by omega)]
      obtain ⟨w2, e2⟩ : ∃ w2, wr.iterAt (w.heap.size + 1) s (k + 1) = w2 := ⟨_, rfl⟩
      rw [e2] at hnx hI2 hb2 C2
      rw [hbyte hks] at hnx
      obtain ⟨g, o, rfl, hg, hc⟩ := H.out.row (by omega)
      obtain ⟨q, hq⟩ : ∃ q, ps[k]? = some q := ⟨_, List.getElem?_eq_getElem (by omega)⟩
      have hcell := (hb2.cell (p := ⟨g, o + (k * 128 + d), none⟩) hg).trans (hc k q hq d (by omega))
      rw [← Nat.add_assoc] at hcell
      have hat := anP_at (x := (d : Int)) hq
      have SM := fun e => apK_same (a := anP ps d) (b := a) (k := k) e
      have DF := fun e => apK_diff (a := anP ps d) (b := a) (k := k) e
      have bd1 := apK_le (anP ps d) a k
      have bd2 := laK_bd (anP ps d) a k
      obtain ⟨bd20, bd21⟩ := bd2
      obtain ⟨A, eA⟩ : ∃ A, apK (anP ps d) a k = A := ⟨_, rfl⟩
      obtain ⟨B, eB⟩ : ∃ B, laK (anP ps d) a k = B := ⟨_, rfl⟩
      rw [eA, eB] at SM
      rw [eA] at DF
      rw [eA] at bd1 ⊢
      rw [eB] at bd20 bd21 ⊢
      obtain ⟨z, ez⟩ : ∃ z, q (d : Int) = z := ⟨_, rfl⟩
      rw [ez] at hat hcell
      have hk0 : (0 : Int) ≤ (k : Int) := by omega
      have hk1 : (k : Int) < ps.length := by omega
      clear e0 e2 hI hb hks C1 hbyte hc hq eA eB ez
      rcases hyk with e | e
      all_goals
        rw [e] at hnx SM DF
        clear e
        cases z
        all_goals
          first
            | (have HN := Lib.hid (SM (by rw [hat]; rfl)); clear SM DF hat
               go_wp2
               go_roundw
               case rel => exact ⟨k + 1, by omega, by rw [HN.out.1], by rw [HN.out.2], hI2, hb2, C2⟩
               case measure => rw [hp, iterPos_of hI2]; omega)
            | (have HN := Lib.hid (DF (by rw [hat]; decide)); clear SM DF hat
               go_wp2
               go_roundw
               case rel => exact ⟨k + 1, by omega, by rw [HN.out.1]; go_num, by rw [HN.out.2], hI2, hb2, C2⟩
               case measure => rw [hp, iterPos_of hI2]; omega)
    · have hke : k = a.length := by omega
      have hnx : ∀ ty, (Instr.next (.pointer (some ⟨w.heap.size + 1, 0, none⟩)) true ty).run Try.prog wr = _ := fun ty => Lib.run_next_end_at wr (w.heap.size + 1) s k ty hI (by omega)
      clear hI
      subst hke
      have HA := Lib.hid ha
      go_wp2
      refine bodyPost_ret (v := .tuple #[.int .i64 (apK (anP ps d) a ps.length), .int .i64 (laK (anP ps d) a ps.length)]) ?_ rfl ⟨rfl, hb⟩
      rw [← HA.out]
      simp [results, Try.results53, go_sem]
end Go.Proofs.Ytmcbhpmkhbmlgaa
