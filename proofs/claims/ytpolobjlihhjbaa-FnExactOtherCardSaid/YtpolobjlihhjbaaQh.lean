/-
  AnswersOf, NumbersWithLies, NumbersTold, TellsAll in the program, by their contracts. Condition: at most 2^40 lists of at most 2^40 numbers.
-/
import Derived.Test.YtpolobjlihhjbaaQd
import Derived.Test.YtpolobjlihhjbaaQg
import Derived.Test.YtpolobjlihhjbaaQa
import Derived.Test.YtpolobjlihhjbaaKgk
namespace Go.Proofs.Ytpolobjlihhjbaa
open Go.RowKit

theorem map_len (Ls : List (List Int)) : (Ls.map inL).length = Ls.length := by simp

set_option maxHeartbeats 4000000 in
theorem implAnswersOf_any (n : Int) (v : Value) (Ls : List (List Int)) (x : Int) (w : World) (h : Svv w v Ls) (hl : Ls.length ≤ 1099511627776) (hx : ∀ j, j < Ls.length → (rowL Ls j).length ≤ 1099511627776) :
    Calls Try.prog 30 #[.agg #[.int .i64 n, v], .int .i64 x] w fun e w' => e = .returned (.tuple #[.string (aoT n Ls x), .bool (aoB n Ls x)]) ∧ Below w.heap.size w w' := by
  obtain ⟨p, cap, rfl⟩ := svv_form h
  have hb0 : Below w.heap.size w (w.alloc (.cells #[.int .i64 n, .slice p Ls.length cap] 27)) := (Below.refl _ w).alloc (Nat.le_refl _) _
  have AC := implAreCards_any n _ Ls _ (h.below hb0 (Nat.le_refl _)) hl hx
  have C0 := card_n w n (.slice p Ls.length cap)
  have C1 := card_v w n (.slice p Ls.length cap)
  have H := Lib.hid h
  clear h hx
  cases hg : caB n Ls with
  | false =>
    rw [hg] at AC
    have AC := Lib.hid AC
    have RB : Hid (aoB n Ls x = false) := Lib.hid (by simp [aoB, hg])
    have RT : Hid (aoT n Ls x = ⟨#[]⟩) := Lib.hid (by simp [aoT, aoB, hg])
    clear hg
    go_enter Try.func30, Try.ntmps30
    go_wp2_with (go_at_call 23; refine AC.out.mono ?_; rintro e w1 ⟨rfl, b1⟩; have B1 := nxt hb0 b1)
    go_ret2
    exact ⟨ret_sb RT.out.symm RB.out.symm, B1⟩
  | true =>
    rw [hg] at AC
    have AC := Lib.hid AC
    have G := Lib.hid (caB_iff.1 hg)
    have hlo := G.out.lo
    have hhi := G.out.hi
    have RB : Hid (aoB n Ls x = inB x 0 (n - 1)) := Lib.hid (by simp [aoB, hg])
    have RT : Hid (aoT n Ls x = if inB x 0 (n - 1) = true then bstr (anW Ls x) else ⟨#[]⟩) := Lib.hid (by simp [aoT, aoB, hg])
    clear hg
    by_cases hxi : inB x 0 (n - 1) = true
    · have hxb := inB_iff.1 hxi
      obtain ⟨hx0, hx1⟩ := hxb
      have hx2 : x < n := by omega
      rw [hxi] at RB RT
      clear hxi
      go_enter Try.func30, Try.ntmps30
      go_wp2_with (first
        | (go_at_call 23; refine AC.out.mono ?_; rintro e w1 ⟨rfl, b1⟩; have B1 := nxt hb0 b1; have d0 := (b1.cell (p := ⟨w.heap.size, 0, none⟩) (by simp)).trans C0; have d1 := (b1.cell (p := ⟨w.heap.size, 1, none⟩) (by simp)).trans C1)
        | (go_at_call 77; refine (deckOf_any n _ Ls _ (H.out.below B1 (Nat.le_refl _)) G.out).mono ?_; rintro e w2 ⟨s, rfl, o2, b2⟩; have B2 := nxt B1 b2; have L2 : ((Ls.map inL).length ≤ 12) := (by rw [map_len]; exact G.out.len); have D2 := o2.dr; clear o2)
        | (go_at_call 78; refine (answersOf_any n x _ (Ls.map inL) _ D2 L2 hx0 (by omega)).mono ?_; rintro e w3 ⟨rfl, b3⟩; have B3 := nxt B2 b3))
      go_ret2
      exact ⟨ret_sb (by rw [RT.out, anP_in]; simp) RB.out.symm, B3⟩
    · have hxi : inB x 0 (n - 1) = false := by simpa using hxi
      have hxo : x < 0 ∨ n ≤ x := by
        by_cases e : x < 0
        · exact .inl e
        · refine .inr ?_
          by_cases e2 : n ≤ x
          · exact e2
          · have := inB_iff.2 (show 0 ≤ x ∧ x ≤ n - 1 by omega); rw [this] at hxi; cases hxi
      rw [hxi] at RB RT
      clear hxi
      go_enter Try.func30, Try.ntmps30
      rcases hxo with hxo | hxo
      all_goals
        go_wp2_with (go_at_call 23; refine AC.out.mono ?_; rintro e w1 ⟨rfl, b1⟩; have B1 := nxt hb0 b1; have d0 := (b1.cell (p := ⟨w.heap.size, 0, none⟩) (by simp)).trans C0; have d1 := (b1.cell (p := ⟨w.heap.size, 1, none⟩) (by simp)).trans C1)
        go_ret2
        exact ⟨ret_sb (by rw [RT.out]; rfl) RB.out.symm, B1⟩

set_option maxHeartbeats 4000000 in
theorem implTellsAll_any (n : Int) (v : Value) (Ls : List (List Int)) (w : World) (h : Svv w v Ls) (hl : Ls.length ≤ 1099511627776) (hx : ∀ j, j < Ls.length → (rowL Ls j).length ≤ 1099511627776) :
    Calls Try.prog 37 #[.agg #[.int .i64 n, v]] w fun e w' => e = .returned (.tuple #[.bool (teB n Ls), .bool (caB n Ls)]) ∧ Below w.heap.size w w' := by
  obtain ⟨p, cap, rfl⟩ := svv_form h
  have hb0 : Below w.heap.size w (w.alloc (.cells #[.int .i64 n, .slice p Ls.length cap] 27)) := (Below.refl _ w).alloc (Nat.le_refl _) _
  have AC := implAreCards_any n _ Ls _ (h.below hb0 (Nat.le_refl _)) hl hx
  have C0 := card_n w n (.slice p Ls.length cap)
  have C1 := card_v w n (.slice p Ls.length cap)
  have H := Lib.hid h
  clear h hx
  cases hg : caB n Ls with
  | false =>
    rw [hg] at AC
    have AC := Lib.hid AC
    have RT : Hid (teB n Ls = false) := Lib.hid (by simp [teB, hg])
    clear hg
    go_enter Try.func37, Try.ntmps37
    go_wp2_with (go_at_call 23; refine AC.out.mono ?_; rintro e w1 ⟨rfl, b1⟩; have B1 := nxt hb0 b1)
    go_ret2
    exact ⟨ret_bb RT.out.symm rfl, B1⟩
  | true =>
    rw [hg] at AC
    have AC := Lib.hid AC
    have G := Lib.hid (caB_iff.1 hg)
    have hlo := G.out.lo
    have hhi := G.out.hi
    have RT : Hid (teB n Ls = taB (Ls.map inL) n) := Lib.hid (by rw [ta_ls (by omega) hhi]; simp [teB, hg])
    clear hg
    go_enter Try.func37, Try.ntmps37
    go_wp2_with (first
      | (go_at_call 23; refine AC.out.mono ?_; rintro e w1 ⟨rfl, b1⟩; have B1 := nxt hb0 b1; have d0 := (b1.cell (p := ⟨w.heap.size, 0, none⟩) (by simp)).trans C0; have d1 := (b1.cell (p := ⟨w.heap.size, 1, none⟩) (by simp)).trans C1)
      | (go_at_call 77; refine (deckOf_any n _ Ls _ (H.out.below B1 (Nat.le_refl _)) G.out).mono ?_; rintro e w2 ⟨s, rfl, o2, b2⟩; have B2 := nxt B1 b2; have L2 : ((Ls.map inL).length ≤ 12) := (by rw [map_len]; exact G.out.len); have D2 := o2.dr; clear o2)
      | (go_at_call 82; refine (tellsAll_any n _ (Ls.map inL) _ D2 L2 (by omega) hhi).mono ?_; rintro e w3 ⟨rfl, b3⟩; have B3 := nxt B2 b3))
    go_ret2
    exact ⟨ret_bb RT.out.symm rfl, B3⟩

set_option maxHeartbeats 4000000 in
theorem implNumbersWithLies_any (n : Int) (v : Value) (Ls : List (List Int)) (a : List UInt8) (lies : Int) (w : World) (h : Svv w v Ls) (hl : Ls.length ≤ 1099511627776) (hx : ∀ j, j < Ls.length → (rowL Ls j).length ≤ 1099511627776) :
    Calls Try.prog 43 #[.agg #[.int .i64 n, v], .string (bstr a), .int .i64 lies] w fun e w' => ∃ u, e = .returned (.tuple #[u, .bool (nlB n Ls a lies)]) ∧ Ow w' w.heap.size u (nlR n Ls a lies) ∧ Below w.heap.size w w' := by
  obtain ⟨p, cap, rfl⟩ := svv_form h
  have hb0 : Below w.heap.size w (w.alloc (.cells #[.int .i64 n, .slice p Ls.length cap] 27)) := (Below.refl _ w).alloc (Nat.le_refl _) _
  have AC := implAreCards_any n _ Ls _ (h.below hb0 (Nat.le_refl _)) hl hx
  have AA := Lib.hid (fun (W : World) (hb : Below w.heap.size w W) => areAnswers_any n _ Ls a W (h.below hb (Nat.le_refl _)))
  have C0 := card_n w n (.slice p Ls.length cap)
  have C1 := card_v w n (.slice p Ls.length cap)
  have H := Lib.hid h
  have NB : Hid (nlB n Ls a lies = (caB n Ls && ynB Ls a && inB lies 0 12)) := Lib.hid (by simp [nlB, ask_yn])
  have NR : Hid (nlR n Ls a lies = if nlB n Ls a lies = true then cwK Ls a lies n.toNat else []) := Lib.hid rfl
  rw [NB.out] at NR
  clear h hx
  cases hg : caB n Ls with
  | false =>
    rw [hg] at AC NB NR
    obtain ⟨s, es⟩ : ∃ s, bstr a = s := ⟨_, rfl⟩
    rw [es] at AA ⊢
    have AC := Lib.hid AC
    clear hg es
    go_enter Try.func43, Try.ntmps43
    go_wp2_with (go_at_call 23; refine AC.out.mono ?_; rintro e w1 ⟨rfl, b1⟩; have B1 := nxt hb0 b1)
    go_ret2
    exact ⟨_, ret_vb rfl (by rw [NB.out]; rfl), by rw [NR.out]; exact ow_nil _ _, B1⟩
  | true =>
    rw [hg] at AC NB NR
    have AC := Lib.hid AC
    have G := Lib.hid (caB_iff.1 hg)
    have hlo := G.out.lo
    have hhi := G.out.hi
    clear hg
    cases hy : ynB Ls a with
    | false =>
      rw [hy] at NB NR AA
      obtain ⟨s, es⟩ : ∃ s, bstr a = s := ⟨_, rfl⟩
      rw [es] at AA ⊢
      clear hy es
      go_enter Try.func43, Try.ntmps43
      go_wp2_with (first
        | (go_at_call 23; refine AC.out.mono ?_; rintro e w1 ⟨rfl, b1⟩; have B1 := nxt hb0 b1; have d0 := (b1.cell (p := ⟨w.heap.size, 0, none⟩) (by simp)).trans C0; have d1 := (b1.cell (p := ⟨w.heap.size, 1, none⟩) (by simp)).trans C1)
        | (go_at_call 85; refine (AA.out _ B1).mono ?_; rintro e w2 ⟨rfl, b2⟩; have B2 := nxt B1 b2))
      go_ret2
      exact ⟨_, ret_vb rfl (by rw [NB.out]; rfl), by rw [NR.out]; exact ow_nil _ _, B2⟩
    | true =>
      rw [hy] at NB NR AA
      have YN : Hid (a.length = Ls.length ∧ YnTo a a.length) := Lib.hid (by simpa [ynB] using hy)
      clear hy
      by_cases hli : inB lies 0 12 = true
      · have hlb := inB_iff.1 hli
        obtain ⟨l0, l1⟩ := hlb
        rw [hli] at NB NR
        have WL := Lib.hid (fun (W : World) (s : Value) (hd : Dr W s (Ls.map inL)) => withLies_any n lies s (Ls.map inL) a W hd (by rw [map_len]; exact G.out.len) (by omega) hhi YN.out.2 (by rw [map_len]; exact YN.out.1))
        have LI := Lib.hid (fun (W : World) => list_any (wlP (Ls.map inL) n a lies) W)
        rw [sL_wl (by omega) hhi] at LI
        obtain ⟨s, es⟩ : ∃ s, bstr a = s := ⟨_, rfl⟩
        obtain ⟨A, eA⟩ : ∃ A, bA (wlP (Ls.map inL) n a lies) = A := ⟨_, rfl⟩
        rw [es] at AA WL ⊢
        rw [eA] at WL LI
        clear hli es eA
        go_enter Try.func43, Try.ntmps43
        go_wp2_with (first
          | (go_at_call 23; refine AC.out.mono ?_; rintro e w1 ⟨rfl, b1⟩; have B1 := nxt hb0 b1; have d0 := (b1.cell (p := ⟨w.heap.size, 0, none⟩) (by simp)).trans C0; have d1 := (b1.cell (p := ⟨w.heap.size, 1, none⟩) (by simp)).trans C1; have z1 : w.heap.size < w1.heap.size := Nat.lt_of_lt_of_le (by simp) b1.size)
          | (go_at_call 85; refine (AA.out _ B1).mono ?_; rintro e w2 ⟨rfl, b2⟩; have B2 := nxt B1 b2; have e0 := (b2.cell (p := ⟨w.heap.size, 0, none⟩) z1).trans d0; have e1 := (b2.cell (p := ⟨w.heap.size, 1, none⟩) z1).trans d1)
          | (go_at_call 77; refine (deckOf_any n _ Ls _ (H.out.below B2 (Nat.le_refl _)) G.out).mono ?_; rintro e w3 ⟨sd, rfl, o3, b3⟩; have B3 := nxt B2 b3; have D3 := o3.dr; clear o3)
          | (go_at_call 86; refine (WL.out _ _ D3).mono ?_; rintro e w4 ⟨rfl, b4⟩; have B4 := nxt B3 b4)
          | (go_at_call 87; refine (LI.out _).mono ?_; rintro e w5 ⟨u, rfl, o5, b5⟩; have O5 := o5.mono B4.size; have B5 := nxt B4 b5; clear o5))
        go_ret2
        exact ⟨_, ret_vb rfl (by rw [NB.out]; rfl), by rw [NR.out]; exact O5, B5⟩
      · have hli : inB lies 0 12 = false := by simpa using hli
        have hlo : lies < 0 ∨ 12 < lies := by
          by_cases e : lies < 0
          · exact .inl e
          · refine .inr ?_
            by_cases e2 : 12 < lies
            · exact e2
            · have := inB_iff.2 (show 0 ≤ lies ∧ lies ≤ 12 by omega); rw [this] at hli; cases hli
        rw [hli] at NB NR
        obtain ⟨s, es⟩ : ∃ s, bstr a = s := ⟨_, rfl⟩
        rw [es] at AA ⊢
        clear hli es
        go_enter Try.func43, Try.ntmps43
        rcases hlo with hlo | hlo
        all_goals
          go_wp2_with (first
            | (go_at_call 23; refine AC.out.mono ?_; rintro e w1 ⟨rfl, b1⟩; have B1 := nxt hb0 b1; have d0 := (b1.cell (p := ⟨w.heap.size, 0, none⟩) (by simp)).trans C0; have d1 := (b1.cell (p := ⟨w.heap.size, 1, none⟩) (by simp)).trans C1)
            | (go_at_call 85; refine (AA.out _ B1).mono ?_; rintro e w2 ⟨rfl, b2⟩; have B2 := nxt B1 b2))
          go_ret2
          exact ⟨_, ret_vb rfl (by rw [NB.out]; rfl), by rw [NR.out]; exact ow_nil _ _, B2⟩

set_option maxHeartbeats 4000000 in
theorem implNumbersTold_any (n : Int) (v : Value) (Ls : List (List Int)) (a : List UInt8) (w : World) (h : Svv w v Ls) (hl : Ls.length ≤ 1099511627776) (hx : ∀ j, j < Ls.length → (rowL Ls j).length ≤ 1099511627776) :
    Calls Try.prog 32 #[.agg #[.int .i64 n, v], .string (bstr a)] w fun e w' => ∃ u, e = .returned (.tuple #[u, .bool (askB n Ls a)]) ∧ Ow w' w.heap.size u (ntR n Ls a) ∧ Below w.heap.size w w' := by
  obtain ⟨p, cap, rfl⟩ := svv_form h
  have hb0 : Below w.heap.size w (w.alloc (.cells #[.int .i64 n, .slice p Ls.length cap] 27)) := (Below.refl _ w).alloc (Nat.le_refl _) _
  have NW := implNumbersWithLies_any n _ Ls a 0 _ (h.below hb0 (Nat.le_refl _)) hl hx
  rw [show nlB n Ls a 0 = askB n Ls a by simp [nlB, inB], show nlR n Ls a 0 = ntR n Ls a by simp [nlR, ntR, nlB, inB]] at NW
  have NW := Lib.hid NW
  obtain ⟨s, es⟩ : ∃ s, bstr a = s := ⟨_, rfl⟩
  rw [es] at NW ⊢
  clear h hx es
  go_enter Try.func32, Try.ntmps32
  go_wp2_with (go_at_call 43; refine NW.out.mono ?_; rintro e w1 ⟨u, rfl, o1, b1⟩; have B1 := nxt hb0 b1; have O1 := o1.mono hb0.size; clear o1)
  go_ret2
  exact ⟨_, rfl, O1, B1⟩
end Go.Proofs.Ytpolobjlihhjbaa
