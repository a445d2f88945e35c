/-
  AnswersOf, NumbersWithLies, NumbersTold, TellsAll in the program, by their contracts. Condition: at most 2^40 lists of at most 2^40 numbers.
-/
import Derived.Test.YtmcbhpmkhbmlgaaQd
import Derived.Test.YtmcbhpmkhbmlgaaQf
import Derived.ChangeKeysEq
import Derived.Test.YtmcbhpmkhbmlgaaQar
import Derived.Deep.RegionHeld3
import Derived.Deep.CutRange
import Derived.Test.YtmcbhpmkhbmlgaaQa
import Derived.Test.YtmcbhpmkhbmlgaaKgk
namespace Go.Proofs.Ytmcbhpmkhbmlgaa
open Go.RowKit

theorem map_len (Ls : List (List Int)) : (Ls.map inL).length = Ls.length := by simp

set_option maxHeartbeats 4000000 in
theorem implNumbersWithLies_any (n : Int) (v : Value) (Ls : List (List Int)) (a : List UInt8) (lies : Int) (w : World) (h : Svv w v Ls) (hl : Ls.length ≤ 1099511627776) (hx : ∀ j, j < Ls.length → (rowL Ls j).length ≤ 1099511627776) :
    Calls Try.prog 25 #[.agg #[.int .i64 n, v], .string (bstr a), .int .i64 lies] w fun e w' => ∃ u, e = .returned (.tuple #[u, .bool (nlB n Ls a lies)]) ∧ Ow w' w.heap.size u (nlR n Ls a lies) ∧ Below w.heap.size w w' := by
  obtain ⟨p, cap, rfl⟩ := svv_form h
  have hb0 : Below w.heap.size w (w.alloc (.cells #[.int .i64 n, .slice p Ls.length cap] 36)) := (Below.refl _ w).alloc (Nat.le_refl _) _
  have AC := implAreCards_any n _ Ls _ (h.below hb0 (Nat.le_refl _)) hl hx
  have AA := Lib.hid (fun (W : World) (hb : Below w.heap.size w W) => areAnswers_any n _ Ls a W (h.below hb (Nat.le_refl _)))
  have C0 := card_n w n (.slice p Ls.length cap)
  have C1 := card_v w n (.slice p Ls.length cap)
  have H := Lib.hid h
  have NB : Hid (nlB n Ls a lies = (caB n Ls && ynB Ls a && inB lies 0 12)) := Lib.hid (by simp [nlB, ask_yn])
  have NR : Hid (nlR n Ls a lies = if nlB n Ls a lies = true then cwK Ls a lies n.toNat else []) := Lib.hid rfl
  rw [NB.out] at NR
  clear h hx
  cases hg : caB n Ls with
  | false =>
    rw [hg] at AC NB NR
    obtain ⟨s, es⟩ : ∃ s, bstr a = s := ⟨_, rfl⟩
    rw [es] at AA ⊢
    have AC := Lib.hid AC
    clear hg es
    go_enter Try.func25, Try.ntmps25
    go_wp2_with (go_at_call 46; refine AC.out.mono ?_; rintro e w1 ⟨rfl, b1⟩; have B1 := nxt hb0 b1)
    go_ret2
    exact ⟨_, ret_vb rfl (by rw [NB.out]; rfl), by rw [NR.out]; exact ow_nil _ _, B1⟩
  | true =>
    rw [hg] at AC NB NR
    have AC := Lib.hid AC
    have G := Lib.hid (caB_iff.1 hg)
    have hlo := G.out.lo
    have hhi := G.out.hi
    clear hg
    cases hy : ynB Ls a with
    | false =>
      rw [hy] at NB NR AA
      obtain ⟨s, es⟩ : ∃ s, bstr a = s := ⟨_, rfl⟩
      rw [es] at AA ⊢
      clear hy es
      go_enter Try.func25, Try.ntmps25
      go_wp2_with (first
        | (go_at_call 46; refine AC.out.mono ?_; rintro e w1 ⟨rfl, b1⟩; have B1 := nxt hb0 b1; have d0 := (b1.cell (p := ⟨w.heap.size, 0, none⟩) (by simp)).trans C0; have d1 := (b1.cell (p := ⟨w.heap.size, 1, none⟩) (by simp)).trans C1)
        | (go_at_call 47; refine (AA.out _ B1).mono ?_; rintro e w2 ⟨rfl, b2⟩; have B2 := nxt B1 b2))
      go_ret2
      exact ⟨_, ret_vb rfl (by rw [NB.out]; rfl), by rw [NR.out]; exact ow_nil _ _, B2⟩
    | true =>
      rw [hy] at NB NR AA
      have YN : Hid (a.length = Ls.length ∧ YnTo a a.length) := Lib.hid (by simpa [ynB] using hy)
      clear hy
      by_cases hli : inB lies 0 12 = true
      · have hlb := inB_iff.1 hli
        obtain ⟨l0, l1⟩ := hlb
        rw [hli] at NB NR
        have WL := Lib.hid (fun (W : World) (s : Value) (hd : Dr W s (Ls.map inL)) => withLies_any n lies s (Ls.map inL) a W hd (by rw [map_len]; exact G.out.len) (by omega) hhi YN.out.2 (by rw [map_len]; exact YN.out.1))
        have LI := Lib.hid (fun (W : World) => list_any (wlP (Ls.map inL) n a lies) W)
        rw [sL_wl (by omega) hhi] at LI
        obtain ⟨s, es⟩ : ∃ s, bstr a = s := ⟨_, rfl⟩
        obtain ⟨A, eA⟩ : ∃ A, bA (wlP (Ls.map inL) n a lies) = A := ⟨_, rfl⟩
        rw [es] at AA WL ⊢
        rw [eA] at WL LI
        clear hli es eA
        go_enter Try.func25, Try.ntmps25
        go_wp2_with (first
          | (go_at_call 46; refine AC.out.mono ?_; rintro e w1 ⟨rfl, b1⟩; have B1 := nxt hb0 b1; have d0 := (b1.cell (p := ⟨w.heap.size, 0, none⟩) (by simp)).trans C0; have d1 := (b1.cell (p := ⟨w.heap.size, 1, none⟩) (by simp)).trans C1; have z1 : w.heap.size < w1.heap.size := Nat.lt_of_lt_of_le (by simp) b1.size)
          | (go_at_call 47; refine (AA.out _ B1).mono ?_; rintro e w2 ⟨rfl, b2⟩; have B2 := nxt B1 b2; have e0 := (b2.cell (p := ⟨w.heap.size, 0, none⟩) z1).trans d0; have e1 := (b2.cell (p := ⟨w.heap.size, 1, none⟩) z1).trans d1)
          | (go_at_call 48; refine (deckOf_any n _ Ls _ (H.out.below B2 (Nat.le_refl _)) G.out).mono ?_; rintro e w3 ⟨sd, rfl, o3, b3⟩; have B3 := nxt B2 b3; have D3 := o3.dr; clear o3)
          | (go_at_call 49; refine (WL.out _ _ D3).mono ?_; rintro e w4 ⟨rfl, b4⟩; have B4 := nxt B3 b4)
          | (go_at_call 50; refine (LI.out _).mono ?_; rintro e w5 ⟨u, rfl, o5, b5⟩; have O5 := o5.mono B4.size; have B5 := nxt B4 b5; clear o5))
        go_ret2
        exact ⟨_, ret_vb rfl (by rw [NB.out]; rfl), by rw [NR.out]; exact O5, B5⟩
      · have hli : inB lies 0 12 = false := by simpa using hli
        have hlo : lies < 0 ∨ 12 < lies := by
          by_cases e : lies < 0
          · exact .inl e
          · refine .inr ?_
            by_cases e2 : 12 < lies
            · exact e2
            · have := inB_iff.2 (show 0 ≤ lies ∧ lies ≤ 12 by omega); rw [this] at hli; cases hli
        rw [hli] at NB NR
        obtain ⟨s, es⟩ : ∃ s, bstr a = s := ⟨_, rfl⟩
        rw [es] at AA ⊢
        clear hli es
        go_enter Try.func25, Try.ntmps25
        rcases hlo with hlo | hlo
        all_goals
          go_wp2_with (first
            | (go_at_call 46; refine AC.out.mono ?_; rintro e w1 ⟨rfl, b1⟩; have B1 := nxt hb0 b1; have d0 := (b1.cell (p := ⟨w.heap.size, 0, none⟩) (by simp)).trans C0; have d1 := (b1.cell (p := ⟨w.heap.size, 1, none⟩) (by simp)).trans C1)
            | (go_at_call 47; refine (AA.out _ B1).mono ?_; rintro e w2 ⟨rfl, b2⟩; have B2 := nxt B1 b2))
          go_ret2
          exact ⟨_, ret_vb rfl (by rw [NB.out]; rfl), by rw [NR.out]; exact ow_nil _ _, B2⟩

set_option maxHeartbeats 4000000 in
theorem implNumbersTold_any (n : Int) (v : Value) (Ls : List (List Int)) (a : List UInt8) (w : World) (h : Svv w v Ls) (hl : Ls.length ≤ 1099511627776) (hx : ∀ j, j < Ls.length → (rowL Ls j).length ≤ 1099511627776) :
    Calls Try.prog 21 #[.agg #[.int .i64 n, v], .string (bstr a)] w fun e w' => ∃ u, e = .returned (.tuple #[u, .bool (askB n Ls a)]) ∧ Ow w' w.heap.size u (ntR n Ls a) ∧ Below w.heap.size w w' := by
  obtain ⟨p, cap, rfl⟩ := svv_form h
  have hb0 : Below w.heap.size w (w.alloc (.cells #[.int .i64 n, .slice p Ls.length cap] 36)) := (Below.refl _ w).alloc (Nat.le_refl _) _
  have NW := implNumbersWithLies_any n _ Ls a 0 _ (h.below hb0 (Nat.le_refl _)) hl hx
  rw [show nlB n Ls a 0 = askB n Ls a by simp [nlB, inB], show nlR n Ls a 0 = ntR n Ls a by simp [nlR, ntR, nlB, inB]] at NW
  have NW := Lib.hid NW
  obtain ⟨s, es⟩ : ∃ s, bstr a = s := ⟨_, rfl⟩
  rw [es] at NW ⊢
  clear h hx es
  go_enter Try.func21, Try.ntmps21
  go_wp2_with (go_at_call 25; refine NW.out.mono ?_; rintro e w1 ⟨u, rfl, o1, b1⟩; have B1 := nxt hb0 b1; have O1 := o1.mono hb0.size; clear o1)
  go_ret2
  exact ⟨_, rfl, O1, B1⟩
end Go.Proofs.Ytmcbhpmkhbmlgaa
