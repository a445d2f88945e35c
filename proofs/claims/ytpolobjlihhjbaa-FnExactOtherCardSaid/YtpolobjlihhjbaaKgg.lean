/-
  Cards in the model: how far numbers are apart at least, by contract; TellsAll, LeastApart and LiesFound. Conditions: at most 2^40 lists of at most 2^40 numbers.
-/
import Derived.Test.YtpolobjlihhjbaaKgf
import Derived.Test.YtpolobjlihhjbaaWst4
namespace Go.Proofs.Ytpolobjlihhjbaa
open Go.RowKit

theorem least_any (a b : Int) (w : World) : Calls Try.prog 101 #[.int .i64 a, .int .i64 b] w fun e w' => e = .returned (.int .i64 (min a b)) ∧ w = w' := by
  by_cases h : a < b
  · go_enter Try.func101, Try.ntmps101
    go_wp2
    go_ret
    exact ⟨ret_int (by omega), rfl⟩
  · go_enter Try.func101, Try.ntmps101
    go_wp2
    go_ret
    exact ⟨ret_int (by omega), rfl⟩

/-- The answers of the first x numbers. -/
def ansL (Ls : List (List Int)) (x : Nat) : List ByteArray := (List.range x).map fun (j : Nat) => bstr (anW Ls j)
theorem ansL_len (Ls : List (List Int)) (x : Nat) : (ansL Ls x).length = x := by simp [ansL]
theorem ansL_succ (Ls : List (List Int)) (x : Nat) : ansL Ls (x + 1) = ansL Ls x ++ [bstr (anW Ls x)] := by simp [ansL, List.range_succ]
theorem ansL_at (Ls : List (List Int)) {x j : Nat} (h : j < x) : (ansL Ls x)[j]? = some (bstr (anW Ls j)) := by simp [ansL, h]

theorem ws_form {w : World} {B : Nat} {v : Value} {ls : List ByteArray} (h : Ws w B v ls) : ∃ p c, v = .slice p ls.length c := by
  rcases h.2 with ⟨e, hn⟩ | ⟨g, cap, cur, e, _⟩
  · exact ⟨none, 0, by rw [e, hn]⟩
  · exact ⟨_, _, e⟩

set_option maxHeartbeats 4000000 in
set_option maxRecDepth 100000 in
theorem caLeast_any (n : Int) (v : Value) (Ls : List (List Int)) (w : World) (h : Svv w v Ls) (g : CaG n Ls) :
    Calls Try.prog 81 #[.agg #[.int .i64 n, v]] w fun e w' => e = .returned (.int .i64 (lsX Ls n.toNat)) ∧ Below w.heap.size w w' := by
  obtain ⟨p, cap, rfl⟩ := svv_form h
  have hlo := g.lo
  have hhi := g.hi
  have hl12 := g.len
  obtain ⟨m, rfl⟩ : ∃ m : Nat, n = m := ⟨n.toNat, by omega⟩
  have hR := Lib.hid (card_rows g)
  rw [Int.toNat_natCast]
  have H := Lib.hid h
  clear h g
  have hb0 : Below w.heap.size w (w.alloc (.cells #[.int .i64 (m : Int), .slice p Ls.length cap] 27)) := (Below.refl _ w).alloc (Nat.le_refl _) _
  go_enter Try.func81, Try.ntmps81
  go_wp2
  go_loopw [3, 4, 5] (fun s v i wr => ∃ k : Nat, k ≤ m ∧ i = .int .i64 k ∧ s = .int .i64 (lsX Ls k) ∧ Ws wr (w.heap.size + 1) v (ansL Ls k) ∧ Below w.heap.size w wr ∧ wr.cell? ⟨w.heap.size, 0, none⟩ = some (.int .i64 (m : Int)) ∧ wr.cell? ⟨w.heap.size, 1, none⟩ = some (.slice p Ls.length cap) ∧ w.heap.size < wr.heap.size) (fun _ _ i _ => m - (intOf i).toNat)
  case atStart => exact ⟨0, Nat.zero_le _, rfl, rfl, World.ownsRow_nil _ _ _ _, hb0, card_n w m _, card_v w m _, by simp⟩
  case round =>
    clear hb0
    obtain ⟨k, hk, rfl, rfl, ho, hb, hc0, hc1, hgt⟩ := hrel
    by_cases hlt : k < m
    · have FA := Lib.hid (caAnswers_any (m : Int) k (.slice p Ls.length cap) Ls wr (H.out.below hb (Nat.le_refl _)) hl12 hR.out)
      have FP := fun (j : Nat) W => far_any Ls k (anW Ls j) W hl12 (anW_len _ _)
      have SL := Lib.hid (ansL_succ Ls k)
      obtain ⟨S, eS⟩ : ∃ S, bstr (anW Ls k) = S := ⟨_, rfl⟩
      rw [eS] at FA FP SL
      have FP : ∀ (j : Nat) W, Hid _ := fun j W => Lib.hid (FP j W)
      have hlen := ansL_len Ls k
      obtain ⟨pv, cv, rfl⟩ := ws_form ho
      rw [hlen] at ho
      go_wp2_with (go_at_call 76; refine FA.out.mono ?_; rintro e w1 ⟨rfl, b1⟩; have o1 := ho.below b1 (Nat.le_refl _); have B1 : Below w.heap.size w w1 := nxt hb b1; have c0 := (b1.cell (p := ⟨w.heap.size, 0, none⟩) hgt).trans hc0; have c1 := (b1.cell (p := ⟨w.heap.size, 1, none⟩) hgt).trans hc1; have g1 := Nat.lt_of_lt_of_le hgt b1.size; clear ho hb hc0 hc1 hgt b1)
      go_loopw [3, 22] (fun s i wq => ∃ j : Nat, j ≤ k ∧ i = .int .i64 j ∧ s = .int .i64 (lsJ Ls k (lsX Ls k) j) ∧ Ws wq (w.heap.size + 1) (.slice pv k cv) (ansL Ls k) ∧ Below w.heap.size w wq ∧ wq.cell? ⟨w.heap.size, 0, none⟩ = some (.int .i64 (m : Int)) ∧ wq.cell? ⟨w.heap.size, 1, none⟩ = some (.slice p Ls.length cap) ∧ w.heap.size < wq.heap.size) (fun _ i _ => k - (intOf i).toNat)
      case atStart => exact ⟨0, Nat.zero_le _, rfl, rfl, o1, B1, c0, c1, g1⟩
      case round =>
        clear o1 B1 c0 c1 g1
        obtain ⟨j, hj, rfl, rfl, oq, Bq, q0, q1, gq⟩ := hrel
        by_cases hjk : j < k
        · obtain ⟨gb, cb, ev, hgb, _, hcq⟩ := oq.cells (by rw [hlen]; omega)
          simp only [Value.slice.injEq] at ev
          obtain ⟨rfl, ev2, rfl⟩ := ev
          clear ev2
          have hcell := hcq j _ (ansL_at Ls hjk)
          rw [Nat.zero_add] at hcell
          have FJ := FP j
          obtain ⟨T, eT⟩ : ∃ T, bstr (anW Ls j) = T := ⟨_, rfl⟩
          rw [eT] at hcell FJ
          have HJ : Hid (lsJ Ls k (lsX Ls k) (j + 1) = min (lsJ Ls k (lsX Ls k) j) (farN Ls k (anW Ls j) : Int)) := Lib.hid rfl
          obtain ⟨q, eq⟩ : ∃ q : Nat, farN Ls k (anW Ls j) = q := ⟨_, rfl⟩
          obtain ⟨z, ez⟩ : ∃ z : Int, laK (anW Ls k) (anW Ls j) Ls.length = z := ⟨_, rfl⟩
          obtain ⟨y, ey⟩ : ∃ y : Int, lsJ Ls k (lsX Ls k) j = y := ⟨_, rfl⟩
          rw [eq] at FJ HJ
          rw [ez] at FJ
          rw [ey] at HJ ⊢
          clear hcq eT eq ez ey
          go_wp2_with (first
            | (go_at_call 88; refine (FJ _).out.mono ?_; rintro e w2 ⟨rfl, b2⟩; have o2 := oq.below b2 (Nat.le_refl _); have B2 : Below w.heap.size w w2 := nxt Bq b2; have d0 := (b2.cell (p := ⟨w.heap.size, 0, none⟩) gq).trans q0; have d1 := (b2.cell (p := ⟨w.heap.size, 1, none⟩) gq).trans q1; have g2 := Nat.lt_of_lt_of_le gq b2.size; clear oq Bq q0 q1 gq b2)
            | (go_at_call 101; refine (least_any _ _ _).mono ?_; rintro e w3 ⟨rfl, rfl⟩))
          go_roundw
          case rel => exact ⟨j + 1, by omega, by go_num, by rw [HJ.out], o2, B2, d0, d1, g2⟩
          case measure => simp only [intOf]; omega
        · have hjj : j = k := by omega
          subst hjj
          have HX : Hid (lsX Ls (j + 1) = lsJ Ls j (lsX Ls j) j) := Lib.hid rfl
          obtain ⟨y, ey⟩ : ∃ y : Int, lsJ Ls j (lsX Ls j) j = y := ⟨_, rfl⟩
          rw [ey] at HX ⊢
          clear ey
          go_wp2_with (at_builtin; refine wpList_append_str rfl _ _ rfl (w.heap.size + 1) _ (ansL Ls j) rfl (oq.alloc _) _ S rfl (by simp) (by rw [hlen]; omega) (by simp; omega) ?_; intro v' w3 h3 g3)
          have bg := (oq.alloc _).grown (by simp; omega) g3
          have b3 := (Bq.alloc (Nat.le_of_lt gq) _).trans (bg.mono (Nat.le_succ _))
          have ba : Below wr.heap.size wr (wr.alloc (.cells #[.string S] 9)) := (Below.refl _ _).alloc (Nat.le_refl _) _
          have d0 := (bg.cell (p := ⟨w.heap.size, 0, none⟩) (Nat.lt_succ_self _)).trans ((ba.cell (p := ⟨w.heap.size, 0, none⟩) gq).trans q0)
          have d1 := (bg.cell (p := ⟨w.heap.size, 1, none⟩) (Nat.lt_succ_self _)).trans ((ba.cell (p := ⟨w.heap.size, 1, none⟩) gq).trans q1)
          have z3 := Nat.lt_of_lt_of_le gq (Nat.le_trans ba.size bg.size)
          clear oq g3 Bq bg ba gq
          go_roundw
          case rel => exact ⟨j + 1, by omega, by go_num, by rw [HX.out], by rw [SL.out]; exact h3, b3, d0, d1, z3⟩
          case measure => simp only [intOf]; omega
    · have hke : k = m := by omega
      subst hke
      go_wp2
      go_ret
      exact ⟨rfl, hb⟩

end Go.Proofs.Ytpolobjlihhjbaa
