/-
  The program's searches for complete and for sparse rulers, and FewestMarks, FirstComplete, CountComplete, ShortestSparse and FirstSparse, by their contracts. No condition.
-/
import Derived.Test.YtaihgdecoaajoaaUsr
namespace Go.Proofs.Ytaihgdecoaajoaa
open Go.RowKit

theorem zero_row {w : World} {r : Nat} (h : w.heap[r]? = some (.cells zeroF 57 (0, 0))) : w.cell? ⟨r, 0, none⟩ = some (.slice none 0 0) ∧ w.cell? ⟨r, 1, none⟩ = some (.int .i64 0) ∧ w.frozen? ⟨r, 0, none⟩ = false ∧ w.frozen? ⟨r, 1, none⟩ = false := by
  refine ⟨?_, ?_, ?_, ?_⟩ <;> simp [World.cell?, World.frozen?, h, zeroF]
theorem row_put2 {w : World} {r : Nat} {n : Int} {u : Value} {cs : Array Value} {t : TypeId} (h : w.heap[r]? = some (.cells cs t (0, 0))) (h2 : cs.size = 2) (o : Obj) :
    (((w.setCell ⟨r, 0, none⟩ u).setCell ⟨r, 1, none⟩ (.int .i64 n)).alloc o).cell? ⟨r, 0, none⟩ = some u ∧ (((w.setCell ⟨r, 0, none⟩ u).setCell ⟨r, 1, none⟩ (.int .i64 n)).alloc o).cell? ⟨r, 1, none⟩ = some (.int .i64 n) := by
  have E := row_put (n := n) (u := u) h h2
  have B := (Below.refl _ ((w.setCell ⟨r, 0, none⟩ u).setCell ⟨r, 1, none⟩ (.int .i64 n))).alloc (Nat.le_refl _) o
  exact ⟨(B.cell (p := ⟨r, 0, none⟩) (block_lt_of_cell E.1)).trans E.1, (B.cell (p := ⟨r, 1, none⟩) (block_lt_of_cell E.2)).trans E.2⟩
theorem inB_no {a lo hi : Int} (h : inB a lo hi = false) : a < lo ∨ hi < a := by
  have : ¬ (lo ≤ a ∧ a ≤ hi) := fun g => by rw [inB_iff.2 g] at h; cases h
  omega
theorem inB_yes {a lo hi : Int} (h : inB a lo hi = true) : decide (a < lo) = false ∧ decide (hi < a) = false := by
  have := inB_iff.1 h
  constructor <;> rw [decide_eq_false_iff_not] <;> omega

set_option maxHeartbeats 8000000 in
set_option maxRecDepth 20000 in
theorem searchComplete_any (a1 : Int) (w : World) :
    Calls Try.prog 81 #[.int .i64 a1] w fun e w' => ∃ u, e = .returned (.tuple #[.agg #[u, .int .i64 (cmA a1).2], .bool (inB a1 1 20)]) ∧ Ow w' w.heap.size u (cmA a1).1 ∧ Below w.heap.size w w' := by
  have hb0 : Below w.heap.size w (w.alloc (.cells zeroF 57)) := (Below.refl _ _).alloc (Nat.le_refl _) _
  have hr0 := heap_alloc_new w (.cells zeroF 57)
  by_cases hi : inB a1 1 20 = true
  · have hib := inB_iff.1 hi
    have dd := inB_yes hi
    obtain ⟨len, rfl⟩ : ∃ n : Nat, a1 = n := ⟨a1.toNat, by omega⟩
    have h1 : 1 ≤ len := by omega
    have h2 : len ≤ 20 := by omega
    have CA : Hid (cmA (len : Int) = rs true len (cmD len) [0]) := Lib.hid (by simp [cmA, hi])
    have HI := Lib.hid hi
    have CP := Lib.hid (cm_pos h1)
    obtain ⟨dd1, dd2⟩ := dd
    rw [CA.out, hi]
    have HR0 := Lib.hid hr0
    clear hi hib hr0
    go_enter Try.func81, Try.ntmps81
    go_wp2
    go_loopw [4] (fun x wr => ∃ m : Nat, m < len ∧ x = .int .i64 ((m : Int) + 2) ∧ Hid (∀ e, e < m → (rs true len e [0]).2 ≤ 0) ∧ wr.heap[w.heap.size]? = some (.cells zeroF 57 (0, 0)) ∧ Below w.heap.size w wr) (fun x _ => len + 2 - (intOf x).toNat)
    case atStart => exact ⟨0, by omega, rfl, Lib.hid (fun e he => by omega), HR0.out, hb0⟩
    case round =>
      clear HR0 hb0
      obtain ⟨m, hm, rfl, HN, hr, hb⟩ := hrel
      have hz := hb.size
      have NX : Hid ((rs true len m [0]).2 ≤ 0 → m + 1 < len ∧ ∀ e, e < m + 1 → (rs true len e [0]).2 ≤ 0) := Lib.hid (fun g => by
        refine ⟨?_, fun e he => ?_⟩
        · by_cases e : m = len - 1
          · rw [e] at g; exact absurd CP.out (Int.not_lt.2 g)
          · omega
        · by_cases ee : e = m
          · subst ee; exact g
          · exact HN.out e (by omega))
      have EQ : Hid (0 < (rs true len m [0]).2 → cmD len = m) := Lib.hid (fun g => cmD_eq g HN.out)
      have RS := Lib.hid (search_true len m h1 h2 (by omega) wr)
      obtain ⟨⟨L, c⟩, eR⟩ : ∃ R, rs true len m [0] = R := ⟨_, rfl⟩
      rw [eR] at RS NX EQ
      dsimp only at RS NX EQ
      have ER := Lib.hid eR
      have HR := Lib.hid hr
      clear eR hr
      go_wp2_with fail
      refine RS.out.mono ?_
      rintro e w2 ⟨u, rfl, o2, b2⟩
      have hr2 := (b2.block _ (Array.getElem?_eq_some_iff.1 HR.out).1).trans HR.out
      have hlt2 := (Array.getElem?_eq_some_iff.1 hr2).1
      have b2 := nxt hb b2
      have o2 := o2.mono hz
      clear RS HR
      rcases o2.form with ⟨hu, e3⟩ | ⟨g, cap, hu, _, _⟩
      all_goals
        have VB : Below w2.heap.size w2 (w2.alloc (.cells #[u, .int .i64 c] 57)) := (Below.refl _ _).alloc (Nat.le_refl _) _
        have hr3 := (VB.block _ hlt2).trans hr2
        have OV := o2.alloc (.cells #[u, .int .i64 c] 57)
        have b3 := b2.alloc b2.size (.cells #[u, .int .i64 c] 57)
        have HV := Lib.hid ((row_own (n := c) (u := u) o2 hr2).alloc (.cells #[u, .int .i64 c] 57))
        have E := row_put2 (n := c) (u := u) hr2 rfl (.cells #[u, .int .i64 c] 57)
        have b4 : Below w.heap.size w (((w2.setCell ⟨w.heap.size, 0, none⟩ u).setCell ⟨w.heap.size, 1, none⟩ (.int .i64 c)).alloc (.cells #[u, .int .i64 c] 57)) := ((b2.setCell (Nat.le_refl _) _).setCell (Nat.le_refl _) _).alloc (by simp [World.setCell]; exact b2.size) _
        obtain ⟨a0, a1', f0, f1⟩ := zero_row hr2
        have hne : ¬ w.heap.size = w2.heap.size := by omega
        have HR3 := Lib.hid hr3
        have HU := Lib.hid hu
        subst hu
        by_cases hc : 0 < c
        · have EE := Lib.hid (EQ.out hc)
          have dc : decide (0 < c) = true := by simpa using hc
          clear OV hr3 hr2 VB NX EQ o2
          go_wp2_with fail
          refine bodyPost_ret (v := .tuple #[.agg #[_, .int .i64 c], .bool true]) (by simp [results, Try.results81, go_sem, E.1, E.2]; rfl) rfl ⟨_, by rw [EE.out, ER.out], by rw [EE.out, ER.out]; exact HV.out, b4⟩
        · have N := Lib.hid (NX.out (by omega))
          have hm1 := N.out.1
          have dc : decide (0 < c) = false := by simpa using hc
          clear OV hr3 hr2 VB NX EQ o2 HV E a0 a1' f0 f1 b4
          go_wp2_with fail
          go_roundw
          case rel => exact ⟨m + 1, hm1, by go_num, Lib.hid N.out.2, HR3.out, b3⟩
          case measure => simp [intOf]; omega
  · have hi : inB a1 1 20 = false := by simpa using hi
    have CA : Hid (cmA a1 = ([], 0)) := Lib.hid (by simp [cmA, hi])
    rw [CA.out, hi]
    dsimp only
    rcases inB_no hi with h1 | h1
    · clear CA hi hr0
      go_enter Try.func81, Try.ntmps81
      go_wp2
      exact bodyPost_ret (v := .tuple #[.agg #[.slice none 0 0, .int .i64 0], .bool false]) (by simp [results, Try.results81, go_sem]) rfl ⟨_, rfl, ow_nilR _ _, hb0⟩
    · have d1 : decide (a1 < 1) = false := by rw [decide_eq_false_iff_not]; omega
      clear CA hi hr0
      go_enter Try.func81, Try.ntmps81
      go_wp2
      exact bodyPost_ret (v := .tuple #[.agg #[.slice none 0 0, .int .i64 0], .bool false]) (by simp [results, Try.results81, go_sem]) rfl ⟨_, rfl, ow_nilR _ _, hb0⟩
end Go.Proofs.Ytaihgdecoaajoaa
