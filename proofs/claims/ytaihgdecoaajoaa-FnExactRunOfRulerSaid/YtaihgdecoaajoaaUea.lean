/-
  LengthsOf, WaysToMeasure, IsComplete, IsSparse and RunOfRuler in the program, by their contracts. Condition: slices of at most 2^40 numbers.
-/
import Derived.Test.YtaihgdecoaajoaaUpd
import Derived.Test.YtaihgdecoaajoaaRsr
namespace Go.Proofs.Ytaihgdecoaajoaa
open Go.RowKit

theorem bb_ret {a b c d : Bool} (h : a = b) (g : c = d) : Ending.returned (.tuple #[.bool a, .bool c]) = .returned (.tuple #[.bool b, .bool d]) := by rw [h, g]
theorem ibu_ret {a b : Int} {c d : Bool} (h : a = b) (g : c = d) : Ending.returned (.tuple #[.int .i64 a, .bool c]) = .returned (.tuple #[.int .i64 b, .bool d]) := by rw [h, g]

set_option maxHeartbeats 4000000 in
set_option maxRecDepth 20000 in
theorem implLengthsOf_any (v : Value) (ms : List Int) (w : World) (h : Sp w v ms) (hl : ms.length ≤ 1099511627776) :
    Calls Try.prog 25 #[v] w fun e w' => ∃ u, e = .returned (.tuple #[u, .bool (rulB ms)]) ∧ Ow w' w.heap.size u (leR ms) ∧ Below w.heap.size w w' := by
  have IR := Lib.hid (implIsRuler_any v ms w h hl)
  by_cases hg : rulB ms = true
  · have S := rulB_iff.1 hg
    have Q := Lib.hid (show leR ms = sL (fun x => decide (0 < tm ms x)) by rw [sL_len S]; simp [leR, hg])
    have LO := fun W (hb : Below w.heap.size w W) => Lib.hid (lengthsOf_any v ms W (h.below hb (Nat.le_refl _)) S)
    have LI := fun W => Lib.hid (list_any (fun x => decide (0 < tm ms x)) W)
    obtain ⟨C, eC⟩ : ∃ C, bA (fun x => decide (0 < tm ms x)) = C := ⟨_, rfl⟩
    rw [hg] at IR ⊢
    rw [eC] at LO LI
    clear h S hg eC
    go_enter Try.func25, Try.ntmps25
    go_wp2_with fail
    refine IR.out.mono ?_
    rintro e w1 ⟨rfl, b1⟩
    clear IR
    go_wp2_with fail
    refine (LO _ b1).out.mono ?_
    rintro e w2 ⟨rfl, b2⟩
    have b2 := nxt b1 b2
    clear b1 LO
    go_wp2_with fail
    refine (LI _).out.mono ?_
    rintro e w3 ⟨u, rfl, o3, b3⟩
    have o3 := o3.mono b2.size
    have b3 := nxt b2 b3
    clear b2 LI
    go_wp2_with fail
    go_ret2
    exact ⟨_, rfl, by rw [Q.out]; exact o3, b3⟩
  · have hg : rulB ms = false := by simpa using hg
    have Q := Lib.hid (show leR ms = [] by simp [leR, hg])
    rw [hg] at IR ⊢
    clear h
    go_enter Try.func25, Try.ntmps25
    go_wp2_with fail
    refine IR.out.mono ?_
    rintro e w1 ⟨rfl, b1⟩
    go_wp2_with fail
    go_ret2
    exact ⟨_, rfl, by rw [Q.out]; exact ow_nilR _ _, b1⟩

set_option maxHeartbeats 4000000 in
set_option maxRecDepth 20000 in
theorem implIsComplete_any (v : Value) (ms : List Int) (w : World) (h : Sp w v ms) (hl : ms.length ≤ 1099511627776) :
    Calls Try.prog 33 #[v] w fun e w' => e = .returned (.tuple #[.bool (icR ms), .bool (rulB ms)]) ∧ Below w.heap.size w w' := by
  have IR := Lib.hid (implIsRuler_any v ms w h hl)
  by_cases hg : rulB ms = true
  · have S := rulB_iff.1 hg
    have Q := Lib.hid (show icR ms = okR true ms by simp [icR, hg, okR])
    have LO := fun W (hb : Below w.heap.size w W) => Lib.hid (isComplete_any v ms W (h.below hb (Nat.le_refl _)) S)
    rw [hg] at IR ⊢
    clear h S hg
    go_enter Try.func33, Try.ntmps33
    go_wp2_with fail
    refine IR.out.mono ?_
    rintro e w1 ⟨rfl, b1⟩
    clear IR
    go_wp2_with fail
    refine (LO _ b1).out.mono ?_
    rintro e w2 ⟨rfl, b2⟩
    have b2 := nxt b1 b2
    clear b1 LO
    go_wp2_with fail
    go_ret2
    exact ⟨bb_ret Q.out.symm rfl, b2⟩
  · have hg : rulB ms = false := by simpa using hg
    have Q := Lib.hid (show icR ms = false by simp [icR, hg])
    rw [hg] at IR ⊢
    clear h
    go_enter Try.func33, Try.ntmps33
    go_wp2_with fail
    refine IR.out.mono ?_
    rintro e w1 ⟨rfl, b1⟩
    go_wp2_with fail
    go_ret2
    exact ⟨bb_ret Q.out.symm rfl, b1⟩

set_option maxHeartbeats 4000000 in
set_option maxRecDepth 20000 in
theorem implIsSparse_any (v : Value) (ms : List Int) (w : World) (h : Sp w v ms) (hl : ms.length ≤ 1099511627776) :
    Calls Try.prog 35 #[v] w fun e w' => e = .returned (.tuple #[.bool (isR ms), .bool (rulB ms)]) ∧ Below w.heap.size w w' := by
  have IR := Lib.hid (implIsRuler_any v ms w h hl)
  by_cases hg : rulB ms = true
  · have S := rulB_iff.1 hg
    have Q := Lib.hid (show isR ms = spB ms by simp [isR, hg])
    have LO := fun W (hb : Below w.heap.size w W) => Lib.hid (isSparse_any v ms W (h.below hb (Nat.le_refl _)) S)
    rw [hg] at IR ⊢
    clear h S hg
    go_enter Try.func35, Try.ntmps35
    go_wp2_with fail
    refine IR.out.mono ?_
    rintro e w1 ⟨rfl, b1⟩
    clear IR
    go_wp2_with fail
    refine (LO _ b1).out.mono ?_
    rintro e w2 ⟨rfl, b2⟩
    have b2 := nxt b1 b2
    clear b1 LO
    go_wp2_with fail
    go_ret2
    exact ⟨bb_ret Q.out.symm rfl, b2⟩
  · have hg : rulB ms = false := by simpa using hg
    have Q := Lib.hid (show isR ms = false by simp [isR, hg])
    rw [hg] at IR ⊢
    clear h
    go_enter Try.func35, Try.ntmps35
    go_wp2_with fail
    refine IR.out.mono ?_
    rintro e w1 ⟨rfl, b1⟩
    go_wp2_with fail
    go_ret2
    exact ⟨bb_ret Q.out.symm rfl, b1⟩

set_option maxHeartbeats 4000000 in
set_option maxRecDepth 20000 in
theorem implRunOfRuler_any (v : Value) (ms : List Int) (w : World) (h : Sp w v ms) (hl : ms.length ≤ 1099511627776) :
    Calls Try.prog 45 #[v] w fun e w' => e = .returned (.tuple #[.int .i64 (rrR ms), .bool (rulB ms)]) ∧ Below w.heap.size w w' := by
  have IR := Lib.hid (implIsRuler_any v ms w h hl)
  by_cases hg : rulB ms = true
  · have S := rulB_iff.1 hg
    have Q := Lib.hid (show rrR ms = rnG ms ((lastM ms).toNat + 1) 0 0 by simp [rrR, hg])
    have LO := fun W (hb : Below w.heap.size w W) => Lib.hid (runOfRuler_any v ms W (h.below hb (Nat.le_refl _)) S)
    rw [hg] at IR ⊢
    clear h S hg
    go_enter Try.func45, Try.ntmps45
    go_wp2_with fail
    refine IR.out.mono ?_
    rintro e w1 ⟨rfl, b1⟩
    clear IR
    go_wp2_with fail
    refine (LO _ b1).out.mono ?_
    rintro e w2 ⟨rfl, b2⟩
    have b2 := nxt b1 b2
    clear b1 LO
    go_wp2_with fail
    go_ret2
    exact ⟨ibu_ret Q.out.symm rfl, b2⟩
  · have hg : rulB ms = false := by simpa using hg
    have Q := Lib.hid (show rrR ms = 0 by simp [rrR, hg])
    rw [hg] at IR ⊢
    clear h
    go_enter Try.func45, Try.ntmps45
    go_wp2_with fail
    refine IR.out.mono ?_
    rintro e w1 ⟨rfl, b1⟩
    go_wp2_with fail
    go_ret2
    exact ⟨ibu_ret Q.out.symm rfl, b1⟩

set_option maxHeartbeats 4000000 in
set_option maxRecDepth 20000 in
theorem implWaysToMeasure_any (v : Value) (ms : List Int) (a1 : Int) (w : World) (h : Sp w v ms) (hl : ms.length ≤ 1099511627776) :
    Calls Try.prog 29 #[v, .int .i64 a1] w fun e w' => e = .returned (.tuple #[.int .i64 (wmR ms a1), .bool (wmB ms a1)]) ∧ Below w.heap.size w w' := by
  have IR := Lib.hid (implIsRuler_any v ms w h hl)
  by_cases hg : rulB ms = true
  · have S := rulB_iff.1 hg
    by_cases hi : inB a1 1 60 = true
    · have hib := inB_iff.1 hi
      have QB := Lib.hid (show wmB ms a1 = true by simp [wmB, hg, hi])
      have Q : Hid (wmR ms a1 = tm ms a1) := Lib.hid (by
        unfold wmR
        by_cases e : a1 < lastM ms + 1
        · rw [if_pos ⟨QB.out, e⟩]
        · rw [if_neg (fun g => e g.2), tm_out S (.inr (by omega))])
      have PO := fun W (hb : Below w.heap.size w W) => Lib.hid (pairsOf_any v ms W (h.below hb (Nat.le_refl _)) S)
      obtain ⟨d, rfl⟩ : ∃ d : Nat, a1 = d := ⟨a1.toNat, by omega⟩
      have hix := iidx_run (tm ms) (k := d) (by omega)
      obtain ⟨C, eC⟩ : ∃ C, iA (tm ms) = C := ⟨_, rfl⟩
      rw [eC] at PO hix
      rw [hg] at IR
      rw [QB.out, Q.out]
      have d1 : decide ((d : Int) < 1) = false := by rw [decide_eq_false_iff_not]; omega
      have d2 : decide (60 < (d : Int)) = false := by rw [decide_eq_false_iff_not]; omega
      clear h S hg hi eC
      go_enter Try.func29, Try.ntmps29
      go_wp2_with fail
      refine IR.out.mono ?_
      rintro e w1 ⟨rfl, b1⟩
      clear IR
      go_wp2_with fail
      refine (PO _ b1).out.mono ?_
      rintro e w2 ⟨rfl, b2⟩
      have b2 := nxt b1 b2
      clear b1 PO
      go_wp2_with fail
      go_ret2
      exact ⟨rfl, b2⟩
    · have QB := Lib.hid (show wmB ms a1 = false by simp [wmB, hi])
      have Q := Lib.hid (show wmR ms a1 = 0 by simp [wmR, QB.out])
      have hib : ¬ (1 ≤ a1 ∧ a1 ≤ 60) := fun g => hi (inB_iff.2 g)
      rw [hg] at IR
      rw [QB.out, Q.out]
      clear h S hg hi
      by_cases h1 : a1 < 1
      · go_enter Try.func29, Try.ntmps29
        go_wp2_with fail
        refine IR.out.mono ?_
        rintro e w1 ⟨rfl, b1⟩
        go_wp2_with fail
        go_ret2
        exact ⟨rfl, b1⟩
      · have d1 : decide (a1 < 1) = false := by simpa using h1
        have d2 : decide (60 < a1) = true := by rw [decide_eq_true_eq]; omega
        go_enter Try.func29, Try.ntmps29
        go_wp2_with fail
        refine IR.out.mono ?_
        rintro e w1 ⟨rfl, b1⟩
        go_wp2_with fail
        go_ret2
        exact ⟨rfl, b1⟩
  · have hg : rulB ms = false := by simpa using hg
    have QB := Lib.hid (show wmB ms a1 = false by simp [wmB, hg])
    have Q := Lib.hid (show wmR ms a1 = 0 by simp [wmR, QB.out])
    rw [hg] at IR
    rw [QB.out, Q.out]
    clear h
    go_enter Try.func29, Try.ntmps29
    go_wp2_with fail
    refine IR.out.mono ?_
    rintro e w1 ⟨rfl, b1⟩
    go_wp2_with fail
    go_ret2
    exact ⟨rfl, b1⟩
end Go.Proofs.Ytaihgdecoaajoaa
