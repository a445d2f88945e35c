/-
  LengthsOf, WaysToMeasure, IsComplete, IsSparse and RunOfRuler in the program, by their contracts. Condition: slices of at most 2^40 numbers.
-/
import Derived.Test.YthienikceehcoaaUpd
import Derived.Test.YthienikceehcoaaRsr
namespace Go.Proofs.Ythienikceehcoaa
open Go.RowKit

set_option maxHeartbeats 4000000 in
set_option maxRecDepth 20000 in
theorem implLengthsOf_any (v : Value) (ms : List Int) (w : World) (h : Sp w v ms) (hl : ms.length ≤ 1099511627776) :
    Calls Try.prog 9 #[v] w fun e w' => ∃ u, e = .returned (.tuple #[u, .bool (rulB ms)]) ∧ Ow w' w.heap.size u (leR ms) ∧ Below w.heap.size w w' := by
  have IR := Lib.hid (implIsRuler_any v ms w h hl)
  by_cases hg : rulB ms = true
  · have S := rulB_iff.1 hg
    have Q := Lib.hid (show leR ms = sL (fun x => decide (0 < tm ms x)) by rw [sL_len S]; simp [leR, hg])
    have LO := fun W (hb : Below w.heap.size w W) => Lib.hid (lengthsOf_any v ms W (h.below hb (Nat.le_refl _)) S)
    have LI := fun W => Lib.hid (list_any (fun x => decide (0 < tm ms x)) W)
    obtain ⟨C, eC⟩ : ∃ C, bA (fun x => decide (0 < tm ms x)) = C := ⟨_, rfl⟩
    rw [hg] at IR ⊢
    rw [eC] at LO LI
    clear h S hg eC
    go_enter Try.func9, Try.ntmps9
    go_wp2_with fail
    refine IR.out.mono ?_
    rintro e w1 ⟨rfl, b1⟩
    clear IR
    go_wp2_with fail
    refine (LO _ b1).out.mono ?_
    rintro e w2 ⟨rfl, b2⟩
    have b2 := nxt b1 b2
    clear b1 LO
    go_wp2_with fail
    refine (LI _).out.mono ?_
    rintro e w3 ⟨u, rfl, o3, b3⟩
    have o3 := o3.mono b2.size
    have b3 := nxt b2 b3
    clear b2 LI
    go_wp2_with fail
    go_ret2
    exact ⟨_, rfl, by rw [Q.out]; exact o3, b3⟩
  · have hg : rulB ms = false := by simpa using hg
    have Q := Lib.hid (show leR ms = [] by simp [leR, hg])
    rw [hg] at IR ⊢
    clear h
    go_enter Try.func9, Try.ntmps9
    go_wp2_with fail
    refine IR.out.mono ?_
    rintro e w1 ⟨rfl, b1⟩
    go_wp2_with fail
    go_ret2
    exact ⟨_, rfl, by rw [Q.out]; exact ow_nilR _ _, b1⟩

end Go.Proofs.Ythienikceehcoaa
