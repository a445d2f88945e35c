/-
  AddMark and DropMark in the program, by their contracts. Condition: slices of at most 2^40 numbers.
-/
import Derived.Test.YthienikceehcoaaUpd
import Derived.Test.YthienikceehcoaaUeq
import Derived.Test.YthienikceehcoaaRsr
namespace Go.Proofs.Ythienikceehcoaa
open Go.RowKit

set_option maxHeartbeats 8000000 in
set_option maxRecDepth 100000 in
theorem implAddMark_any (v : Value) (ms : List Int) (a1 : Int) (w : World) (h : Sp w v ms) (hl : ms.length ≤ 1099511627776) :
    Calls Try.prog 14 #[v, .int .i64 a1] w fun e w' => ∃ u, e = .returned (.tuple #[u, .bool (amB ms a1)]) ∧ Ow w' w.heap.size u (amR ms a1) ∧ Below w.heap.size w w' := by
  have IR := Lib.hid (implIsRuler_any v ms w h hl)
  by_cases hg : rulB ms = true
  · have S := rulB_iff.1 hg
    have hlb := S.last_bd
    have h2 := S.two
    have IN := fun W (hb : Below w.heap.size w W) => Lib.hid (isInside_any v ms a1 W (h.sv.below hb (Nat.le_refl _)) (by omega) hl)
    rw [hg] at IR
    have EI : (decide (0 < a1) && decide (a1 < lastM ms)) = inrB ms a1 := by
      rw [Bool.eq_iff_iff]
      simp only [inrB, hg, Bool.true_and, Bool.and_eq_true, decide_eq_true_eq, inB_iff]
      omega
    rw [EI] at IN
    by_cases hi : inrB ms a1 = true
    · have hib : 1 ≤ a1 ∧ a1 ≤ lastM ms - 1 := by
        simp only [inrB, Bool.and_eq_true] at hi
        exact inB_iff.1 hi.2
      have SO := fun W (hb : Below w.heap.size w W) => Lib.hid (setOf_any v ms W (h.sv.below hb (Nat.le_refl _)) S.ris.1 hl)
      have WI := fun W => Lib.hid (with_any (fun x => decide (x ∈ ms)) a1 W (by omega) (by omega))
      have LI := fun W => Lib.hid (list_any (fun x => decide (x ∈ ms) || (x == a1)) W)
      have EQ := fun W => set_eq (fun x => decide (x ∈ ms) || (x == a1)) (fun x => decide (x ∈ ms)) W
      have eqg : ∀ (x y : Operand) (xs ys : Array Value) W, (eqGuard .eql 33 x y (.agg xs) (.agg ys)).run Try.prog W = .ok () W := fun x y xs ys W => run_eqGuard_agg W .eql _ x y xs ys Try.setG
      have RIS := Lib.hid S.ris
      obtain ⟨C1, eC1⟩ : ∃ C1, bA (fun x => decide (x ∈ ms)) = C1 := ⟨_, rfl⟩
      obtain ⟨C2, eC2⟩ : ∃ C2, bA (fun x => decide (x ∈ ms) || (x == a1)) = C2 := ⟨_, rfl⟩
      have HS1 : Hid (C1.size = 61) := Lib.hid (by rw [← eC1]; exact bA_size _)
      have HO1 : Hid (C1.all (·.oneCell') = true) := Lib.hid (by rw [← eC1]; exact bA_one _)
      have HS2 : Hid (C2.size = 61) := Lib.hid (by rw [← eC2]; exact bA_size _)
      have HO2 : Hid (C2.all (·.oneCell') = true) := Lib.hid (by rw [← eC2]; exact bA_one _)
      rw [eC1] at SO WI EQ
      rw [eC2] at WI LI EQ
      rw [hi] at IN
      clear eC1 eC2 S EI hg
      by_cases hm : a1 ∈ ms
      · have R2 := Lib.hid (show amB ms a1 = false by simp [amB, hm])
        have Q := Lib.hid (show amR ms a1 = [] by simp [amR, R2.out])
        have SA : sameB (fun x => decide (x ∈ ms) || (x == a1)) (fun x => decide (x ∈ ms)) = true := sameB_iff.2 fun j hj => by
          by_cases e : (j : Int) = a1
          · rw [e]; simp [hm]
          · simp [e]
        rw [SA] at EQ
        rw [R2.out, Q.out]
        clear h hi hm SA R2 Q hib
        go_enter Try.func14, Try.ntmps14
        go_wp2_with fail
        refine IR.out.mono ?_
        rintro e w1 ⟨rfl, b1⟩
        go_wp2_with fail
        refine (IN _ b1).out.mono ?_
        rintro e w1' ⟨rfl, rfl⟩
        go_wp2_with fail
        refine (SO _ b1).out.mono ?_
        rintro e w2 ⟨rfl, b2⟩
        have b2 := nxt b1 b2
        clear IR IN SO b1
        go_wp2_with (first
          | (refine wpList_store_row rfl 33 _ _ rfl w2.heap.size C1 rfl rfl 33 litB (by exact heap_alloc_new w2 _) (by rw [HS1.out]; exact Try.setI) (by rw [HS1.out]; rfl) HO1.out ?_; erw [World.setRow_alloc_new])
          | (refine wpList_load_row rfl 33 _ rfl w2.heap.size rfl 33 C1 (0, 0) _ (by exact heap_alloc_new w2 _) Try.setU rfl (by rw [HS1.out]; exact Try.setI) ?_))
        refine (WI _).out.mono ?_
        rintro e w3 ⟨rfl, b3⟩
        have hg1 : w3.heap[w2.heap.size]? = some (.cells C1 33 (0, 0)) := (b3.block _ (by simp)).trans (heap_alloc_new w2 _)
        have HG1 : Hid ((w3.alloc (.cells C2 33)).heap[w2.heap.size]? = some (.cells C1 33 (0, 0))) := Lib.hid ((Below.heap_alloc w3 _ _ (Array.getElem?_eq_some_iff.1 hg1).1).trans hg1)
        have z2 := b2.size
        have z3 := b3.size
        simp only [World.size_alloc] at z3
        have b3 := (b2.alloc z2 _).trans (b3.mono (by simp; omega))
        have b4 := b3.alloc (by omega) (.cells C2 33)
        clear hg1 b2 WI
        go_wp2_with (first
          | (refine wpList_store_row rfl 33 _ _ rfl w3.heap.size C2 rfl rfl 33 litB (by exact heap_alloc_new w3 _) (by rw [HS2.out]; exact Try.setI) (by rw [HS2.out]; rfl) HO2.out ?_; erw [World.setRow_alloc_new])
          | (refine wpList_load_row rfl 33 _ rfl w3.heap.size rfl 33 C2 (0, 0) _ (by exact heap_alloc_new w3 _) Try.setU rfl (by rw [HS2.out]; exact Try.setI) ?_)
          | (refine wpList_load_row rfl 33 _ rfl w2.heap.size rfl 33 C1 (0, 0) _ (by exact HG1.out) Try.setU rfl (by rw [HS1.out]; exact Try.setI) ?_))
        go_ret2
        exact ⟨_, rfl, ow_nilR _ _, b4⟩
      · have R2 := Lib.hid (show amB ms a1 = true by simp [amB, hi, hm])
        have Q : Hid (amR ms a1 = sL (fun x => decide (x ∈ ms) || (x == a1))) := Lib.hid (by rw [show amR ms a1 = adL ms a1 by simp [amR, R2.out]]; rfl)
        have SA : sameB (fun x => decide (x ∈ ms) || (x == a1)) (fun x => decide (x ∈ ms)) = false := by
          rw [Bool.eq_false_iff]
          intro g
          have g := sameB_iff.1 g a1.toNat (by omega)
          rw [show ((a1.toNat : Nat) : Int) = a1 by omega] at g
          simp [hm] at g
        rw [SA] at EQ
        rw [R2.out, Q.out]
        clear h hi hm SA R2 Q hib
        go_enter Try.func14, Try.ntmps14
        go_wp2_with fail
        refine IR.out.mono ?_
        rintro e w1 ⟨rfl, b1⟩
        go_wp2_with fail
        refine (IN _ b1).out.mono ?_
        rintro e w1' ⟨rfl, rfl⟩
        go_wp2_with fail
        refine (SO _ b1).out.mono ?_
        rintro e w2 ⟨rfl, b2⟩
        have b2 := nxt b1 b2
        clear IR IN SO b1
        go_wp2_with (first
          | (refine wpList_store_row rfl 33 _ _ rfl w2.heap.size C1 rfl rfl 33 litB (by exact heap_alloc_new w2 _) (by rw [HS1.out]; exact Try.setI) (by rw [HS1.out]; rfl) HO1.out ?_; erw [World.setRow_alloc_new])
          | (refine wpList_load_row rfl 33 _ rfl w2.heap.size rfl 33 C1 (0, 0) _ (by exact heap_alloc_new w2 _) Try.setU rfl (by rw [HS1.out]; exact Try.setI) ?_))
        refine (WI _).out.mono ?_
        rintro e w3 ⟨rfl, b3⟩
        have hg1 : w3.heap[w2.heap.size]? = some (.cells C1 33 (0, 0)) := (b3.block _ (by simp)).trans (heap_alloc_new w2 _)
        have HG1 : Hid ((w3.alloc (.cells C2 33)).heap[w2.heap.size]? = some (.cells C1 33 (0, 0))) := Lib.hid ((Below.heap_alloc w3 _ _ (Array.getElem?_eq_some_iff.1 hg1).1).trans hg1)
        have z2 := b2.size
        have z3 := b3.size
        simp only [World.size_alloc] at z3
        have b3 := (b2.alloc z2 _).trans (b3.mono (by simp; omega))
        have b4 := b3.alloc (by omega) (.cells C2 33)
        clear hg1 b2 WI
        go_wp2_with (first
          | (refine wpList_store_row rfl 33 _ _ rfl w3.heap.size C2 rfl rfl 33 litB (by exact heap_alloc_new w3 _) (by rw [HS2.out]; exact Try.setI) (by rw [HS2.out]; rfl) HO2.out ?_; erw [World.setRow_alloc_new])
          | (refine wpList_load_row rfl 33 _ rfl w3.heap.size rfl 33 C2 (0, 0) _ (by exact heap_alloc_new w3 _) Try.setU rfl (by rw [HS2.out]; exact Try.setI) ?_)
          | (refine wpList_load_row rfl 33 _ rfl w2.heap.size rfl 33 C1 (0, 0) _ (by exact HG1.out) Try.setU rfl (by rw [HS1.out]; exact Try.setI) ?_))
        refine (LI _).out.mono ?_
        rintro e w5 ⟨u, rfl, o5, b5⟩
        have z4 := b4.size
        have o5 := o5.mono z4
        have b5 := nxt b4 b5
        clear LI b4
        go_wp2_with fail
        go_ret2
        exact ⟨_, rfl, o5, b5⟩
    · have hi : inrB ms a1 = false := by simpa using hi
      have R2 := Lib.hid (show amB ms a1 = false by simp [amB, hi])
      have Q := Lib.hid (show amR ms a1 = [] by simp [amR, R2.out])
      rw [hi] at IN
      rw [R2.out, Q.out]
      clear h S hg EI
      go_enter Try.func14, Try.ntmps14
      go_wp2_with fail
      refine IR.out.mono ?_
      rintro e w1 ⟨rfl, b1⟩
      go_wp2_with fail
      refine (IN _ b1).out.mono ?_
      rintro e w1' ⟨rfl, rfl⟩
      go_wp2_with fail
      go_ret2
      exact ⟨_, rfl, ow_nilR _ _, b1⟩
  · have hg : rulB ms = false := by simpa using hg
    have R2 := Lib.hid (show amB ms a1 = false by simp [amB, inrB, hg])
    have Q := Lib.hid (show amR ms a1 = [] by simp [amR, R2.out])
    rw [hg] at IR
    rw [R2.out, Q.out]
    clear h
    go_enter Try.func14, Try.ntmps14
    go_wp2_with fail
    refine IR.out.mono ?_
    rintro e w1 ⟨rfl, b1⟩
    go_wp2_with fail
    go_ret2
    exact ⟨_, rfl, ow_nilR _ _, b1⟩

set_option maxHeartbeats 8000000 in
set_option maxRecDepth 100000 in
theorem implDropMark_any (v : Value) (ms : List Int) (a1 : Int) (w : World) (h : Sp w v ms) (hl : ms.length ≤ 1099511627776) :
    Calls Try.prog 16 #[v, .int .i64 a1] w fun e w' => ∃ u, e = .returned (.tuple #[u, .bool (dmB ms a1)]) ∧ Ow w' w.heap.size u (dmR ms a1) ∧ Below w.heap.size w w' := by
  have IR := Lib.hid (implIsRuler_any v ms w h hl)
  by_cases hg : rulB ms = true
  · have S := rulB_iff.1 hg
    have hlb := S.last_bd
    have h2 := S.two
    have IN := fun W (hb : Below w.heap.size w W) => Lib.hid (isInside_any v ms a1 W (h.sv.below hb (Nat.le_refl _)) (by omega) hl)
    rw [hg] at IR
    have EI : (decide (0 < a1) && decide (a1 < lastM ms)) = inrB ms a1 := by
      rw [Bool.eq_iff_iff]
      simp only [inrB, hg, Bool.true_and, Bool.and_eq_true, decide_eq_true_eq, inB_iff]
      omega
    rw [EI] at IN
    by_cases hi : inrB ms a1 = true
    · have hib : 1 ≤ a1 ∧ a1 ≤ lastM ms - 1 := by
        simp only [inrB, Bool.and_eq_true] at hi
        exact inB_iff.1 hi.2
      have SO := fun W (hb : Below w.heap.size w W) => Lib.hid (setOf_any v ms W (h.sv.below hb (Nat.le_refl _)) S.ris.1 hl)
      have WI := fun W => Lib.hid (without_any (fun x => decide (x ∈ ms)) a1 W (by omega) (by omega))
      have LI := fun W => Lib.hid (list_any (fun x => decide (x ∈ ms) && !(x == a1)) W)
      have EQ := fun W => set_eq (fun x => decide (x ∈ ms) && !(x == a1)) (fun x => decide (x ∈ ms)) W
      have eqg : ∀ (x y : Operand) (xs ys : Array Value) W, (eqGuard .eql 33 x y (.agg xs) (.agg ys)).run Try.prog W = .ok () W := fun x y xs ys W => run_eqGuard_agg W .eql _ x y xs ys Try.setG
      have RIS := Lib.hid S.ris
      obtain ⟨C1, eC1⟩ : ∃ C1, bA (fun x => decide (x ∈ ms)) = C1 := ⟨_, rfl⟩
      obtain ⟨C2, eC2⟩ : ∃ C2, bA (fun x => decide (x ∈ ms) && !(x == a1)) = C2 := ⟨_, rfl⟩
      have HS1 : Hid (C1.size = 61) := Lib.hid (by rw [← eC1]; exact bA_size _)
      have HO1 : Hid (C1.all (·.oneCell') = true) := Lib.hid (by rw [← eC1]; exact bA_one _)
      have HS2 : Hid (C2.size = 61) := Lib.hid (by rw [← eC2]; exact bA_size _)
      have HO2 : Hid (C2.all (·.oneCell') = true) := Lib.hid (by rw [← eC2]; exact bA_one _)
      rw [eC1] at SO WI EQ
      rw [eC2] at WI LI EQ
      rw [hi] at IN
      clear eC1 eC2 S EI hg
      by_cases hm : a1 ∈ ms
      · have R2 := Lib.hid (show dmB ms a1 = true by simp [dmB, hi, hm])
        have Q : Hid (dmR ms a1 = sL (fun x => decide (x ∈ ms) && !(x == a1))) := Lib.hid (by rw [show dmR ms a1 = drL ms a1 by simp [dmR, R2.out]]; exact (sL_drop RIS.out a1).symm)
        have SA : sameB (fun x => decide (x ∈ ms) && !(x == a1)) (fun x => decide (x ∈ ms)) = false := by
          rw [Bool.eq_false_iff]
          intro g
          have g := sameB_iff.1 g a1.toNat (by omega)
          rw [show ((a1.toNat : Nat) : Int) = a1 by omega] at g
          simp [hm] at g
        rw [SA] at EQ
        rw [R2.out, Q.out]
        clear h hi hm SA R2 Q hib
        go_enter Try.func16, Try.ntmps16
        go_wp2_with fail
        refine IR.out.mono ?_
        rintro e w1 ⟨rfl, b1⟩
        go_wp2_with fail
        refine (IN _ b1).out.mono ?_
        rintro e w1' ⟨rfl, rfl⟩
        go_wp2_with fail
        refine (SO _ b1).out.mono ?_
        rintro e w2 ⟨rfl, b2⟩
        have b2 := nxt b1 b2
        clear IR IN SO b1
        go_wp2_with (first
          | (refine wpList_store_row rfl 33 _ _ rfl w2.heap.size C1 rfl rfl 33 litB (by exact heap_alloc_new w2 _) (by rw [HS1.out]; exact Try.setI) (by rw [HS1.out]; rfl) HO1.out ?_; erw [World.setRow_alloc_new])
          | (refine wpList_load_row rfl 33 _ rfl w2.heap.size rfl 33 C1 (0, 0) _ (by exact heap_alloc_new w2 _) Try.setU rfl (by rw [HS1.out]; exact Try.setI) ?_))
        refine (WI _).out.mono ?_
        rintro e w3 ⟨rfl, b3⟩
        have hg1 : w3.heap[w2.heap.size]? = some (.cells C1 33 (0, 0)) := (b3.block _ (by simp)).trans (heap_alloc_new w2 _)
        have HG1 : Hid ((w3.alloc (.cells C2 33)).heap[w2.heap.size]? = some (.cells C1 33 (0, 0))) := Lib.hid ((Below.heap_alloc w3 _ _ (Array.getElem?_eq_some_iff.1 hg1).1).trans hg1)
        have z2 := b2.size
        have z3 := b3.size
        simp only [World.size_alloc] at z3
        have b3 := (b2.alloc z2 _).trans (b3.mono (by simp; omega))
        have b4 := b3.alloc (by omega) (.cells C2 33)
        clear hg1 b2 WI
        go_wp2_with (first
          | (refine wpList_store_row rfl 33 _ _ rfl w3.heap.size C2 rfl rfl 33 litB (by exact heap_alloc_new w3 _) (by rw [HS2.out]; exact Try.setI) (by rw [HS2.out]; rfl) HO2.out ?_; erw [World.setRow_alloc_new])
          | (refine wpList_load_row rfl 33 _ rfl w3.heap.size rfl 33 C2 (0, 0) _ (by exact heap_alloc_new w3 _) Try.setU rfl (by rw [HS2.out]; exact Try.setI) ?_)
          | (refine wpList_load_row rfl 33 _ rfl w2.heap.size rfl 33 C1 (0, 0) _ (by exact HG1.out) Try.setU rfl (by rw [HS1.out]; exact Try.setI) ?_))
        refine (LI _).out.mono ?_
        rintro e w5 ⟨u, rfl, o5, b5⟩
        have z4 := b4.size
        have o5 := o5.mono z4
        have b5 := nxt b4 b5
        clear LI b4
        go_wp2_with fail
        go_ret2
        exact ⟨_, rfl, o5, b5⟩
      · have R2 := Lib.hid (show dmB ms a1 = false by simp [dmB, hm])
        have Q := Lib.hid (show dmR ms a1 = [] by simp [dmR, R2.out])
        have SA : sameB (fun x => decide (x ∈ ms) && !(x == a1)) (fun x => decide (x ∈ ms)) = true := sameB_iff.2 fun j hj => by
          by_cases e : (j : Int) = a1
          · rw [e]; simp [hm]
          · simp [e]
        rw [SA] at EQ
        rw [R2.out, Q.out]
        clear h hi hm SA R2 Q hib
        go_enter Try.func16, Try.ntmps16
        go_wp2_with fail
        refine IR.out.mono ?_
        rintro e w1 ⟨rfl, b1⟩
        go_wp2_with fail
        refine (IN _ b1).out.mono ?_
        rintro e w1' ⟨rfl, rfl⟩
        go_wp2_with fail
        refine (SO _ b1).out.mono ?_
        rintro e w2 ⟨rfl, b2⟩
        have b2 := nxt b1 b2
        clear IR IN SO b1
        go_wp2_with (first
          | (refine wpList_store_row rfl 33 _ _ rfl w2.heap.size C1 rfl rfl 33 litB (by exact heap_alloc_new w2 _) (by rw [HS1.out]; exact Try.setI) (by rw [HS1.out]; rfl) HO1.out ?_; erw [World.setRow_alloc_new])
          | (refine wpList_load_row rfl 33 _ rfl w2.heap.size rfl 33 C1 (0, 0) _ (by exact heap_alloc_new w2 _) Try.setU rfl (by rw [HS1.out]; exact Try.setI) ?_))
        refine (WI _).out.mono ?_
        rintro e w3 ⟨rfl, b3⟩
        have hg1 : w3.heap[w2.heap.size]? = some (.cells C1 33 (0, 0)) := (b3.block _ (by simp)).trans (heap_alloc_new w2 _)
        have HG1 : Hid ((w3.alloc (.cells C2 33)).heap[w2.heap.size]? = some (.cells C1 33 (0, 0))) := Lib.hid ((Below.heap_alloc w3 _ _ (Array.getElem?_eq_some_iff.1 hg1).1).trans hg1)
        have z2 := b2.size
        have z3 := b3.size
        simp only [World.size_alloc] at z3
        have b3 := (b2.alloc z2 _).trans (b3.mono (by simp; omega))
        have b4 := b3.alloc (by omega) (.cells C2 33)
        clear hg1 b2 WI
        go_wp2_with (first
          | (refine wpList_store_row rfl 33 _ _ rfl w3.heap.size C2 rfl rfl 33 litB (by exact heap_alloc_new w3 _) (by rw [HS2.out]; exact Try.setI) (by rw [HS2.out]; rfl) HO2.out ?_; erw [World.setRow_alloc_new])
          | (refine wpList_load_row rfl 33 _ rfl w3.heap.size rfl 33 C2 (0, 0) _ (by exact heap_alloc_new w3 _) Try.setU rfl (by rw [HS2.out]; exact Try.setI) ?_)
          | (refine wpList_load_row rfl 33 _ rfl w2.heap.size rfl 33 C1 (0, 0) _ (by exact HG1.out) Try.setU rfl (by rw [HS1.out]; exact Try.setI) ?_))
        go_ret2
        exact ⟨_, rfl, ow_nilR _ _, b4⟩
    · have hi : inrB ms a1 = false := by simpa using hi
      have R2 := Lib.hid (show dmB ms a1 = false by simp [dmB, hi])
      have Q := Lib.hid (show dmR ms a1 = [] by simp [dmR, R2.out])
      rw [hi] at IN
      rw [R2.out, Q.out]
      clear h S hg EI
      go_enter Try.func16, Try.ntmps16
      go_wp2_with fail
      refine IR.out.mono ?_
      rintro e w1 ⟨rfl, b1⟩
      go_wp2_with fail
      refine (IN _ b1).out.mono ?_
      rintro e w1' ⟨rfl, rfl⟩
      go_wp2_with fail
      go_ret2
      exact ⟨_, rfl, ow_nilR _ _, b1⟩
  · have hg : rulB ms = false := by simpa using hg
    have R2 := Lib.hid (show dmB ms a1 = false by simp [dmB, inrB, hg])
    have Q := Lib.hid (show dmR ms a1 = [] by simp [dmR, R2.out])
    rw [hg] at IR
    rw [R2.out, Q.out]
    clear h
    go_enter Try.func16, Try.ntmps16
    go_wp2_with fail
    refine IR.out.mono ?_
    rintro e w1 ⟨rfl, b1⟩
    go_wp2_with fail
    go_ret2
    exact ⟨_, rfl, ow_nilR _ _, b1⟩
end Go.Proofs.Ythienikceehcoaa
