/-
  CanMake and WaysOf in the model and in the program, by their contracts, and the laws on them, walked. No condition on the laws but a length that fits int.
-/
import Derived.Test.YtphjiicdodkfbaaTabb
namespace Go.Proofs.Ytphjiicdodkfbaa
open Go.RowKit

/-- No entry is half told: without ways there is nothing. -/
def Whole (A B C : Nat → Int) : Prop := ∀ j, A j = 0 → B j = 0 ∧ C j = 0
theorem whole_of (xs : List Int) : Whole (fun j => Wy xs j) (fun j => Fw xs j) (fun j => Sg 0 xs j) := fun j h => ⟨Fw_zero xs j h, Sg_zero xs 0 j h⟩
def sumB (n : Nat) (A : Nat → Int) (s : Int) : Bool := decide (s < n) && !(A s.toNat == 0)

set_option maxHeartbeats 2000000 in
theorem isSum_any (g n : Nat) (A B C : Nat → Int) (s : Int) (w : World) (hT : Tb w g n A B C) (hz : Whole A B C) (hs : 0 ≤ s) (_hn : n ≤ 1099511627776) :
    Calls Try.prog 112 #[.slice (some ⟨g, 0, none⟩) n n, .int .i64 s] w fun e w' => e = .returned (.bool (sumB n A s)) ∧ w = w' := by
  by_cases hlt : s < n
  · obtain ⟨q, rfl⟩ : ∃ q : Nat, s = (q : Int) := ⟨s.toNat, by omega⟩
    have d1 : decide ((q : Int) < (n : Int)) = true := by simpa using hlt
    obtain ⟨c1, c2, c3, -, -, -⟩ := hT.cells (j := q) (by omega)
    have e0 : sumB n A (q : Int) = !(A q == 0) := by simp [sumB]; omega
    have E0 := Lib.hid e0
    clear hT e0
    by_cases hA : A q = 0
    · obtain ⟨hB, hC⟩ := hz q hA
      rw [hA] at c1
      rw [hB] at c2
      rw [hC] at c3
      have R := Lib.hid (show sumB n A (q : Int) = false by rw [E0.out, hA]; rfl)
      clear hA hB hC hz E0
      go_enter Try.func112, Try.ntmps112
      go_wp2
      go_ret
      exact ⟨ret_bool R.out.symm, rfl⟩
    · have R := Lib.hid (show sumB n A (q : Int) = true by rw [E0.out]; simpa using hA)
      obtain ⟨a, ea⟩ : ∃ a, A q = a := ⟨_, rfl⟩
      rw [ea] at c1 hA
      have d2 : (a == 0) = false := by simpa using hA
      clear hA hz E0 ea
      go_enter Try.func112, Try.ntmps112
      go_wp2
      go_ret
      exact ⟨ret_bool R.out.symm, rfl⟩
  · have d1 : decide (s < (n : Int)) = false := by simpa using hlt
    have R := Lib.hid (show sumB n A s = false by simp only [sumB, d1, Bool.false_and])
    clear hT hz
    go_enter Try.func112, Try.ntmps112
    go_wp2
    go_ret
    exact ⟨ret_bool R.out.symm, rfl⟩

theorem tb_new (w : World) : Tb (w.alloc (.cells #[.int .i64 0, .int .i64 0, .int .i64 0] 105)) w.heap.size 1 (fun _ => 0) (fun _ => 0) (fun _ => 0) :=
  ⟨_, heap_alloc_new w _, rfl, fun j hj => by obtain rfl : j = 0 := by omega
                                              exact ⟨rfl, rfl, rfl⟩⟩
noncomputable def mdA (xs : List Int) (s : Int) : Int := if askB xs s = true then Wy xs s else 0
noncomputable def mdB (xs : List Int) (s : Int) : Int := if askB xs s = true then Fw xs s else 0
noncomputable def mdC (xs : List Int) (s : Int) : Int := if askB xs s = true then Sg 0 xs s else 0
theorem md_no {xs : List Int} {s : Int} (h : askB xs s = false) : mdA xs s = 0 ∧ mdB xs s = 0 ∧ mdC xs s = 0 := by simp [mdA, mdB, mdC, h]
theorem md_yes {xs : List Int} {s : Int} (h : askB xs s = true) : mdA xs s = Wy xs s ∧ mdB xs s = Fw xs s ∧ mdC xs s = Sg 0 xs s := by simp [mdA, mdB, mdC, h]
theorem md_zero {xs : List Int} {s : Int} (h : mdA xs s = 0) : mdB xs s = 0 ∧ mdC xs s = 0 := by
  by_cases ha : askB xs s = true
  · have R := md_yes ha
    rw [R.1] at h
    rw [R.2.1, R.2.2]
    exact ⟨Fw_zero xs s h, Sg_zero xs 0 s h⟩
  · have ha : askB xs s = false := by simpa using ha
    exact (md_no ha).2
theorem ret_md {a b c a2 b2 c2 : Int} {d e : Bool} (h1 : a = a2) (h2 : b = b2) (h3 : c = c2) (h4 : d = e) : Ending.returned (.tuple #[.agg #[.int .i64 a, .int .i64 b, .int .i64 c], .bool d]) = .returned (.tuple #[.agg #[.int .i64 a2, .int .i64 b2, .int .i64 c2], .bool e]) := by rw [h1, h2, h3, h4]

set_option maxHeartbeats 4000000 in
set_option maxRecDepth 100000 in
theorem madeOf_any (v : Value) (xs : List Int) (s : Int) (w : World) (h : Sv w v xs) (hl : xs.length ≤ 1099511627776) :
    Calls Try.prog 115 #[v, .int .i64 s] w fun e w' => e = .returned (.tuple #[.agg #[.int .i64 (mdA xs s), .int .i64 (mdB xs s), .int .i64 (mdC xs s)], .bool (askB xs s)]) ∧ Below w.heap.size w w' := by
  by_cases hg : goodB xs = true
  · have hgood := goodB_iff.1 hg
    by_cases hi : inB s 0 200000 = true
    · have hask := askB_yes hg hi
      have R := Lib.hid (md_yes hask)
      have HA := Lib.hid hask
      obtain ⟨hs0, hs1⟩ := inB_iff.1 hi
      obtain ⟨htop, htop2⟩ := hgood.top
      have HTOP := Lib.hid htop
      clear hask htop
      go_enter Try.func115, Try.ntmps115
      go_wp2_with fail
      have b0 : Below w.heap.size w (w.alloc (.cells #[.int .i64 0, .int .i64 0, .int .i64 0] 105)) := (Below.refl _ _).alloc (Nat.le_refl _) _
      have old : Tb (w.alloc (.cells #[.int .i64 0, .int .i64 0, .int .i64 0] 105)) w.heap.size 1 (fun _ => 0) (fun _ => 0) (fun _ => 0) := tb_new w
      refine (arePieces_any _ _ _ (h.below b0 (Nat.le_refl _)) hl).mono ?_
      rintro e w1 ⟨rfl, b1⟩
      have old1 := old.below b1 (Nat.le_refl _)
      have b1 := b0.trans (b1.mono b0.size)
      clear old b0
      go_wp2_with fail
      refine (isAsked_any _ _).mono ?_
      rintro e w1' ⟨rfl, rfl⟩
      go_wp2_with fail
      refine (tableOf_any _ _ _ (h.below b1 (Nat.le_refl _)) hgood).mono ?_
      rintro e w2 ⟨g, rfl, hgs, htb, b2⟩
      have old2 := old1.below b2 (Nat.le_refl _)
      have b2 := nxt b1 b2
      clear old1 b1
      go_wp2_with fail
      refine (isSum_any g _ _ _ _ s _ htb (whole_of xs) hs0 (by omega)).mono ?_
      rintro e w2' ⟨rfl, rfl⟩
      obtain ⟨c1, c2, c3, f1, f2, f3⟩ := old2.cells (j := 0) (by omega)
      simp only [Nat.zero_mul, Nat.zero_add] at c1 c2 c3 f1 f2 f3
      by_cases hlt : s < (top xs : Int) + 1
      · obtain ⟨q, rfl⟩ : ∃ q : Nat, s = (q : Int) := ⟨s.toNat, by omega⟩
        obtain ⟨t1, t2, t3, -, -, -⟩ := htb.cells (j := q) (by omega)
        have hs2 : sumB (top xs + 1) (fun j => Wy xs j) (q : Int) = !(Wy xs q == 0) := by simp [sumB]; omega
        by_cases hz : Wy xs q = 0
        · have S := Lib.hid (show sumB (top xs + 1) (fun j => Wy xs j) (q : Int) = false by rw [hs2, hz]; rfl)
          have Z := Lib.hid (show mdA xs q = 0 ∧ mdB xs q = 0 ∧ mdC xs q = 0 from ⟨R.out.1.trans hz, R.out.2.1.trans (Fw_zero xs q hz), R.out.2.2.trans (Sg_zero xs 0 q hz)⟩)
          clear hs2 hz t1 t2 t3 htb
          rw [S.out]
          go_wp2_with fail
          obtain ⟨k1, k2, k3, -, -, -⟩ := (Tb.set (j := 0) old2 0 0 0).cells (j := 0) (by omega)
          simp only [Nat.zero_mul, Nat.zero_add, if_pos] at k1 k2 k3
          refine bodyPost_ret (v := .tuple #[.agg #[.int .i64 0, .int .i64 0, .int .i64 0], .bool true]) (by simp [k1, k2, k3, results, Try.results115, go_sem]) rfl ⟨ret_md Z.out.1.symm Z.out.2.1.symm Z.out.2.2.symm HA.out.symm, ?_⟩
          exact ((b2.setCell (Nat.le_refl _) _).setCell (Nat.le_refl _) _).setCell (Nat.le_refl _) _
        · have S := Lib.hid (show sumB (top xs + 1) (fun j => Wy xs j) (q : Int) = true by rw [hs2]; simpa using hz)
          clear hs2 hz htb
          rw [S.out]
          go_wp2_with fail
          obtain ⟨k1, k2, k3, -, -, -⟩ := (Tb.set (j := 0) old2 (Wy xs q) (Fw xs q) (Sg 0 xs q)).cells (j := 0) (by omega)
          simp only [Nat.zero_mul, Nat.zero_add, if_pos] at k1 k2 k3
          refine bodyPost_ret (v := .tuple #[.agg #[.int .i64 (Wy xs q), .int .i64 (Fw xs q), .int .i64 (Sg 0 xs q)], .bool true]) (by simp [k1, k2, k3, results, Try.results115, go_sem]) rfl ⟨ret_md R.out.1.symm R.out.2.1.symm R.out.2.2.symm HA.out.symm, ?_⟩
          exact ((b2.setCell (Nat.le_refl _) _).setCell (Nat.le_refl _) _).setCell (Nat.le_refl _) _
      · have hz : Wy xs s = 0 := Wy_big xs s hgood.mem (by have := HTOP.out; omega)
        have S := Lib.hid (show sumB (top xs + 1) (fun j => Wy xs j) s = false by have d : decide (s < ((top xs + 1 : Nat) : Int)) = false := by simp only [decide_eq_false_iff_not]; omega
                                                                                  simp only [sumB, d, Bool.false_and])
        have Z := Lib.hid (show mdA xs s = 0 ∧ mdB xs s = 0 ∧ mdC xs s = 0 from ⟨R.out.1.trans hz, R.out.2.1.trans (Fw_zero xs s hz), R.out.2.2.trans (Sg_zero xs 0 s hz)⟩)
        clear hz htb
        rw [S.out]
        go_wp2_with fail
        obtain ⟨k1, k2, k3, -, -, -⟩ := (Tb.set (j := 0) old2 0 0 0).cells (j := 0) (by omega)
        simp only [Nat.zero_mul, Nat.zero_add, if_pos] at k1 k2 k3
        refine bodyPost_ret (v := .tuple #[.agg #[.int .i64 0, .int .i64 0, .int .i64 0], .bool true]) (by simp [k1, k2, k3, results, Try.results115, go_sem]) rfl ⟨ret_md Z.out.1.symm Z.out.2.1.symm Z.out.2.2.symm HA.out.symm, ?_⟩
        exact ((b2.setCell (Nat.le_refl _) _).setCell (Nat.le_refl _) _).setCell (Nat.le_refl _) _
    · have hi : inB s 0 200000 = false := by simpa using hi
      have hask := askB_out (xs := xs) hi
      have HA := Lib.hid hask
      have Z := Lib.hid (md_no hask)
      clear hask
      go_enter Try.func115, Try.ntmps115
      go_wp2_with fail
      have b0 : Below w.heap.size w (w.alloc (.cells #[.int .i64 0, .int .i64 0, .int .i64 0] 105)) := (Below.refl _ _).alloc (Nat.le_refl _) _
      have old : Tb (w.alloc (.cells #[.int .i64 0, .int .i64 0, .int .i64 0] 105)) w.heap.size 1 (fun _ => 0) (fun _ => 0) (fun _ => 0) := tb_new w
      refine (arePieces_any _ _ _ (h.below b0 (Nat.le_refl _)) hl).mono ?_
      rintro e w1 ⟨rfl, b1⟩
      have old1 := old.below b1 (Nat.le_refl _)
      have b1 := b0.trans (b1.mono b0.size)
      clear old b0
      go_wp2_with fail
      refine (isAsked_any _ _).mono ?_
      rintro e w1' ⟨rfl, rfl⟩
      obtain ⟨c1, c2, c3, f1, f2, f3⟩ := old1.cells (j := 0) (by omega)
      simp only [Nat.zero_mul, Nat.zero_add] at c1 c2 c3 f1 f2 f3
      go_wp2_with fail
      obtain ⟨k1, k2, k3, -, -, -⟩ := (Tb.set (j := 0) old1 0 0 0).cells (j := 0) (by omega)
      simp only [Nat.zero_mul, Nat.zero_add, if_pos] at k1 k2 k3
      refine bodyPost_ret (v := .tuple #[.agg #[.int .i64 0, .int .i64 0, .int .i64 0], .bool false]) (by simp [k1, k2, k3, results, Try.results115, go_sem]) rfl ⟨ret_md Z.out.1.symm Z.out.2.1.symm Z.out.2.2.symm HA.out.symm, ?_⟩
      exact ((b1.setCell (Nat.le_refl _) _).setCell (Nat.le_refl _) _).setCell (Nat.le_refl _) _
  · have hg : goodB xs = false := by simpa using hg
    have hask := askB_no (s := s) hg
    have HA := Lib.hid hask
    have Z := Lib.hid (md_no hask)
    clear hask
    go_enter Try.func115, Try.ntmps115
    go_wp2_with fail
    have b0 : Below w.heap.size w (w.alloc (.cells #[.int .i64 0, .int .i64 0, .int .i64 0] 105)) := (Below.refl _ _).alloc (Nat.le_refl _) _
    have old : Tb (w.alloc (.cells #[.int .i64 0, .int .i64 0, .int .i64 0] 105)) w.heap.size 1 (fun _ => 0) (fun _ => 0) (fun _ => 0) := tb_new w
    refine (arePieces_any _ _ _ (h.below b0 (Nat.le_refl _)) hl).mono ?_
    rintro e w1 ⟨rfl, b1⟩
    have old1 := old.below b1 (Nat.le_refl _)
    have b1 := b0.trans (b1.mono b0.size)
    clear old b0
    obtain ⟨c1, c2, c3, f1, f2, f3⟩ := old1.cells (j := 0) (by omega)
    simp only [Nat.zero_mul, Nat.zero_add] at c1 c2 c3 f1 f2 f3
    go_wp2_with fail
    obtain ⟨k1, k2, k3, -, -, -⟩ := (Tb.set (j := 0) old1 0 0 0).cells (j := 0) (by omega)
    simp only [Nat.zero_mul, Nat.zero_add, if_pos] at k1 k2 k3
    refine bodyPost_ret (v := .tuple #[.agg #[.int .i64 0, .int .i64 0, .int .i64 0], .bool false]) (by simp [k1, k2, k3, results, Try.results115, go_sem]) rfl ⟨ret_md Z.out.1.symm Z.out.2.1.symm Z.out.2.2.symm HA.out.symm, ?_⟩
    exact ((b1.setCell (Nat.le_refl _) _).setCell (Nat.le_refl _) _).setCell (Nat.le_refl _) _

end Go.Proofs.Ytphjiicdodkfbaa
