/-
  How a value is made on both sides, read in the program's table, and one way more, by contracts. Conditions: pieces; values of a size of at most 2^40.
-/
import Derived.Test.YtcgifmoddojnmaaZma
import Derived.Test.YtcgifmoddojnmaaTabbz
namespace Go.Proofs.Ytcgifmoddojnmaa
open Go.RowKit

theorem tb_new3 (w : World) : Tb (w.alloc (.cells #[.int .i64 0, .int .i64 0, .int .i64 0] 52)) w.heap.size 1 (fun _ => 0) (fun _ => 0) (fun _ => 0) :=
  ⟨_, heap_alloc_new w _, rfl, fun j hj => by obtain rfl : j = 0 := by omega
                                              exact ⟨rfl, rfl, rfl⟩⟩
theorem ret_md3 {a b c a2 b2 c2 : Int} (h1 : a = a2) (h2 : b = b2) (h3 : c = c2) : Ending.returned (.agg #[.int .i64 a, .int .i64 b, .int .i64 c]) = .returned (.agg #[.int .i64 a2, .int .i64 b2, .int .i64 c2]) := by rw [h1, h2, h3]
/-- The table of l, C telling the starts. -/
def Tbs (w : World) (g : Nat) (C : Int → Int) (l : List Int) : Prop := Tb w g ((sumFrom 0 l).toNat + 1) (fun j => Sy l j) (fun j => Fs l j) (fun j => C j)
theorem Tbs.below {w w' : World} {g D : Nat} {C : Int → Int} {l : List Int} (h : Tbs w g C l) (hb : Below D w w') (hD : w.heap.size ≤ D) : Tbs w' g C l := Tb.below h hb hD
/-- Starts that are told for either sign alike, and only of values. -/
structure StOk (l : List Int) (C : Int → Int) : Prop where
  ev : ∀ s, C (-s) = C s
  zr : ∀ s, Sy l s = 0 → C s = 0
def gcons (l : List Int) (C : Int → Int) (i m : Int) (s : Int) : Int := orC (Sy l s + Sy l (s - m)) (orC (Sy l s) (C s) (Sy l (s - m)) i) (Sy l (s + m)) i
theorem StOk.cons {l : List Int} {C : Int → Int} (h : StOk l C) (i m : Int) : StOk (m :: l) (gcons l C i m) := by
  refine ⟨fun s => ?_, fun s hs => ?_⟩
  · unfold gcons
    rw [show -s - m = -(s + m) by omega, show -s + m = -(s - m) by omega, h.ev, Sy_even, Sy_even, Sy_even]
    exact (orC_swap _ _ _ _ _ (Sy_bd l s).1 (Sy_bd l _).1 (Sy_bd l _).1)
  · obtain ⟨h1, h2, h3⟩ := Sy_cons_zero hs
    simp only [gcons, orC, h1, h2, h3, if_pos, h.zr s h1]

set_option maxHeartbeats 4000000 in
set_option maxRecDepth 100000 in
theorem valueIn_any (g n : Nat) (C : Int → Int) (l : List Int) (v : Int) (w : World) (hT : Tbs w g C l) (hC : StOk l C) (hn : n = (sumFrom 0 l).toNat + 1) (hl : ∀ x ∈ l, 1 ≤ x ∧ x ≤ 10000) (hs : sumFrom 0 l ≤ 200000) (hv0 : -1099511627776 ≤ v) (hv1 : v ≤ 1099511627776) :
    Calls Try.prog 61 #[.slice (some ⟨g, 0, none⟩) n n, .int .i64 v] w
      fun e w' => e = .returned (.agg #[.int .i64 (Sy l v), .int .i64 (Fs l v), .int .i64 (C v)]) ∧ Below w.heap.size w w' := by
  have hs0 := (sumFrom_bd l 0 hl).1
  obtain ⟨q, hq⟩ : ∃ q : Nat, max v (-v) = (q : Int) := ⟨(max v (-v)).toNat, by omega⟩
  have hw : IntKind.i64.wrap (-v) = -v := IntWalk.i64_in _ (by omega)
  have b0 : Below w.heap.size w (w.alloc (.cells #[.int .i64 0, .int .i64 0, .int .i64 0] 52)) := (Below.refl _ _).alloc (Nat.le_refl _) _
  have old : Tb (w.alloc (.cells #[.int .i64 0, .int .i64 0, .int .i64 0] 52)) w.heap.size 1 (fun _ => 0) (fun _ => 0) (fun _ => 0) := tb_new3 w
  obtain ⟨c1, c2, c3, f1, f2, f3⟩ := old.cells (j := 0) (by omega)
  simp only [Nat.zero_mul, Nat.zero_add] at c1 c2 c3 f1 f2 f3
  have hmx : (if v ≤ -v then -v else v) = (q : Int) := by split <;> omega
  by_cases hlt : q < n
  · have e : Sy l v = Sy l q ∧ Fs l v = Fs l q ∧ C v = C q := by
      by_cases h0 : v = (q : Int)
      · rw [h0]; exact ⟨rfl, rfl, rfl⟩
      · have : v = -(q : Int) := by omega
        rw [this, Sy_even, Fs_even, hC.ev]; exact ⟨rfl, rfl, rfl⟩
    obtain ⟨t1, t2, t3, -, -, -⟩ := (hT.below b0 (Nat.le_refl _)).cells (j := q) (by omega)
    have R := Lib.hid e
    obtain ⟨a, ea⟩ : ∃ a, Sy l q = a := ⟨_, rfl⟩
    obtain ⟨b, eb⟩ : ∃ b, Fs l q = b := ⟨_, rfl⟩
    obtain ⟨c, ec⟩ : ∃ c, C q = c := ⟨_, rfl⟩
    rw [ea] at t1
    rw [eb] at t2
    rw [ec] at t3
    rw [ea, eb, ec] at R
    have d : (q : Int) < (n : Int) := by omega
    have d0 : (0 : Int) ≤ q := by omega
    clear hT e old ea eb ec hn
    go_enter Try.func61, Try.ntmps61
    go_wp2_with fail
    refine bodyPost_ret (v := .agg #[.int .i64 a, .int .i64 b, .int .i64 c]) (by simp [results, Try.results61, go_sem]) rfl ⟨ret_md3 R.out.1.symm R.out.2.1.symm R.out.2.2.symm, ?_⟩
    exact (Below.refl _ _).alloc (Nat.le_refl _) _
  · have hz : Sy l v = 0 := by
      by_cases h0 : v = (q : Int)
      · exact Sy_big l v hl (by omega)
      · exact Sy_small l v hl (by omega)
    have R := Lib.hid (show 0 = Sy l v ∧ 0 = Fs l v ∧ 0 = C v from ⟨hz.symm, (Fs_zero l v hz).symm, (hC.zr v hz).symm⟩)
    have d : ¬ ((q : Int) < (n : Int)) := by omega
    have d2 : (n : Int) ≤ (q : Int) := by omega
    clear hT hz old hn
    go_enter Try.func61, Try.ntmps61
    go_wp2_with fail
    refine bodyPost_ret (v := .agg #[.int .i64 0, .int .i64 0, .int .i64 0]) (by simp [results, Try.results61, go_sem]) rfl ⟨ret_md3 R.out.1 R.out.2.1 R.out.2.2, ?_⟩
    exact (Below.refl _ _).alloc (Nat.le_refl _) _

/-- One way more: what is told already (x, y, z), and what is left behind one more (a, b, c). -/
theorem or_any (x y z a b c i : Int) (w : World) (hx0 : 0 ≤ x) (hx1 : x ≤ 1099511627776) (hy0 : 0 ≤ y) (hy1 : y ≤ 1099511627776) (ha0 : 0 ≤ a) (ha1 : a ≤ 1099511627776) (hb0 : 0 ≤ b) (hb1 : b ≤ 1099511627776)
    (hx : x = 0 → y = 0 ∧ z = 0) (ha : a = 0 → b = 0 ∧ c = 0) :
    Calls Try.prog 101 #[.agg #[.int .i64 x, .int .i64 y, .int .i64 z], .int .i64 i, .agg #[.int .i64 a, .int .i64 b, .int .i64 c]] w
      fun e w' => e = .returned (.agg #[.int .i64 (x + a), .int .i64 (orB x y a b), .int .i64 (orC x z a i)]) ∧ Below w.heap.size w w' := by
  by_cases h1 : a = 0
  · obtain ⟨rfl, rfl⟩ := ha h1
    subst h1
    refine (or_skip x y z i w).mono ?_
    rintro e w' ⟨rfl, hb⟩
    exact ⟨ret_md3 (by omega) (by simp [orB]) (by simp [orC]), hb⟩
  · by_cases h2 : x = 0
    · obtain ⟨rfl, rfl⟩ := hx h2
      subst h2
      refine (or_first a b c (by omega) ha1 hb0 hb1 i w).mono ?_
      rintro e w' ⟨rfl, hb⟩
      exact ⟨ret_md3 (by omega) (by simp [orB, h1]) (by simp [orC, h1]), hb⟩
    · refine (or_both a b c x y z (by omega) ha1 hb0 hb1 (by omega) hx1 hy0 hy1 i w).mono ?_
      rintro e w' ⟨rfl, hb⟩
      exact ⟨ret_md3 rfl (by simp [orB, h1, h2]) (by simp [orC, h1, h2]), hb⟩

end Go.Proofs.Ytcgifmoddojnmaa
