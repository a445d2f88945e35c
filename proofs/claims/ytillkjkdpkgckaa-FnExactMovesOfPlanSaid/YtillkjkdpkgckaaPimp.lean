/-
  The program's helpers on plans, by their contracts: what changes on a day, the sum of what is held, the moves of all days. Condition: slices of at most 2^20 numbers in all.
-/
import Derived.Test.YtillkjkdpkgckaaPspc
namespace Go.Proofs.Ytillkjkdpkgckaa
open Go.RowKit

/-- A change in a block of the call's own. -/
def Pr (w : World) (g a b : Nat) : Prop :=
  ∃ c : Array Value, w.heap[g]? = some (.cells c 58 (0, 0)) ∧ c.size = 2 ∧ c[0]? = some (uV a) ∧ c[1]? = some (uV b)
theorem Pr.below {w w' : World} {g a b D : Nat} (h : Pr w g a b) (hb : Below D w w') (hD : w.heap.size ≤ D) : Pr w' g a b := by
  obtain ⟨c, hg, r⟩ := h
  exact ⟨c, (hb.block g (Nat.lt_of_lt_of_le (Array.getElem?_eq_some_iff.1 hg).1 hD)).trans hg, r⟩
theorem Pr.lt {w : World} {g a b : Nat} (h : Pr w g a b) : g < w.heap.size := by
  obtain ⟨c, hg, _⟩ := h
  exact (Array.getElem?_eq_some_iff.1 hg).1
theorem Pr.cells {w : World} {g a b : Nat} (h : Pr w g a b) : w.cell? ⟨g, 0, none⟩ = some (.int .u64 (a : Nat)) ∧ w.cell? ⟨g, 1, none⟩ = some (.int .u64 (b : Nat)) ∧ w.frozen? ⟨g, 0, none⟩ = false ∧ w.frozen? ⟨g, 1, none⟩ = false := by
  obtain ⟨c, hg, hs, h0, h1⟩ := h
  refine ⟨?_, ?_, ?_, ?_⟩ <;> simp [World.cell?, World.frozen?, hg, h0, h1, uV]
theorem Pr.set {w : World} {g a b : Nat} (h : Pr w g a b) (x y : Nat) : Pr ((w.setCell ⟨g, 0, none⟩ (uV x)).setCell ⟨g, 1, none⟩ (uV y)) g x y := by
  obtain ⟨cs, hg, hs, h0, h1⟩ := h
  refine ⟨(cs.setIfInBounds 0 (uV x)).setIfInBounds 1 (uV y), ?_, by simpa using hs, ?_, ?_⟩
  · simp [World.setCell, Array.getElem?_modify, hg]
  · have : 0 < cs.size := by omega
    simp [this]
  · have : 1 < cs.size := by omega
    simp [this]
theorem pr_new (w : World) : Pr (w.alloc (.cells #[.int .u64 0, .int .u64 0] 58)) w.heap.size 0 0 :=
  ⟨#[.int .u64 0, .int .u64 0], heap_alloc_new w _, rfl, rfl, rfl⟩

set_option maxHeartbeats 2000000 in
set_option maxRecDepth 20000 in
theorem changeOnDay_no (v u : Value) (xs : List Int) (pl : List (List Int)) (a : Int) (w : World) (hv : Sv w v xs) (hu : Svv w u pl) (hl : xs.length ≤ 1099511627776) (hf : Few2 pl) (hn : dayB xs pl a = false) :
    Calls Try.prog 63 #[v, u, .int .i64 a] w fun e w' => e = .returned (.tuple #[.agg #[.int .u64 0, .int .u64 0], .bool false]) ∧ Below w.heap.size w w' := by
  have hal : Below w.heap.size w (w.alloc (.cells #[.int .u64 0, .int .u64 0] 58)) := (Below.refl _ _).alloc (Nat.le_refl _) _
  have P0 := pr_new w
  have HV := Lib.hid (hv.below hal (Nat.le_refl _))
  have HU := Lib.hid (hu.below hal (Nat.le_refl _))
  have HF := Lib.hid hf
  have h20 : pl.length ≤ 1048576 := by unfold Few2 at hf; omega
  clear hv hu hf
  by_cases hp : okP xs pl = true
  · have hin : inB a 0 ((pl.length : Int) - 1) = false := by simpa [dayB, hp] using hn
    have hq := okP_iff hp
    have hcl := chgL_len pl
    have hlt : a < 0 ∨ (pl.length : Int) ≤ a := by simp [inB] at hin; omega
    clear hn hin
    go_enter Try.func63, Try.ntmps63
    go_wp2_with fail
    refine (changesOf_yes _ _ _ _ _ HV.out HU.out HF.out hq.1 hq.2).mono ?_
    rintro e w1 ⟨c, rfl, o1, b1⟩
    obtain ⟨p1, c1, rfl, -⟩ := or_cells o1
    have P1 := P0.below b1 (Nat.le_refl _)
    have b2 := hal.trans (b1.mono hal.size)
    have zz := P1.lt
    obtain ⟨k1, k2, k3, k4⟩ := P1.cells
    have Q1 := (P1.set 0 0).cells
    obtain ⟨q1, q2, -, -⟩ := Q1
    rw [hcl]
    clear o1 hcl P0 b1 hal P1
    by_cases ha : a < 0
    · go_wp2
      refine bodyPost_ret (v := .tuple #[.agg #[.int .u64 0, .int .u64 0], .bool false]) ?_ rfl ⟨rfl, (b2.setCell (Nat.le_refl _) _).setCell (Nat.le_refl _) _⟩
      simp [uV] at q1 q2
      simp [q1, q2, results, Try.results63, go_sem]
    · have ha2 : (pl.length : Int) ≤ a := by omega
      clear hlt
      go_wp2
      refine bodyPost_ret (v := .tuple #[.agg #[.int .u64 0, .int .u64 0], .bool false]) ?_ rfl ⟨rfl, (b2.setCell (Nat.le_refl _) _).setCell (Nat.le_refl _) _⟩
      simp [uV] at q1 q2
      simp [q1, q2, results, Try.results63, go_sem]
  · have hp : okP xs pl = false := by simpa using hp
    clear hn
    go_enter Try.func63, Try.ntmps63
    go_wp2_with fail
    refine (changesOf_no _ _ _ _ _ HV.out HU.out hl HF.out hp).mono ?_
    rintro e w1 ⟨rfl, b1⟩
    have P1 := P0.below b1 (Nat.le_refl _)
    have b2 := hal.trans (b1.mono hal.size)
    have zz := P1.lt
    obtain ⟨k1, k2, k3, k4⟩ := P1.cells
    have Q1 := (P1.set 0 0).cells
    obtain ⟨q1, q2, -, -⟩ := Q1
    clear P0 b1 hal P1
    go_wp2
    refine bodyPost_ret (v := .tuple #[.agg #[.int .u64 0, .int .u64 0], .bool false]) ?_ rfl ⟨rfl, (b2.setCell (Nat.le_refl _) _).setCell (Nat.le_refl _) _⟩
    simp [uV] at q1 q2
    simp [q1, q2, results, Try.results63, go_sem]

set_option maxHeartbeats 2000000 in
set_option maxRecDepth 20000 in
theorem changeOnDay_yes (v u : Value) (xs : List Int) (pl : List (List Int)) (d : Nat) (w : World) (hv : Sv w v xs) (hu : Svv w u pl) (hf : Few2 pl) (hd : DayIs xs pl d) :
    Calls Try.prog 63 #[v, u, .int .i64 d] w fun e w' => e = .returned (.tuple #[.agg #[.int .u64 (maskL (befL pl d) : Nat), .int .u64 (maskL (nowL pl d) : Nat)], .bool true]) ∧ Below w.heap.size w w' := by
  have hal : Below w.heap.size w (w.alloc (.cells #[.int .u64 0, .int .u64 0] 58)) := (Below.refl _ _).alloc (Nat.le_refl _) _
  have P0 := pr_new w
  have HV := Lib.hid (hv.below hal (Nat.le_refl _))
  have HU := Lib.hid (hu.below hal (Nat.le_refl _))
  have HF := Lib.hid hf
  have hlt := hd.lt
  have h60 := hd.ok.1
  have hcl := chgL_len pl
  obtain ⟨x, ex⟩ : ∃ x, maskL (befL pl d) = x := ⟨_, rfl⟩
  obtain ⟨y, ey⟩ : ∃ y, maskL (nowL pl d) = y := ⟨_, rfl⟩
  have hat := cV_at _ _ _ (chgL_at hlt)
  rw [ex, ey] at hat
  simp only at hat
  rw [ex, ey]
  have HD := Lib.hid hd
  clear hv hu hf hd ex ey
  go_enter Try.func63, Try.ntmps63
  go_wp2_with fail
  refine (changesOf_yes _ _ _ _ _ HV.out HU.out HF.out HD.out.fewB HD.out.planB).mono ?_
  rintro e w1 ⟨c, rfl, o1, b1⟩
  obtain ⟨p1, c1, rfl, hcells⟩ := or_cells o1
  obtain ⟨g, rfl, hg, hcap, hc⟩ := hcells (by omega)
  have e1 : w1.cell? ⟨g, d * 2, none⟩ = some (.int .u64 (x : Nat)) := hc _ _ hat.1
  have e2 : w1.cell? ⟨g, d * 2 + 1, none⟩ = some (.int .u64 (y : Nat)) := hc _ _ hat.2
  have P1 := P0.below b1 (Nat.le_refl _)
  have b2 := hal.trans (b1.mono hal.size)
  have zz := P1.lt
  obtain ⟨k1, k2, k3, k4⟩ := P1.cells
  have Q1 := (P1.set x y).cells
  obtain ⟨q1, q2, -, -⟩ := Q1
  rw [hcl]
  have hd0 : (0 : Int) ≤ d := by omega
  have hd1 : (d : Int) < pl.length := by omega
  have hd2 : ¬ (d : Int) < 0 := by omega
  have hd3 : ¬ (pl.length : Int) ≤ d := by omega
  clear o1 hcl P0 b1 hal P1 hc hat hcells
  go_wp2
  refine bodyPost_ret (v := .tuple #[.agg #[.int .u64 (x : Nat), .int .u64 (y : Nat)], .bool true]) ?_ rfl ⟨rfl, (b2.setCell (Nat.le_refl _) _).setCell (Nat.le_refl _) _⟩
  simp [uV] at q1 q2
  simp [q1, q2, results, Try.results63, go_sem]
end Go.Proofs.Ytillkjkdpkgckaa
