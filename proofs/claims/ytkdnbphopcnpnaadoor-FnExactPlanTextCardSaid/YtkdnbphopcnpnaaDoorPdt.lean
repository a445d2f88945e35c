/-
  The text of a day in the program, whole. Conditions: few pieces and a plan; the library's table of powers of ten is as it was laid.
-/
import Derived.Test.YtkdnbphopcnpnaaDoorPsg
import Derived.Deep.RegionHeld3
namespace Go.Proofs.YtkdnbphopcnpnaaDoor
open Go.RowKit

/-- A change in a block of the call's own. -/
def Pr (w : World) (g a b : Nat) : Prop :=
  ∃ c : Array Value, w.heap[g]? = some (.cells c 44 (0, 0)) ∧ c.size = 2 ∧ c[0]? = some (uV a) ∧ c[1]? = some (uV b)
theorem Pr.below {w w' : World} {g a b D : Nat} (h : Pr w g a b) (hb : Below D w w') (hD : w.heap.size ≤ D) : Pr w' g a b := by
  obtain ⟨c, hg, r⟩ := h
  exact ⟨c, (hb.block g (Nat.lt_of_lt_of_le (Array.getElem?_eq_some_iff.1 hg).1 hD)).trans hg, r⟩
theorem Pr.cells {w : World} {g a b : Nat} (h : Pr w g a b) : w.cell? ⟨g, 0, none⟩ = some (.int .u64 (a : Nat)) ∧ w.cell? ⟨g, 1, none⟩ = some (.int .u64 (b : Nat)) ∧ w.frozen? ⟨g, 0, none⟩ = false ∧ w.frozen? ⟨g, 1, none⟩ = false := by
  obtain ⟨c, hg, hs, h0, h1⟩ := h
  refine ⟨?_, ?_, ?_, ?_⟩ <;> simp [World.cell?, World.frozen?, hg, h0, h1, uV]
theorem run_drew {w W : World} {n : Nat} (h : Below w.heap.size w W) : Below w.heap.size w (W.drewN n) := Below.trans h (Below.mono (below_drewN (Below.refl _ _) _) h.size)
/-- What the region is told of the world: the change lies in its block, and below all is as it was. -/
theorem s_mk {w W : World} {a b : Nat} (P : Pr W w.heap.size a b) (H : Below w.heap.size w W) : W.cell? ⟨w.heap.size, 0, none⟩ = some (.int .u64 (a : Nat)) ∧ W.cell? ⟨w.heap.size, 1, none⟩ = some (.int .u64 (b : Nat)) ∧ Pr W w.heap.size a b ∧ Below w.heap.size w W :=
  ⟨P.cells.1, P.cells.2.1, P, H⟩
theorem s_next {w W w' : World} {a b : Nat} (h : W.cell? ⟨w.heap.size, 0, none⟩ = some (.int .u64 (a : Nat)) ∧ W.cell? ⟨w.heap.size, 1, none⟩ = some (.int .u64 (b : Nat)) ∧ Pr W w.heap.size a b ∧ Below w.heap.size w W) (k : Below W.heap.size W w') :
    w'.cell? ⟨w.heap.size, 0, none⟩ = some (.int .u64 (a : Nat)) ∧ w'.cell? ⟨w.heap.size, 1, none⟩ = some (.int .u64 (b : Nat)) ∧ Pr w' w.heap.size a b ∧ Below w.heap.size w w' :=
  s_mk (h.2.2.1.below k (Nat.le_refl _)) (nxt h.2.2.2 k)
theorem s_bel {w W : World} {a b : Nat} (h : W.cell? ⟨w.heap.size, 0, none⟩ = some (.int .u64 (a : Nat)) ∧ W.cell? ⟨w.heap.size, 1, none⟩ = some (.int .u64 (b : Nat)) ∧ Pr W w.heap.size a b ∧ Below w.heap.size w W) : Below w.heap.size w W := h.2.2.2
def rawS (xs x y : List Int) : List UInt8 := sgn 43 xs (onlyL y x) ++ sgn 45 xs (onlyL x y)
def dayS (xs x y : List Int) : List UInt8 := if rawS xs x y = [] then [61] else rawS xs x y
theorem dayS_nil {xs x y : List Int} (h : rawS xs x y = []) : dayS xs x y = [61] := by simp [dayS, h]
theorem dayS_some {xs x y : List Int} (h : rawS xs x y ≠ []) : dayS xs x y = rawS xs x y := by simp [dayS, h]
theorem Rs.only {lo hi : Int} : ∀ {x : List Int} (y : List Int), Rs lo hi x → Rs lo hi (onlyL x y) := by
  intro x y
  have key : ∀ (x : List Int) (lo : Int), Rs lo hi x → Rs lo hi (onlyL x y) := by
    intro x
    induction x with
    | nil => intro lo _; trivial
    | cons a t ih =>
      intro lo h
      unfold onlyL
      rw [List.filter_cons]
      split
      · exact ⟨h.1, h.2.1, ih _ h.2.2⟩
      · exact ih lo (h.2.2.mono (by have := h.1; omega) (Int.le_refl _))
  exact key x lo
theorem bstr_toList (l : List UInt8) : (bstr l).toList = l := by
  simp [bstr, ByteArray.toList_eq]

set_option maxHeartbeats 8000000 in
set_option maxRecDepth 20000 in
theorem text_any (x y : List Int) (v : Value) (xs : List Int) (w : World) (hv : Sv w v xs) (hg : Good xs) (h8 : xs.length ≤ 8) (hx : Rs 0 ((xs.length : Int) - 1) x) (hy : Rs 0 ((xs.length : Int) - 1) y) (ht : Ten w) :
    Calls Tryd.prog 18 #[.agg #[.int .u64 (maskL x : Nat), .int .u64 (maskL y : Nat)], v] w fun e w' => e = .returned (.string (bstr (dayS xs x y))) ∧ Below w.heap.size w w' := by
  have X7 : Rs 0 7 x := hx.mono (Int.le_refl _) (by omega)
  have Y7 : Rs 0 7 y := hy.mono (Int.le_refl _) (by omega)
  have L1 := mask_lt X7
  have L2 := mask_lt Y7
  have G1 := gvn_only X7 Y7
  have G2 := gvn_only Y7 X7
  have l1 := sgn_len (c := 43) hg (onlyL y x) (fun i hi => by have := (hy.only x).mem i hi; omega)
  have l2 := sgn_len (c := 45) hg (onlyL x y) (fun i hi => by have := (hx.only y).mem i hi; omega)
  have n1 := only_len y x
  have n2 := only_len x y
  have n3 := X7.len
  have n4 := Y7.len
  have SG1 : ∀ W, Below w.heap.size w W → Hid (Calls Tryd.prog 28 #[.int .u64 (gvn (maskL x) (maskL y) : Nat), .string ⟨#[43]⟩, v] W fun e w' => e = .returned (.string (bstr (sgn 43 xs (onlyL y x)))) ∧ Below W.heap.size W w') :=
    fun W hb => Lib.hid (signed_any _ 43 v xs _ W (hv.below hb (Nat.le_refl _)) hg (gvn_lt L2) G1 (hy.only x) (ht.below hb (Nat.le_refl _)))
  have SG2 : ∀ W, Below w.heap.size w W → Hid (Calls Tryd.prog 28 #[.int .u64 (gvn (maskL y) (maskL x) : Nat), .string ⟨#[45]⟩, v] W fun e w' => e = .returned (.string (bstr (sgn 45 xs (onlyL x y)))) ∧ Below W.heap.size W w') :=
    fun W hb => Lib.hid (signed_any _ 45 v xs _ W (hv.below hb (Nat.le_refl _)) hg (gvn_lt L1) G2 (hx.only y) (ht.below hb (Nat.le_refl _)))
  have hs1 : (bstr (sgn 43 xs (onlyL y x))).size ≤ 80016 := by rw [bstr_size]; omega
  have hs2 : (bstr (sgn 45 xs (onlyL x y))).size ≤ 80016 := by rw [bstr_size]; omega
  have RAW : Hid (bstr (sgn 43 xs (onlyL y x)) ++ bstr (sgn 45 xs (onlyL x y)) = bstr (rawS xs x y)) := Lib.hid (by rw [bstr_app]; rfl)
  have HDN := Lib.hid (@dayS_nil xs x y)
  have HDS := Lib.hid (@dayS_some xs x y)
  obtain ⟨a, ea⟩ : ∃ a, maskL x = a := ⟨_, rfl⟩
  obtain ⟨b, eb⟩ : ∃ b, maskL y = b := ⟨_, rfl⟩
  rw [ea, eb] at SG1 SG2
  rw [ea] at L1
  rw [eb] at L2
  rw [ea, eb]
  obtain ⟨S1, e1⟩ : ∃ S, bstr (sgn 43 xs (onlyL y x)) = S := ⟨_, rfl⟩
  obtain ⟨S2, e2⟩ : ∃ S, bstr (sgn 45 xs (onlyL x y)) = S := ⟨_, rfl⟩
  rw [e1] at SG1 hs1 RAW
  rw [e2] at SG2 hs2 RAW
  obtain ⟨g1, eg1⟩ : ∃ g, gvn a b = g := ⟨_, rfl⟩
  obtain ⟨g2, eg2⟩ : ∃ g, gvn b a = g := ⟨_, rfl⟩
  have GV := fun W => given_any a b W L1 L2
  have TK := fun W => taken_any a b W L1 L2
  rw [eg1] at SG1 GV
  rw [eg2] at SG2 TK
  have GV : ∀ W, Hid _ := fun W => Lib.hid (GV W)
  have TK : ∀ W, Hid _ := fun W => Lib.hid (TK W)
  clear hx hy X7 Y7 G1 G2 l1 l2 n1 n2 n3 n4 ea eb e1 e2 eg1 eg2 hv hg ht
  have HB : Below w.heap.size w (w.alloc (.cells #[.int .u64 a, .int .u64 b] 44)) := (Below.refl _ _).alloc (Nat.le_refl _) _
  have PB : Pr (w.alloc (.cells #[.int .u64 a, .int .u64 b] 44)) w.heap.size a b := ⟨#[.int .u64 a, .int .u64 b], heap_alloc_new w _, rfl, rfl, rfl⟩
  go_enter Tryd.func18, Tryd.ntmps18
  have hcat : ¬ 9223372036854775807 < S1.size + S2.size := by omega
  have hcat2 : ¬ S1.size + S2.size > 9223372036854775807 := by omega
  have S1' := s_mk (W := (w.alloc (.cells #[.int .u64 a, .int .u64 b] 44)).drew) (PB.below (Below.drew (Below.refl _ _)) (Nat.le_refl _)) (Below.drew HB)
  go_wp2
  go_region_held3 (fun w' => w'.cell? ⟨w.heap.size, 0, none⟩ = some (.int .u64 (a : Nat)) ∧ w'.cell? ⟨w.heap.size, 1, none⟩ = some (.int .u64 (b : Nat)) ∧ Pr w' w.heap.size a b ∧ Below w.heap.size w w') ((first | exact S1' | exact S2' | exact S3' | exact S4' | exact S5')) ((first
    | (go_at_call 27; refine ((GV _).out).mono ?_; rintro e w2 ⟨rfl, b2⟩; have S2' := s_next (w := w) (a := a) (b := b) (by assumption) b2)
    | (go_at_call 29; refine ((TK _).out).mono ?_; rintro e w4 ⟨rfl, b4⟩; have S4' := s_next (w := w) (a := a) (b := b) (by assumption) b4)
    | (go_at_call_of 28 (Value.int .u64 (g1 : Int)); refine ((SG1 _ (s_bel (a := a) (b := b) (by assumption))).out).mono ?_; rintro e w3 ⟨rfl, b3⟩; have S3' := s_next (w := w) (a := a) (b := b) (by assumption) b3)
    | (go_at_call_of 28 (Value.int .u64 (g2 : Int)); refine ((SG2 _ (s_bel (a := a) (b := b) (by assumption))).out).mono ?_; rintro e w5 ⟨rfl, b5⟩; have S5' := s_next (w := w) (a := a) (b := b) (by assumption) b5)))
  all_goals
    obtain ⟨T, eT⟩ : ∃ T, S1 ++ S2 = T := ⟨_, rfl⟩
    rw [eT] at RAW
    rw [eT]
    have hbel := S5'.2.2.2
    by_cases hraw : rawS xs x y = []
    · have hT : T.toList.isEmpty = true := by rw [RAW.out, bstr_toList, hraw]; rfl
      go_wp2
      go_ret
      exact ⟨by rw [HDN.out hraw]; rfl, hbel⟩
    · have hT : T.toList.isEmpty = false := by
        rw [RAW.out, bstr_toList]
        cases h : rawS xs x y with
        | nil => exact absurd h hraw
        | cons _ _ => rfl
      go_wp2
      go_ret
      exact ⟨by rw [HDS.out hraw, ← RAW.out]; rfl, hbel⟩
end Go.Proofs.YtkdnbphopcnpnaaDoor
