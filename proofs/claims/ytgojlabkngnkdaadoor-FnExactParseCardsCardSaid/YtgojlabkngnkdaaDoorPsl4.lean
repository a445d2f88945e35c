/-
  Slices of slices of integers: the laws' own helpers, by their contracts: copied, found equal, measured, marked. Condition: slices of at most 2^40 numbers.
-/
import Derived.Test.YtgojlabkngnkdaaDoorCat
import Derived.Deep.AppendLies
namespace Go.Proofs.YtgojlabkngnkdaaDoor
open Go.RowKit

theorem Tryd.infoR : (Tryd.prog.info? 22).map (fun i => (i.zero, i.size, i.bytes)) = some (some (.slice none 0 0), 1, 24) := by kernel_rfl

def rowL (pl : List (List Int)) (j : Nat) : List Int := pl.getD j []
/-- v is a slice of slices that read as the lists pl. -/
def Svv (w : World) (v : Value) (pl : List (List Int)) : Prop :=
  ∃ p cap, v = .slice p pl.length cap ∧ (0 < pl.length → ∃ b off, p = some ⟨b, off, none⟩ ∧ b < w.heap.size ∧ ∀ j, j < pl.length → ∃ u, w.cell? ⟨b, off + j, none⟩ = some u ∧ Sv w u (rowL pl j))
theorem Svv.below {w w' : World} {v : Value} {pl : List (List Int)} {B : Nat} (h : Svv w v pl) (hb : Below B w w') (hB : w.heap.size ≤ B) : Svv w' v pl := by
  obtain ⟨p, cap, hv, hx⟩ := h
  refine ⟨p, cap, hv, fun h0 => ?_⟩
  obtain ⟨b, off, hp, hlt, hc⟩ := hx h0
  refine ⟨b, off, hp, Nat.lt_of_lt_of_le hlt hb.size, fun j hj => ?_⟩
  obtain ⟨u, hu, hs⟩ := hc j hj
  exact ⟨u, (hb.cell (p := ⟨b, off + j, none⟩) (by show b < B; omega)).trans hu, hs.below hb hB⟩
theorem svv_nil (w : World) : Svv w (.slice none 0 0) [] := ⟨none, 0, rfl, fun h => by simp at h⟩

/-- What the call owns: a slice of slices, each in a block of its own, later ones behind earlier ones, all below D. -/
structure Row2 (w : World) (g D : Nat) (U : Nat → Value) (bs : Nat → Nat) (pl : List (List Int)) (k : Nat) : Prop where
  own : ∀ j, k ≤ j → j < pl.length → ∃ ys : List Int, ys.length = (rowL pl j).length ∧ Ow w (bs j) (U j) ys ∧ OwnAt (U j) (bs j)
  pos : ∀ j, j < pl.length → g < bs j ∧ bs j < D
  inc : ∀ i j, i < j → j < pl.length → bs i < bs j
def Oww (w : World) (B D : Nat) (v : Value) (pl : List (List Int)) : Prop :=
  ∃ (g : Nat) (U : Nat → Value) (bs : Nat → Nat), v = .slice (some ⟨g, 0, none⟩) pl.length pl.length ∧ B ≤ g ∧ w.rowIs g 55 pl.length U ∧ Row2 w g D U bs pl 0 ∧ ∀ j, j < pl.length → Ow w (bs j) (U j) (rowL pl j)
theorem Oww.svv {w : World} {B D : Nat} {v : Value} {pl : List (List Int)} (h : Oww w B D v pl) : Svv w v pl := by
  obtain ⟨g, U, bs, hv, hg, hr, h2, ho⟩ := h
  refine ⟨some ⟨g, 0, none⟩, pl.length, hv, fun h0 => ⟨g, 0, rfl, hr.lt, fun j hj => ⟨U j, ?_, (ho j hj).sv⟩⟩⟩
  rw [Nat.zero_add]
  exact hr.cell hj
theorem Oww.below {w w' : World} {B C D : Nat} {v : Value} {pl : List (List Int)} (h : Oww w B D v pl) (hb : Below C w w') (hC : w.heap.size ≤ C) : Oww w' B D v pl := by
  obtain ⟨g, U, bs, hv, hg, hr, h2, ho⟩ := h
  refine ⟨g, U, bs, hv, hg, hr.of_block (hb.block g (Nat.lt_of_lt_of_le hr.lt hC)), ⟨fun j h0 hj => ?_, h2.pos, h2.inc⟩, fun j hj => (ho j hj).below hb hC⟩
  obtain ⟨ys, e, o, a⟩ := h2.own j h0 hj
  exact ⟨ys, e, o.below hb hC, a⟩

/-- Only what lies from C on and below D was written. -/
structure Mid (C D : Nat) (w w' : World) : Prop where
  os : w'.os = w.os
  tape : w'.tape = w.tape
  output : w'.output = w.output
  size : w.heap.size ≤ w'.heap.size
  block : ∀ i, i < w.heap.size → (i < C ∨ D ≤ i) → w'.heap[i]? = w.heap[i]?
theorem Mid.refl (C D : Nat) (w : World) : Mid C D w w := ⟨rfl, rfl, rfl, Nat.le_refl _, fun _ _ _ => rfl⟩
theorem Mid.grown {C D g : Nat} {w w1 w2 : World} (h : Mid C D w w1) (k : w1.grownBy w2 (some g)) (h1 : C ≤ g) (h2 : g < D) : Mid C D w w2 :=
  ⟨k.os.trans h.os, k.tape.trans h.tape, k.output.trans h.output, Nat.le_trans h.size k.size, fun i hi hn => (k.block i (Nat.lt_of_lt_of_le hi h.size) (by simp only [ne_eq, Option.some.injEq]; omega)).trans (h.block i hi hn)⟩
theorem Mid.below {C D : Nat} {w w' : World} (h : Mid C D w w') (_hC : C ≤ w.heap.size) : Below C w w' :=
  ⟨h.os, h.tape, h.output, h.size, fun i hi => h.block i (by omega) (.inl hi)⟩
theorem Ow.mid {C D B : Nat} {w w' : World} {v : Value} {ys : List Int} (h : Ow w B v ys) (m : Mid C D w w') (hr : ∀ g, v.ownBlock = some g → g < C ∨ D ≤ g) : Ow w' B v ys := by
  obtain ⟨h1, h2⟩ := h
  refine ⟨h1, ?_⟩
  rcases h2 with h2 | ⟨g, cap, cur, hv, hg, hh, r⟩
  · exact .inl h2
  · refine .inr ⟨g, cap, cur, hv, hg, ?_, r⟩
    rw [m.block g (Array.getElem?_eq_some_iff.1 hh).1 (hr g (by rw [hv]; rfl))]; exact hh

/-- How many numbers the first k rows hold. -/
def tot (pl : List (List Int)) : Nat → Nat
  | 0 => 0
  | k + 1 => tot pl k + (rowL pl k).length

set_option maxHeartbeats 1000000 in
theorem szIntS_yes (v : Value) (xs : List Int) (l : Int) (w : World) (h : Sv w v xs) (hl : l ≤ 1048576) (h1 : (xs.length : Int) ≤ l) :
    Calls Tryd.prog 51 #[v, .int .i64 l] w fun e w' => e = .returned (.int .i64 (l - xs.length)) ∧ w = w' := by
  obtain ⟨p, cap, rfl, hc⟩ := h
  clear hc
  have d : decide (l - xs.length < 0) = false := by simp; omega
  go_enter Tryd.func51, Tryd.ntmps51
  go_wp2
  go_ret
  exact ⟨rfl, rfl⟩
set_option maxHeartbeats 1000000 in
theorem szIntS_no (v : Value) (xs : List Int) (l : Int) (w : World) (h : Sv w v xs) (hl : 0 ≤ l) (hx : xs.length ≤ 9223372036854775807) (h1 : l < (xs.length : Int)) :
    Calls Tryd.prog 51 #[v, .int .i64 l] w fun e w' => e = .returned (.int .i64 (-1)) ∧ w = w' := by
  obtain ⟨p, cap, rfl, hc⟩ := h
  clear hc
  have d : decide (l - xs.length < 0) = true := by simp; omega
  go_enter Tryd.func51, Tryd.ntmps51
  go_wp2
  go_ret
  exact ⟨rfl, rfl⟩

/-- What is small: so many rows, so many numbers. -/
def Few2 (pl : List (List Int)) : Prop := pl.length + tot pl pl.length ≤ 1048576
set_option maxHeartbeats 2000000 in
set_option maxRecDepth 20000 in
theorem szIntSS_any (v : Value) (pl : List (List Int)) (w : World) (h : Svv w v pl) (hn : pl.length ≤ 9223372036854775807) (hx : ∀ j, j < pl.length → (rowL pl j).length ≤ 9223372036854775807) :
    Calls Tryd.prog 25 #[v, .int .i64 1048576] w fun e w' => (∃ r : Int, e = .returned (.int .i64 r) ∧ (r < 0 ∨ (0 ≤ r ∧ Few2 pl))) ∧ w = w' := by
  obtain ⟨p, cap, rfl, hc⟩ := h
  by_cases h1 : pl.length ≤ 1048576
  · have d : decide ((1048576 : Int) - pl.length < 0) = false := by simp; omega
    have HX : ∀ j, j < pl.length → Hid ((rowL pl j).length ≤ 9223372036854775807) := fun j hj => Lib.hid (hx j hj)
    clear hx
    go_enter Tryd.func25, Tryd.ntmps25
    go_wp2
    go_loop [1, 5] (fun t i => ∃ (k : Nat) (l : Int), k ≤ pl.length ∧ i = .int .i64 k ∧ t = .int .i64 l ∧ 0 ≤ l ∧ (pl.length : Int) + tot pl k + l = 1048576) (fun _ i => pl.length - (intOf i).toNat)
    case atStart => exact ⟨0, 1048576 - pl.length, Nat.zero_le _, rfl, by go_num, by omega, by simp only [tot]; omega⟩
    case round =>
      obtain ⟨k, l, hk, rfl, rfl, hl0, hs⟩ := hrel
      by_cases hlt : k < pl.length
      · obtain ⟨b, off, rfl, hbl, hc2⟩ := hc (by omega)
        obtain ⟨u, hcell, hu⟩ := hc2 k hlt
        have hxk := (HX k hlt).out
        clear hc hc2
        by_cases h2 : ((rowL pl k).length : Int) ≤ l
        · have e : tot pl (k + 1) = tot pl k + (rowL pl k).length := rfl
          have E := Lib.hid e
          clear e
          have d2 : decide (l - (rowL pl k).length < 0) = false := by simp; omega
          go_wp2_with (go_at_call 51; refine (szIntS_yes _ _ _ _ hu (by omega) h2).mono ?_; rintro e w' ⟨rfl, rfl⟩)
          go_round
          case rel => exact ⟨k + 1, l - (rowL pl k).length, by omega, by go_num, by go_num, by omega, by rw [E.out]; omega⟩
          case measure => simp [intOf]; omega
        · go_wp2_with (go_at_call 51; refine (szIntS_no _ _ _ _ hu (by omega) hxk (by omega)).mono ?_; rintro e w' ⟨rfl, rfl⟩)
          go_ret
          exact ⟨⟨_, rfl, .inl (by omega)⟩, rfl⟩
      · clear hc
        go_wp2
        go_ret
        have : k = pl.length := by omega
        subst this
        exact ⟨⟨_, rfl, .inr ⟨by omega, by unfold Few2; omega⟩⟩, rfl⟩
  · have d : decide ((1048576 : Int) - pl.length < 0) = true := by simp; omega
    go_enter Tryd.func25, Tryd.ntmps25
    go_wp2
    go_ret
    exact ⟨⟨_, rfl, .inl (by omega)⟩, rfl⟩

end Go.Proofs.YtgojlabkngnkdaaDoor
