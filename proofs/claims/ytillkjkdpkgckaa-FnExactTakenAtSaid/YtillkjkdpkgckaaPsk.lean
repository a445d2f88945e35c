/-
  Slices of slices of integers of the call's own are marked; what else is the call's own stays. Condition: at most 2^20 numbers in all.
-/
import Derived.Test.YtillkjkdpkgckaaPsm
import Derived.Test.YtillkjkdpkgckaaCatp
namespace Go.Proofs.Ytillkjkdpkgckaa
open Go.RowKit

theorem Oww.kept {w w' : World} {B D r : Nat} {v : Value} {pl : List (List Int)} (h : Oww w B D v pl) (k : w.grownBy w' (some r)) (hr : r < B) : Oww w' B D v pl := by
  obtain ⟨g, U, bs, hv, hg, hrow, h2, ho⟩ := h
  have hne : ∀ j, j < pl.length → (U j).ownBlock = none ∨ (U j).ownBlock ≠ some r := fun j hj => by
    obtain ⟨ys, e, o, a⟩ := h2.own j (Nat.zero_le _) hj
    have p := h2.pos j hj
    unfold OwnAt at a
    exact .inr (by rw [a]; intro e2; simp only [Option.some.injEq] at e2; omega)
  refine ⟨g, U, bs, hv, hg, hrow.of_block (k.block g hrow.lt (by simp only [ne_eq, Option.some.injEq]; omega)), ⟨fun j h0 hj => ?_, h2.pos, h2.inc⟩, fun j hj => (ho j hj).kept k (hne j hj)⟩
  obtain ⟨ys, e, o, a⟩ := h2.own j h0 hj
  exact ⟨ys, e, o.kept k (hne j hj), a⟩

theorem Oww.le {w : World} {B D : Nat} {v : Value} {pl : List (List Int)} (h : Oww w B D v pl) : B ≤ w.heap.size := by
  obtain ⟨g, U, bs, hv, hg, hrow, _⟩ := h
  have := hrow.lt
  omega

set_option maxHeartbeats 2000000 in
set_option maxRecDepth 20000 in
theorem markIntSS_any (v : Value) (pl : List (List Int)) (B D : Nat) (k : Int) (w : World) (h : Oww w B D v pl) (hf : Few2 pl) (hk0 : 0 ≤ k) (hk1 : k ≤ 1048577) :
    Calls Try.prog 35 #[v, .int .i64 k] w fun e w' => (∃ r : Int, e = .returned (.int .i64 r) ∧ 0 ≤ r) ∧ Mid B D w w' := by
  obtain ⟨g, U, bs, rfl, hg, hrow, h2, -⟩ := h
  have hn : pl.length ≤ 1048576 := by unfold Few2 at hf; omega
  have HF := Lib.hid hf
  clear hf
  go_enter Try.func35, Try.ntmps35
  go_wp2
  go_loopw [1, 5] (fun t i wr => ∃ (j : Nat) (s : Int), j ≤ pl.length ∧ i = .int .i64 j ∧ t = .int .i64 s ∧ Hid (s = k + tot pl j) ∧ wr.rowIs g 22 pl.length U ∧ Row2 wr g D U bs pl j ∧ Mid B D w wr) (fun _ i _ => pl.length - (intOf i).toNat)
  case atStart => exact ⟨0, k, Nat.zero_le _, rfl, rfl, Lib.hid (by simp [tot]), hrow, h2, Mid.refl _ _ _⟩
  case round =>
    obtain ⟨j, s, hj, rfl, rfl, HS, hr, hr2, hm⟩ := hrel
    have htm := tot_mono pl _ _ hj
    have hs : 0 ≤ s ∧ s ≤ 1099511627776 := by
      have e := HS.out
      have := HF.out
      unfold Few2 at this
      omega
    obtain ⟨hs0, hs1⟩ := hs
    by_cases hlt : j < pl.length
    · have hcell := hr.cell hlt
      obtain ⟨ys, ey, o, a⟩ := hr2.own j (Nat.le_refl _) hlt
      have hlen := HF.out.row hlt
      rw [← ey] at hlen
      have hpos := hr2.pos j hlt
      have S : Hid (tot pl (j + 1) = tot pl j + ys.length) := Lib.hid (by rw [ey]; rfl)
      clear ey
      have MK := Lib.hid (markIntS_any _ ys _ s wr o (by omega) hs0 (by omega))
      obtain ⟨u, eu⟩ : ∃ u, U j = u := ⟨_, rfl⟩
      rw [eu] at hcell MK a
      have EU := Lib.hid eu
      have ab : u.ownBlock = some (bs j) := a
      clear eu
      go_wp2_with (go_at_call 20; refine MK.out.mono ?_; rintro e w2 ⟨rfl, -, g2⟩)
      go_roundw
      case rel =>
        rw [ab] at g2
        have hgn : g ≠ bs j := by omega
        refine ⟨j + 1, s + ys.length, by omega, by go_num, rfl, Lib.hid (by rw [HS.out, S.out]; omega), hr.of_block (g2.block g hr.lt (by simp only [ne_eq, Option.some.injEq]; exact hgn)), ⟨fun i hi hil => ?_, hr2.pos, hr2.inc⟩, hm.grown g2 (by omega) hpos.2⟩
        obtain ⟨zs, ez, oz, az⟩ := hr2.own i (by omega) hil
        have hne : bs i ≠ bs j := by have := hr2.inc j i (by omega) hil; omega
        have azb : (U i).ownBlock = some (bs i) := az
        exact ⟨zs, ez, oz.kept g2 (.inr (by rw [azb]; simp only [ne_eq, Option.some.injEq]; exact hne)), az⟩
      case measure => simp only [intOf]; omega
    · go_wp2
      go_ret
      exact ⟨⟨_, rfl, hs0⟩, hm⟩
end Go.Proofs.Ytillkjkdpkgckaa
