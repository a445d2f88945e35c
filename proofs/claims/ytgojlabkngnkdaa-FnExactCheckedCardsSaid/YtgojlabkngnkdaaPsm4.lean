/-
  Slices of slices of integers: copied, found equal, marked; by their contracts. Condition: slices of at most 2^20 numbers in all.
-/
import Derived.Test.YtgojlabkngnkdaaPsl4
import Derived.Deep.Heap
namespace Go.Proofs.Ytgojlabkngnkdaa
open Go.RowKit

theorem tot_le (pl : List (List Int)) : ∀ n k, k < n → (rowL pl k).length ≤ tot pl n := by
  intro n
  induction n with
  | zero => intro k h; omega
  | succ n ih =>
    intro k h
    simp only [tot]
    by_cases e : k = n
    · subst e; omega
    · have := ih k (by omega); omega
theorem Few2.row {pl : List (List Int)} (h : Few2 pl) {k : Nat} (hk : k < pl.length) : (rowL pl k).length ≤ 1048576 := by
  have := tot_le pl _ k hk
  unfold Few2 at h
  omega

/-- The rows made so far. -/
structure Made (w : World) (g : Nat) (U : Nat → Value) (bs : Nat → Nat) (pl : List (List Int)) (k : Nat) : Prop where
  own : ∀ j, j < k → Ow w (bs j) (U j) (rowL pl j) ∧ OwnAt (U j) (bs j)
  pos : ∀ j, j < k → g < bs j ∧ bs j < w.heap.size
  inc : ∀ i j, i < j → j < k → bs i < bs j
theorem Made.zero (w : World) (g : Nat) (U : Nat → Value) (bs : Nat → Nat) (pl : List (List Int)) : Made w g U bs pl 0 := ⟨fun j h => by omega, fun j h => by omega, fun i j _ h => by omega⟩
set_option maxHeartbeats 2000000 in
set_option maxRecDepth 100000 in
theorem eqIntSS_yes (v u : Value) (pl : List (List Int)) (w : World) (hv : Svv w v pl) (hu : Svv w u pl) (hf : Few2 pl) :
    Calls Try.prog 45 #[v, u] w fun e w' => e = .returned (.bool true) ∧ Below w.heap.size w w' := by
  obtain ⟨p, cap, rfl, hx⟩ := hv
  obtain ⟨q, cap2, rfl, hy⟩ := hu
  have hn : pl.length ≤ 1048576 := by unfold Few2 at hf; omega
  have HF := Lib.hid hf
  clear hf
  go_enter Try.func45, Try.ntmps45
  go_wp2
  go_loopw [5] (fun i wr => ∃ k : Nat, k ≤ pl.length ∧ i = .int .i64 k ∧ Below w.heap.size w wr) (fun i _ => pl.length - (intOf i).toNat)
  case atStart => exact ⟨0, Nat.zero_le _, rfl, Below.refl _ _⟩
  case round =>
    obtain ⟨k, hk, rfl, hb⟩ := hrel
    by_cases hlt : k < pl.length
    · obtain ⟨b, off, rfl, hbl, hc⟩ := hx (by omega)
      obtain ⟨b2, off2, rfl, hbl2, hc2⟩ := hy (by omega)
      obtain ⟨u1, h1, s1⟩ := hc k hlt
      obtain ⟨u2, h2, s2⟩ := hc2 k hlt
      have h1 : wr.cell? ⟨b, off + k, none⟩ = some u1 := (hb.cell (p := ⟨b, off + k, none⟩) hbl).trans h1
      have h2 : wr.cell? ⟨b2, off2 + k, none⟩ = some u2 := (hb.cell (p := ⟨b2, off2 + k, none⟩) hbl2).trans h2
      have s1 := s1.below hb (by omega)
      have s2 := s2.below hb (by omega)
      have hlen := HF.out.row hlt
      have hi : (k : Int) < pl.length := by omega
      have hi0 : (0 : Int) ≤ k := by omega
      have S1 := fun d => Lib.hid (s1.below (below_drewN (Below.refl wr.heap.size wr) d) (Nat.le_refl _))
      have S2 := fun d => Lib.hid (s2.below (below_drewN (Below.refl wr.heap.size wr) d) (Nat.le_refl _))
      clear hc hc2 hx hy s1 s2
      go_wp2
      go_region_with (go_at_call 29; refine (eqIntS_yes _ _ _ _ _ (S1 _).out (S2 _).out rfl (by omega)).mono ?_; rintro e w1 ⟨rfl, b1⟩)
      all_goals
        go_wp2
        go_roundw
        case rel => exact ⟨k + 1, by omega, by go_num, nxt hb ((below_drewN (Below.refl _ _) _).trans b1)⟩
        case measure => simp [intOf]; omega
    · clear hx hy
      go_wp2
      go_ret
      exact ⟨rfl, hb⟩

end Go.Proofs.Ytgojlabkngnkdaa
