/-
  The library's Grow (of nil) and Concat of slices of cards, by their contracts. Conditions: at most 100 slices of at most 2^20 cards.
-/
import Derived.Test.YtpolobjlihhjbaaQc
import Derived.Lib.AppendZerosOnto
namespace Go.Proofs.Ytpolobjlihhjbaa
open Go.RowKit

set_option maxHeartbeats 4000000 in
set_option maxRecDepth 100000 in
/-- slices.Grow of nil: room for n more. -/
theorem growD_nil (n : Nat) (w : World) (hn : n ≤ 1048576) :
    Calls Try.prog 108 #[.slice none 0 0, .int .i64 n] w fun e w' => ∃ u, e = .returned u ∧ Dk w' w.heap.size u [] ∧ Below w.heap.size w w' := by
  by_cases h0 : n = 0
  · subst h0
    go_enter Try.func108, Try.ntmps108
    go_wp2
    go_ret
    exact ⟨_, rfl, Dk.nil _ _, Below.refl _ _⟩
  · obtain ⟨i0, hi, hz0, hz1, hz2⟩ := card_info
    have hold : (Builtin.firstCells i0.size 0 (.slice none 0 0)).run Try.prog w.drew = .ok ([] : List Value).toArray w.drew := run_firstCells_none w.drew i0.size 0 0 0
    obtain ⟨Z, eZ⟩ : ∃ Z, (Value.agg Try.zeroCells82).cells = Z := ⟨_, rfl⟩
    have hZs : Z.size = 128 := by rw [← eZ]; simp only [Value.cells]; exact Try.zcS
    have hrz : ∀ ty, (Builtin.append_ #[66, 3] ty #[.slice none 0 0, .int .i64 (n : Int)]).run Try.prog w =
        .ok (.slice (some ⟨w.heap.size, 0, none⟩) n (grownCap w n 0 82)) (w.drew.alloc (.cells (([] : List Value).toArray ++ Builtin.zeroCells Z n ++ Builtin.zeroCells Z (grownCap w n 0 82 - n)) 82)) := fun ty => by
      have h := Lib.run_append_grow_zeros w 66 3 ty 82 i0 (.agg Try.zeroCells82) .i64 .i64 Try.underlying66 Try.underlying3 hi hz0 none 0 0 [] hold n (by omega) (by omega) (by omega) (by omega)
        (by rw [hz2]; omega)
        (by rw [Nat.zero_add]; exact growslice_fits (by omega) (by rw [hz2]; omega))
      rw [Nat.zero_add, eZ] at h
      exact h
    have hGn : n ≤ grownCap w n 0 82 := grownCap_ge w _ _ _
    have hGm : grownCap w n 0 82 ≤ maxLen := grownCap_le_maxLen w n 0 82 (by unfold maxLen; omega)
    obtain ⟨G, hG⟩ : ∃ G, G = grownCap w n 0 82 := ⟨_, rfl⟩
    rw [← hG] at hrz hGn hGm
    obtain ⟨C, hC⟩ : ∃ C, C = ([] : List Value).toArray ++ Builtin.zeroCells Z n ++ Builtin.zeroCells Z (G - n) := ⟨_, rfl⟩
    have hCs : C.size = G * 128 := by rw [hC]; simp only [Array.size_append, List.size_toArray, size_zeroCells, hZs, List.length_nil]; omega
    rw [← hC] at hrz
    have ho : Dk (w.drew.alloc (.cells C 82)) w.heap.size (.slice (some ⟨w.heap.size, 0, none⟩) 0 G) [] :=
      World.ownsRow_made w.drew _ G (Nat.le_refl _) hGm hCs
    have hb : Below w.heap.size w (w.drew.alloc (.cells C 82)) := (Below.refl _ _).drew.alloc (Nat.le_refl _) _
    have hG63 : G ≤ 9223372036854775807 := by unfold maxLen at hGm; exact hGm
    clear hold hG hGm hC hCs eZ hZs
    go_enter Try.func108, Try.ntmps108
    go_wp2_with (at_builtin; refine Lib.wpList_append_run _ rfl _ _ _ _ rfl _ _ rfl rfl _ _ (hrz _) ?_)
    all_goals (go_ret; exact ⟨_, rfl, ho, hb⟩)

def catD (ps : List (Value × List (Int → Bool))) (k : Nat) : List (Int → Bool) := (ps.take k).flatMap (·.2)
theorem catD_succ {ps : List (Value × List (Int → Bool))} {k : Nat} {q : Value × List (Int → Bool)} (h : ps[k]? = some q) : catD ps k ++ q.2 = catD ps (k + 1) := by
  unfold catD
  rw [List.take_add_one, h]
  simp
theorem catD_len {ps : List (Value × List (Int → Bool))} (h : ∀ (j : Nat) q, ps[j]? = some q → q.2.length ≤ 1024) : ∀ k, (catD ps k).length ≤ 1024 * k := by
  intro k
  induction k with
  | zero => simp [catD]
  | succ k ih =>
    by_cases hk : k < ps.length
    · obtain ⟨q, hq⟩ : ∃ q, ps[k]? = some q := ⟨_, List.getElem?_eq_getElem hk⟩
      rw [← catD_succ hq, List.length_append]
      have := h k q hq
      omega
    · have e : catD ps (k + 1) = catD ps k := by unfold catD; rw [List.take_of_length_le (by omega), List.take_of_length_le (by omega)]
      rw [e]; omega

set_option maxHeartbeats 4000000 in
set_option maxRecDepth 100000 in
theorem concatD_any (b : Nat) (ps : List (Value × List (Int → Bool))) (w : World) (hb : b < w.heap.size) (hm : ps.length ≤ 100)
    (hc : ∀ (j : Nat) q, ps[j]? = some q → w.cell? ⟨b, j, none⟩ = some q.1) (hs : ∀ (j : Nat) q, ps[j]? = some q → Crd w q.1 q.2) (hq : ∀ (j : Nat) q, ps[j]? = some q → q.2.length ≤ 1024) :
    Calls Try.prog 105 #[.slice (some ⟨b, 0, none⟩) ps.length ps.length] w fun e w' => ∃ u, e = .returned u ∧ Dk w' w.heap.size u (catD ps ps.length) ∧ Below w.heap.size w w' := by
  have HC := Lib.hid hc
  have HQ := Lib.hid hq
  have HS := Lib.hid hs
  clear hc hq hs
  go_enter Try.func105, Try.ntmps105
  go_wp2
  go_loop [3, 11] (fun t i => ∃ k s : Nat, k ≤ ps.length ∧ i = .int .i64 k ∧ t = .int .i64 s ∧ s ≤ 1024 * k) (fun _ i => ps.length - (intOf i).toNat)
  case atStart => exact ⟨0, 0, Nat.zero_le _, rfl, rfl, by omega⟩
  case round =>
    obtain ⟨k, s, hk, rfl, rfl, hsb⟩ := hrel
    by_cases hlt : k < ps.length
    · obtain ⟨q, hq⟩ : ∃ q, ps[k]? = some q := ⟨_, List.getElem?_eq_getElem hlt⟩
      obtain ⟨u, xs⟩ := q
      have hcell := HC.out k _ hq
      have hln := HQ.out k _ hq
      have hsr := HS.out k _ hq
      have HQK := Lib.hid hq
      clear hq
      simp only at hcell hln hsr
      rcases hsr with ⟨rfl, rfl⟩ | ⟨b2, off2, c2, rfl, _, _⟩
      · go_wp2
        go_round
        case rel => exact ⟨k + 1, s, by omega, by go_num, by go_num, by omega⟩
        case measure => simp [intOf]; omega
      · go_wp2
        go_round
        case rel => exact ⟨k + 1, s + xs.length, by omega, by go_num, by go_num, by omega⟩
        case measure => simp [intOf]; omega
    · go_wp2_with (go_at_call 108; refine (growD_nil s _ (by omega)).mono ?_; rintro e w1 ⟨v1, rfl, ho, hbl⟩)
      go_loopw [6, 27] (fun v i wr => ∃ k : Nat, k ≤ ps.length ∧ i = .int .i64 k ∧ Dk wr w.heap.size v (catD ps k) ∧ Below w.heap.size w wr) (fun _ i _ => ps.length - (intOf i).toNat)
      case atStart => exact ⟨0, Nat.zero_le _, rfl, by simpa [catD] using ho, hbl⟩
      case round =>
        obtain ⟨k, hk, rfl, ho, hbl⟩ := hrel
        by_cases hlt : k < ps.length
        · obtain ⟨q, hq⟩ : ∃ q, ps[k]? = some q := ⟨_, List.getElem?_eq_getElem hlt⟩
          obtain ⟨u, xs⟩ := q
          have hcell := (hbl.cell (p := ⟨b, k, none⟩) hb).trans (HC.out k _ hq)
          have hln := HQ.out k _ hq
          have hsr := (HS.out k _ hq).below hbl (Nat.le_refl _)
          have hcl := catD_len HQ.out k
          have HQK := Lib.hid hq
          have hsz := hbl.size
          simp only at hcell hln hsr
          clear hq
          go_wp2_with (at_builtin; refine wl_append_card rfl _ _ rfl w.heap.size _ _ rfl ho _ xs rfl hsr (by omega) hsz ?_; intro v' w2 h1 hg)
          have b2 := hbl.trans (ho.grown hsz hg)
          rw [catD_succ HQK.out] at h1
          clear ho hsr hg hcell
          go_roundw
          case rel => exact ⟨k + 1, by omega, by go_num, h1, b2⟩
          case measure => simp [intOf]; omega
        · have hkm : k = ps.length := by omega
          subst hkm
          go_wp2
          go_ret
          exact ⟨_, rfl, ho, hbl⟩


end Go.Proofs.Ytpolobjlihhjbaa
