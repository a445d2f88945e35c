/-
  The library's Grow (of nil) and Concat of slices of integers, by their contracts. Conditions: at most 100 slices of at most 2^20 numbers.
-/
import Derived.Test.YtdgadabfahmdmaaCatz
import Derived.Test.YtdgadabfahmdmaaLpz
namespace Go.Proofs.Ytdgadabfahmdmaa
open Go.RowKit


set_option maxHeartbeats 4000000 in
set_option maxRecDepth 100000 in
/-- slices.Grow of nil: room for n more. -/
theorem grow_nil (n : Nat) (w : World) (hn : n ≤ 1073741824) :
    Calls Try.prog 91 #[.slice none 0 0, .int .i64 n] w fun e w' => ∃ u, e = .returned u ∧ Ow w' w.heap.size u [] ∧ Below w.heap.size w w' := by
  by_cases h0 : n = 0
  · subst h0
    go_enter Try.func91, Try.ntmps91
    go_wp2
    go_ret
    exact ⟨_, rfl, World.ownsRow_nil _ _ _ _, Below.refl _ _⟩
  · obtain ⟨i0, hi, hz0, hz1, hz2⟩ := info_parts Try.infoI
    have hold : (Builtin.firstCells i0.size 0 (.slice none 0 0)).run Try.prog w.drew = .ok ([] : List Value).toArray w.drew := run_firstCells_none w.drew i0.size 0 0 0
    have hrz : ∀ ty, (Builtin.append_ #[22, 3] ty #[.slice none 0 0, .int .i64 (n : Int)]).run Try.prog w =
        .ok (.slice (some ⟨w.heap.size, 0, none⟩) n (grownCap w n 0 3)) (w.drew.alloc (.cells (([] : List Value).toArray ++ Builtin.zeroCells (Value.int .i64 0).cells n ++ Builtin.zeroCells (Value.int .i64 0).cells (grownCap w n 0 3 - n)) 3)) := fun ty => by
      have h := Lib.run_append_grow_zeros w 22 3 ty 3 i0 (.int .i64 0) .i64 .i64 Try.underlying22 Try.underlying3 hi hz0 none 0 0 [] hold n (by omega) (by omega) (by omega) (by omega)
        (by rw [hz2]; omega)
        (by rw [Nat.zero_add]; exact growslice_fits (by omega) (by rw [hz2]; omega))
      rw [Nat.zero_add] at h
      exact h
    have hGn : n ≤ grownCap w n 0 3 := grownCap_ge w _ _ _
    have hGm : grownCap w n 0 3 ≤ maxLen := grownCap_le_maxLen w n 0 3 (by unfold maxLen; omega)
    obtain ⟨G, hG⟩ : ∃ G, G = grownCap w n 0 3 := ⟨_, rfl⟩
    rw [← hG] at hrz hGn hGm
    obtain ⟨C, hC⟩ : ∃ C, C = ([] : List Value).toArray ++ Builtin.zeroCells (Value.int .i64 0).cells n ++ Builtin.zeroCells (Value.int .i64 0).cells (G - n) := ⟨_, rfl⟩
    have hCs : C.size = G * 1 := by rw [hC]; simp [Builtin.zeroCells, Value.cells]; omega
    rw [← hC] at hrz
    have ho : Ow (w.drew.alloc (.cells C 3)) w.heap.size (.slice (some ⟨w.heap.size, 0, none⟩) 0 G) [] :=
      World.ownsRow_made w.drew _ G (Nat.le_refl _) hGm hCs
    have hb : Below w.heap.size w (w.drew.alloc (.cells C 3)) := (Below.refl _ _).drew.alloc (Nat.le_refl _) _
    have hG63 : G ≤ 9223372036854775807 := by unfold maxLen at hGm; exact hGm
    clear hold hG hGm hC hCs
    go_enter Try.func91, Try.ntmps91
    go_wp2_with (at_builtin; refine Lib.wpList_append_run _ rfl _ _ _ _ rfl _ _ rfl rfl _ _ (hrz _) ?_)
    all_goals (go_ret; exact ⟨_, rfl, ho, hb⟩)


def catTo (ps : List (Value × List Int)) (k : Nat) : List Int := (ps.take k).flatMap (·.2)
theorem catTo_succ {ps : List (Value × List Int)} {k : Nat} {q : Value × List Int} (h : ps[k]? = some q) : catTo ps k ++ q.2 = catTo ps (k + 1) := by
  unfold catTo
  rw [List.take_add_one, h]
  simp
theorem catTo_len {ps : List (Value × List Int)} (h : ∀ (j : Nat) q, ps[j]? = some q → q.2.length ≤ 1048576) : ∀ k, (catTo ps k).length ≤ 1048576 * k := by
  intro k
  induction k with
  | zero => simp [catTo]
  | succ k ih =>
    by_cases hk : k < ps.length
    · obtain ⟨q, hq⟩ : ∃ q, ps[k]? = some q := ⟨_, List.getElem?_eq_getElem hk⟩
      rw [← catTo_succ hq, List.length_append]
      have := h k q hq
      omega
    · have e : catTo ps (k + 1) = catTo ps k := by unfold catTo; rw [List.take_of_length_le (by omega), List.take_of_length_le (by omega)]
      rw [e]; omega

set_option maxHeartbeats 4000000 in
set_option maxRecDepth 100000 in
theorem concat_any (b : Nat) (ps : List (Value × List Int)) (w : World) (hb : b < w.heap.size) (hm : ps.length ≤ 100)
    (hc : ∀ (j : Nat) q, ps[j]? = some q → w.cell? ⟨b, j, none⟩ = some q.1) (hs : ∀ (j : Nat) q, ps[j]? = some q → Src w q.1 q.2) (hq : ∀ (j : Nat) q, ps[j]? = some q → q.2.length ≤ 1048576) :
    Calls Try.prog 81 #[.slice (some ⟨b, 0, none⟩) ps.length ps.length] w fun e w' => ∃ u, e = .returned u ∧ Ow w' w.heap.size u (catTo ps ps.length) ∧ Below w.heap.size w w' := by
  have HC := Lib.hid hc
  have HQ := Lib.hid hq
  have HS := Lib.hid hs
  clear hc hq hs
  go_enter Try.func81, Try.ntmps81
  go_wp2
  go_loop [3, 11] (fun t i => ∃ k s : Nat, k ≤ ps.length ∧ i = .int .i64 k ∧ t = .int .i64 s ∧ s ≤ 1048576 * k) (fun _ i => ps.length - (intOf i).toNat)
  case atStart => exact ⟨0, 0, Nat.zero_le _, rfl, rfl, by omega⟩
  case round =>
    obtain ⟨k, s, hk, rfl, rfl, hsb⟩ := hrel
    by_cases hlt : k < ps.length
    · obtain ⟨q, hq⟩ : ∃ q, ps[k]? = some q := ⟨_, List.getElem?_eq_getElem hlt⟩
      obtain ⟨u, xs⟩ := q
      have hcell := HC.out k _ hq
      have hln := HQ.out k _ hq
      have hsr := HS.out k _ hq
      have HQK := Lib.hid hq
      clear hq
      simp only at hcell hln hsr
      rcases hsr with ⟨rfl, rfl⟩ | ⟨b2, off2, c2, rfl, _, _⟩
      · go_wp2
        go_round
        case rel => exact ⟨k + 1, s, by omega, by go_num, by go_num, by omega⟩
        case measure => simp [intOf]; omega
      · go_wp2
        go_round
        case rel => exact ⟨k + 1, s + xs.length, by omega, by go_num, by go_num, by omega⟩
        case measure => simp [intOf]; omega
    · go_wp2_with (go_at_call 91; refine (grow_nil s _ (by omega)).mono ?_; rintro e w1 ⟨v1, rfl, ho, hbl⟩)
      go_loopw [6, 27] (fun v i wr => ∃ k : Nat, k ≤ ps.length ∧ i = .int .i64 k ∧ Ow wr w.heap.size v (catTo ps k) ∧ Below w.heap.size w wr) (fun _ i _ => ps.length - (intOf i).toNat)
      case atStart => exact ⟨0, Nat.zero_le _, rfl, by simpa [catTo] using ho, hbl⟩
      case round =>
        obtain ⟨k, hk, rfl, ho, hbl⟩ := hrel
        by_cases hlt : k < ps.length
        · obtain ⟨q, hq⟩ : ∃ q, ps[k]? = some q := ⟨_, List.getElem?_eq_getElem hlt⟩
          obtain ⟨u, xs⟩ := q
          have hcell := (hbl.cell (p := ⟨b, k, none⟩) hb).trans (HC.out k _ hq)
          have hln := HQ.out k _ hq
          have hsr := (HS.out k _ hq).below hbl (Nat.le_refl _)
          have hcl := catTo_len HQ.out k
          have HQK := Lib.hid hq
          have hsz := hbl.size
          simp only at hcell hln hsr
          clear hq
          go_wp2_with (at_builtin; refine wpList_append_src rfl _ _ rfl w.heap.size _ _ rfl ho _ xs rfl hsr (by omega) hsz ?_; intro v' w2 h1 hg)
          have b2 := hbl.trans (ho.grown hsz hg)
          rw [catTo_succ HQK.out] at h1
          clear ho hsr hg hcell
          go_roundw
          case rel => exact ⟨k + 1, by omega, by go_num, h1, b2⟩
          case measure => simp [intOf]; omega
        · have hkm : k = ps.length := by omega
          subst hkm
          go_wp2
          go_ret
          exact ⟨_, rfl, ho, hbl⟩


theorem concat2_any (b : Nat) (v1 v2 : Value) (x1 x2 : List Int) (w : World) (hh : w.heap[b]? = some (.cells #[v1, v2] 22)) (h1 : Src w v1 x1) (h2 : Src w v2 x2)
    (l1 : x1.length ≤ 1048576) (l2 : x2.length ≤ 1048576) :
    Calls Try.prog 81 #[.slice (some ⟨b, 0, none⟩) 2 2] w fun e w' => ∃ u, e = .returned u ∧ Ow w' w.heap.size u (x1 ++ x2) ∧ Below w.heap.size w w' := by
  refine (concat_any b [(v1, x1), (v2, x2)] w (Array.getElem?_eq_some_iff.1 hh).1 (by simp) ?_ ?_ ?_).mono ?_
  · intro j q hq
    match j, hq with
    | 0, hq => simp at hq; subst hq; simp [World.cell?, hh]
    | 1, hq => simp at hq; subst hq; simp [World.cell?, hh]
  · intro j q hq
    match j, hq with
    | 0, hq => simp at hq; subst hq; exact h1
    | 1, hq => simp at hq; subst hq; exact h2
  · intro j q hq
    match j, hq with
    | 0, hq => simp at hq; subst hq; exact l1
    | 1, hq => simp at hq; subst hq; exact l2
  · rintro e w' ⟨u, he, ho, hb⟩
    exact ⟨u, he, by simpa [catTo] using ho, hb⟩


end Go.Proofs.Ytdgadabfahmdmaa
