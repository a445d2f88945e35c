/-
  The library's Concat of slices of integers and its BinarySearch in sorted integers, by their contracts. Conditions: at most 100 slices of at most 2^20 numbers; sorted numbers.
-/
import Derived.Test.YtkadmopnfmbedaaCat
import Derived.Test.YtkadmopnfmbedaaNumc
namespace Go.Proofs.Ytkadmopnfmbedaa
open Go.RowKit

def catTo (ps : List (Value × List Int)) (k : Nat) : List Int := (ps.take k).flatMap (·.2)
theorem catTo_succ {ps : List (Value × List Int)} {k : Nat} {q : Value × List Int} (h : ps[k]? = some q) : catTo ps k ++ q.2 = catTo ps (k + 1) := by
  unfold catTo
  rw [List.take_add_one, h]
  simp
theorem catTo_len {ps : List (Value × List Int)} (h : ∀ (j : Nat) q, ps[j]? = some q → q.2.length ≤ 1048576) : ∀ k, (catTo ps k).length ≤ 1048576 * k := by
  intro k
  induction k with
  | zero => simp [catTo]
  | succ k ih =>
    by_cases hk : k < ps.length
    · obtain ⟨q, hq⟩ : ∃ q, ps[k]? = some q := ⟨_, List.getElem?_eq_getElem hk⟩
      rw [← catTo_succ hq, List.length_append]
      have := h k q hq
      omega
    · have e : catTo ps (k + 1) = catTo ps k := by unfold catTo; rw [List.take_of_length_le (by omega), List.take_of_length_le (by omega)]
      rw [e]; omega

set_option maxHeartbeats 4000000 in
set_option maxRecDepth 100000 in
theorem concat_any (b : Nat) (ps : List (Value × List Int)) (w : World) (hb : b < w.heap.size) (hm : ps.length ≤ 100)
    (hc : ∀ (j : Nat) q, ps[j]? = some q → w.cell? ⟨b, j, none⟩ = some q.1) (hs : ∀ (j : Nat) q, ps[j]? = some q → Src w q.1 q.2) (hq : ∀ (j : Nat) q, ps[j]? = some q → q.2.length ≤ 1048576) :
    Calls Try.prog 38 #[.slice (some ⟨b, 0, none⟩) ps.length ps.length] w fun e w' => ∃ u, e = .returned u ∧ Ow w' w.heap.size u (catTo ps ps.length) ∧ Below w.heap.size w w' := by
  have HC := Lib.hid hc
  have HQ := Lib.hid hq
  have HS := Lib.hid hs
  clear hc hq hs
  go_enter Try.func38, Try.ntmps38
  go_wp2
  go_loop [3, 11] (fun t i => ∃ k s : Nat, k ≤ ps.length ∧ i = .int .i64 k ∧ t = .int .i64 s ∧ s ≤ 1048576 * k) (fun _ i => ps.length - (intOf i).toNat)
  case atStart => exact ⟨0, 0, Nat.zero_le _, rfl, rfl, by omega⟩
  case round =>
    obtain ⟨k, s, hk, rfl, rfl, hsb⟩ := hrel
    by_cases hlt : k < ps.length
    · obtain ⟨q, hq⟩ : ∃ q, ps[k]? = some q := ⟨_, List.getElem?_eq_getElem hlt⟩
      obtain ⟨u, xs⟩ := q
      have hcell := HC.out k _ hq
      have hln := HQ.out k _ hq
      have hsr := HS.out k _ hq
      have HQK := Lib.hid hq
      clear hq
      simp only at hcell hln hsr
      rcases hsr with ⟨rfl, rfl⟩ | ⟨b2, off2, c2, rfl, _, _⟩
      · go_wp2
        go_round
        case rel => exact ⟨k + 1, s, by omega, by go_num, by go_num, by omega⟩
        case measure => simp [intOf]; omega
      · go_wp2
        go_round
        case rel => exact ⟨k + 1, s + xs.length, by omega, by go_num, by go_num, by omega⟩
        case measure => simp [intOf]; omega
    · go_wp2_with (go_at_call 59; refine (grow_nil s _ (by omega)).mono ?_; rintro e w1 ⟨v1, rfl, ho, hbl⟩)
      go_loopw [6, 27] (fun v i wr => ∃ k : Nat, k ≤ ps.length ∧ i = .int .i64 k ∧ Ow wr w.heap.size v (catTo ps k) ∧ Below w.heap.size w wr) (fun _ i _ => ps.length - (intOf i).toNat)
      case atStart => exact ⟨0, Nat.zero_le _, rfl, by simpa [catTo] using ho, hbl⟩
      case round =>
        obtain ⟨k, hk, rfl, ho, hbl⟩ := hrel
        by_cases hlt : k < ps.length
        · obtain ⟨q, hq⟩ : ∃ q, ps[k]? = some q := ⟨_, List.getElem?_eq_getElem hlt⟩
          obtain ⟨u, xs⟩ := q
          have hcell := (hbl.cell (p := ⟨b, k, none⟩) hb).trans (HC.out k _ hq)
          have hln := HQ.out k _ hq
          have hsr := (HS.out k _ hq).below hbl (Nat.le_refl _)
          have hcl := catTo_len HQ.out k
          have HQK := Lib.hid hq
          have hsz := hbl.size
          simp only at hcell hln hsr
          clear hq
          go_wp2_with (at_builtin; refine wpList_append_src rfl _ _ rfl w.heap.size _ _ rfl ho _ xs rfl hsr (by omega) hsz ?_; intro v' w2 h1 hg)
          have b2 := hbl.trans (ho.grown hsz hg)
          rw [catTo_succ HQK.out] at h1
          clear ho hsr hg hcell
          go_roundw
          case rel => exact ⟨k + 1, by omega, by go_num, h1, b2⟩
          case measure => simp [intOf]; omega
        · have hkm : k = ps.length := by omega
          subst hkm
          go_wp2
          go_ret
          exact ⟨_, rfl, ho, hbl⟩

theorem Good.mono {xs : List Int} (h : Good xs) : ∀ (d i : Nat), i + d < xs.length → xs.getD i 0 ≤ xs.getD (i + d) 0 := by
  intro d
  induction d with
  | zero => intro i _; exact Int.le_refl _
  | succ d ih => intro i hi; exact Int.le_trans (ih i (by omega)) (h.2.2 (i + d) (by omega))
theorem Good.le {xs : List Int} (h : Good xs) {i j : Nat} (hij : i ≤ j) (hj : j < xs.length) : xs.getD i 0 ≤ xs.getD j 0 := by
  have := h.mono (j - i) i (by omega)
  rwa [show i + (j - i) = j by omega] at this

end Go.Proofs.Ytkadmopnfmbedaa
