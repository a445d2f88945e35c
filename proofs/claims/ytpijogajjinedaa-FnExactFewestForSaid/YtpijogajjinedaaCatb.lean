/-
  The library's Concat of slices of integers and its BinarySearch in sorted integers, by their contracts. Conditions: at most 100 slices of at most 2^20 numbers; sorted numbers.
-/
import Derived.Test.YtpijogajjinedaaCat
import Derived.Test.YtpijogajjinedaaNum
namespace Go.Proofs.Ytpijogajjinedaa
open Go.RowKit

theorem ret_nb {k : IntKind} {a b : Int} {c d : Bool} (h : a = b) (g : c = d) : Ending.returned (.tuple #[.int k a, .bool c]) = .returned (.tuple #[.int k b, .bool d]) := by rw [h, g]

def catTo (ps : List (Value × List Int)) (k : Nat) : List Int := (ps.take k).flatMap (·.2)
theorem catTo_succ {ps : List (Value × List Int)} {k : Nat} {q : Value × List Int} (h : ps[k]? = some q) : catTo ps k ++ q.2 = catTo ps (k + 1) := by
  unfold catTo
  rw [List.take_add_one, h]
  simp
theorem catTo_len {ps : List (Value × List Int)} (h : ∀ (j : Nat) q, ps[j]? = some q → q.2.length ≤ 1048576) : ∀ k, (catTo ps k).length ≤ 1048576 * k := by
  intro k
  induction k with
  | zero => simp [catTo]
  | succ k ih =>
    by_cases hk : k < ps.length
    · obtain ⟨q, hq⟩ : ∃ q, ps[k]? = some q := ⟨_, List.getElem?_eq_getElem hk⟩
      rw [← catTo_succ hq, List.length_append]
      have := h k q hq
      omega
    · have e : catTo ps (k + 1) = catTo ps k := by unfold catTo; rw [List.take_of_length_le (by omega), List.take_of_length_le (by omega)]
      rw [e]; omega

set_option maxHeartbeats 4000000 in
set_option maxRecDepth 100000 in
theorem concat_any (b : Nat) (ps : List (Value × List Int)) (w : World) (hb : b < w.heap.size) (hm : ps.length ≤ 100)
    (hc : ∀ (j : Nat) q, ps[j]? = some q → w.cell? ⟨b, j, none⟩ = some q.1) (hs : ∀ (j : Nat) q, ps[j]? = some q → Src w q.1 q.2) (hq : ∀ (j : Nat) q, ps[j]? = some q → q.2.length ≤ 1048576) :
    Calls Try.prog 77 #[.slice (some ⟨b, 0, none⟩) ps.length ps.length] w fun e w' => ∃ u, e = .returned u ∧ Ow w' w.heap.size u (catTo ps ps.length) ∧ Below w.heap.size w w' := by
  have HC := Lib.hid hc
  have HQ := Lib.hid hq
  have HS := Lib.hid hs
  clear hc hq hs
  go_enter Try.func77, Try.ntmps77
  go_wp2
  go_loop [3, 11] (fun t i => ∃ k s : Nat, k ≤ ps.length ∧ i = .int .i64 k ∧ t = .int .i64 s ∧ s ≤ 1048576 * k) (fun _ i => ps.length - (intOf i).toNat)
  case atStart => exact ⟨0, 0, Nat.zero_le _, rfl, rfl, by omega⟩
  case round =>
    obtain ⟨k, s, hk, rfl, rfl, hsb⟩ := hrel
    by_cases hlt : k < ps.length
    · obtain ⟨q, hq⟩ : ∃ q, ps[k]? = some q := ⟨_, List.getElem?_eq_getElem hlt⟩
      obtain ⟨u, xs⟩ := q
      have hcell := HC.out k _ hq
      have hln := HQ.out k _ hq
      have hsr := HS.out k _ hq
      have HQK := Lib.hid hq
      clear hq
      simp only at hcell hln hsr
      rcases hsr with ⟨rfl, rfl⟩ | ⟨b2, off2, c2, rfl, _, _⟩
      · go_wp2
        go_round
        case rel => exact ⟨k + 1, s, by omega, by go_num, by go_num, by omega⟩
        case measure => simp [intOf]; omega
      · go_wp2
        go_round
        case rel => exact ⟨k + 1, s + xs.length, by omega, by go_num, by go_num, by omega⟩
        case measure => simp [intOf]; omega
    · go_wp2_with (go_at_call 88; refine (grow_nil s _ (by omega)).mono ?_; rintro e w1 ⟨v1, rfl, ho, hbl⟩)
      go_loopw [6, 27] (fun v i wr => ∃ k : Nat, k ≤ ps.length ∧ i = .int .i64 k ∧ Ow wr w.heap.size v (catTo ps k) ∧ Below w.heap.size w wr) (fun _ i _ => ps.length - (intOf i).toNat)
      case atStart => exact ⟨0, Nat.zero_le _, rfl, by simpa [catTo] using ho, hbl⟩
      case round =>
        obtain ⟨k, hk, rfl, ho, hbl⟩ := hrel
        by_cases hlt : k < ps.length
        · obtain ⟨q, hq⟩ : ∃ q, ps[k]? = some q := ⟨_, List.getElem?_eq_getElem hlt⟩
          obtain ⟨u, xs⟩ := q
          have hcell := (hbl.cell (p := ⟨b, k, none⟩) hb).trans (HC.out k _ hq)
          have hln := HQ.out k _ hq
          have hsr := (HS.out k _ hq).below hbl (Nat.le_refl _)
          have hcl := catTo_len HQ.out k
          have HQK := Lib.hid hq
          have hsz := hbl.size
          simp only at hcell hln hsr
          clear hq
          go_wp2_with (at_builtin; refine wpList_append_src rfl _ _ rfl w.heap.size _ _ rfl ho _ xs rfl hsr (by omega) hsz ?_; intro v' w2 h1 hg)
          have b2 := hbl.trans (ho.grown hsz hg)
          rw [catTo_succ HQK.out] at h1
          clear ho hsr hg hcell
          go_roundw
          case rel => exact ⟨k + 1, by omega, by go_num, h1, b2⟩
          case measure => simp [intOf]; omega
        · have hkm : k = ps.length := by omega
          subst hkm
          go_wp2
          go_ret
          exact ⟨_, rfl, ho, hbl⟩

/-- Where n would come in: all before are less, all from there on are not. -/
structure LB (xs : List Int) (n : Int) (k : Nat) : Prop where
  le : k ≤ xs.length
  lo : ∀ j, j < k → xs.getD j 0 < n
  hi : ∀ j, k ≤ j → j < xs.length → n ≤ xs.getD j 0
def LoTo (xs : List Int) (n : Int) (k : Nat) : Prop := ∀ j, j < k → xs.getD j 0 < n
def HiFrom (xs : List Int) (n : Int) (k : Nat) : Prop := ∀ j, k ≤ j → j < xs.length → n ≤ xs.getD j 0
def foundB (xs : List Int) (n : Int) (k : Nat) : Bool := decide (k < xs.length ∧ xs.getD k 0 = n)
theorem Good.mono {xs : List Int} (h : Good xs) : ∀ (d i : Nat), i + d < xs.length → xs.getD i 0 ≤ xs.getD (i + d) 0 := by
  intro d
  induction d with
  | zero => intro i _; exact Int.le_refl _
  | succ d ih => intro i hi; exact Int.le_trans (ih i (by omega)) (h.2.2 (i + d) (by omega))
theorem Good.le {xs : List Int} (h : Good xs) {i j : Nat} (hij : i ≤ j) (hj : j < xs.length) : xs.getD i 0 ≤ xs.getD j 0 := by
  have := h.mono (j - i) i (by omega)
  rwa [show i + (j - i) = j by omega] at this
theorem LoTo.step {xs : List Int} {n x : Int} {m : Nat} (hg : Good xs) (hm : m < xs.length) (hx : xs.getD m 0 = x) (h : x < n) : LoTo xs n (m + 1) := by
  intro j hj
  have := hg.le (show j ≤ m by omega) hm
  omega
theorem HiFrom.step {xs : List Int} {n x : Int} {m : Nat} (hg : Good xs) (hx : xs.getD m 0 = x) (h : ¬ x < n) : HiFrom xs n m := by
  intro j hj hl
  have := hg.le hj hl
  omega

set_option maxHeartbeats 4000000 in
theorem search_any (v : Value) (xs : List Int) (n : Int) (w : World) (h : Sv w v xs) (hg : Good xs) :
    Calls Try.prog 76 #[v, .int .i64 n] w fun e w' => ∃ k : Nat, e = .returned (.tuple #[.int .i64 k, .bool (foundB xs n k)]) ∧ LB xs n k ∧ w = w' := by
  have hl := hg.len
  obtain ⟨p, cap, rfl, hx⟩ := h
  go_enter Try.func76, Try.ntmps76
  go_wp2
  go_loop [7, 8] (fun a b => ∃ i j : Nat, i ≤ j ∧ j ≤ xs.length ∧ a = .int .i64 i ∧ b = .int .i64 j ∧ LoTo xs n i ∧ HiFrom xs n j) (fun a b => (intOf b).toNat - (intOf a).toNat)
  case atStart => exact ⟨0, xs.length, by omega, by omega, rfl, rfl, fun j hj => by omega, fun j hj hl => by omega⟩
  case round =>
    obtain ⟨i, j, hij, hj, rfl, rfl, hlo, hhi⟩ := hrel
    by_cases hlt : i < j
    · obtain ⟨b, off, rfl, hbl, hc⟩ := hx (by omega)
      have hcell := hc ((i + j) / 2) (by omega)
      obtain ⟨x, ex⟩ : ∃ x, xs.getD ((i + j) / 2) 0 = x := ⟨_, rfl⟩
      rw [ex] at hcell
      have EX := Lib.hid ex
      clear hc hx ex
      by_cases hxn : x < n
      · have hd : decide (x < n) = true := by simpa using hxn
        go_wp2_with (go_at_call 83; refine (less_any _ _ _).mono ?_; rintro e w' ⟨rfl, rfl⟩)
        go_round
        case rel => exact ⟨(i + j) / 2 + 1, j, by omega, hj, by go_num, rfl, LoTo.step hg (by omega) EX.out hxn, hhi⟩
        case measure => simp only [intOf]; omega
      · have hd : decide (x < n) = false := by simpa using hxn
        go_wp2_with (go_at_call 83; refine (less_any _ _ _).mono ?_; rintro e w' ⟨rfl, rfl⟩)
        go_round
        case rel => exact ⟨i, (i + j) / 2, by omega, by omega, rfl, by go_num, hlo, HiFrom.step hg EX.out (by omega)⟩
        case measure => simp only [intOf]; omega
    · obtain rfl : i = j := by omega
      by_cases hend : i < xs.length
      · obtain ⟨b, off, rfl, hbl, hc⟩ := hx (by omega)
        have hcell := hc i hend
        obtain ⟨x, ex⟩ : ∃ x, xs.getD i 0 = x := ⟨_, rfl⟩
        rw [ex] at hcell
        have EX := Lib.hid ex
        have d1 : decide ((i : Int) < (xs.length : Int)) = true := by simp; omega
        clear hc hx ex
        by_cases hxn : x = n
        · have d2 : (x == n) = true := by simpa using hxn
          have FB := Lib.hid (show foundB xs n i = true by simp only [foundB, decide_eq_true_eq]; exact ⟨hend, by rw [EX.out]; exact hxn⟩)
          clear hxn
          go_wp2
          go_ret2
          exact ⟨i, ret_nb rfl FB.out.symm, ⟨hj, hlo, hhi⟩, rfl⟩
        · have d2 : (x == n) = false := by simpa using hxn
          have FB := Lib.hid (show foundB xs n i = false by simp only [foundB, decide_eq_false_iff_not]; exact fun h => hxn (by rw [← EX.out]; exact h.2))
          clear hxn
          go_wp2
          go_ret2
          exact ⟨i, ret_nb rfl FB.out.symm, ⟨hj, hlo, hhi⟩, rfl⟩
      · have d1 : decide ((i : Int) < (xs.length : Int)) = false := by simp; omega
        have FB := Lib.hid (show foundB xs n i = false by simp only [foundB, decide_eq_false_iff_not]; exact fun h => hend h.1)
        clear hx
        go_wp2
        go_ret2
        exact ⟨i, ret_nb rfl FB.out.symm, ⟨hj, hlo, hhi⟩, rfl⟩

end Go.Proofs.Ytpijogajjinedaa
