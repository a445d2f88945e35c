/-
  The text of pieces in the program. Conditions: the numbers are pieces; the library's table of powers of ten is as it was laid.
-/
import Derived.Test.YtnbbfpanidmpgaaDoorWst
import Derived.Test.YtnbbfpanidmpgaaDoorShelf
import Derived.Lib.SmallJoins
import Derived.Lib.AppendIntMem
namespace Go.Proofs.YtnbbfpanidmpgaaDoor
open Go.RowKit

/-- The library's table lies as the program's own start laid it. -/
def Ten (w : World) : Prop := Lib.TabIs Tryd.prog w "internal/strconv.uint64pow10" .u64 Lib.pow10Tab
theorem Ten.below {w w' : World} {B : Nat} (h : Ten w) (hb : Below B w w') (hB : w.heap.size ≤ B) : Ten w' :=
  Joins.var_stays (g := 5) (by kernel_rfl) h hb hB

theorem itoa_any (x : Int) (w : World) (h0 : 1 ≤ x) (h1 : x ≤ 10000) (ht : Ten w) :
    Calls Tryd.prog 20 #[.int .i64 x] w fun e w' => e = .returned (.string (bstr (dd x))) ∧ Below w.heap.size w w' := by
  refine (Tryd.strconv_Itoa x (by omega) (by omega) w ht).mono ?_
  rintro e w' ⟨rfl, k, os, rfl⟩
  refine ⟨?_, Lib.below_grow _ _ (Nat.le_refl _) _ _⟩
  have e : Lib.itoa x = dd x := by unfold Lib.itoa dd; rw [if_neg (by omega)]
  rw [e]; rfl

def strsK (xs : List Int) (k : Nat) : List ByteArray := (xs.take k).map fun x => bstr (dd x)
theorem strsK_len {xs : List Int} {k : Nat} (h : k ≤ xs.length) : (strsK xs k).length = k := by simp [strsK]; omega
theorem strsK_succ {xs : List Int} {k : Nat} {x : Int} (hk : k < xs.length) (hx : xs.getD k 0 = x) : strsK xs (k + 1) = strsK xs k ++ [bstr (dd x)] := by
  unfold strsK; rw [take_snoc hk hx, List.map_append]; rfl
theorem strsK_join (xs : List Int) (k : Nat) : Lib.join ((strsK xs k).map (·.data.toList)) [43] = txtK xs k := by
  unfold strsK txtK; rw [List.map_map]; rfl

theorem txtK_len {xs : List Int} (hg : AllTo xs 1 10000 xs.length) : ∀ k, k ≤ xs.length → (txtK xs k).length ≤ 10002 * k := by
  intro k
  induction k with
  | zero => intro _; rw [txtK_zero]; simp
  | succ k ih =>
    intro hk
    have h1 := ih (by omega)
    have h2 := dd_len (inB_iff.1 (hg k (by omega))).2
    by_cases h0 : k = 0
    · subst h0; rw [txtK_one (by omega) rfl]; omega
    · rw [txtK_succ (by omega) (by omega) rfl, List.length_append, List.length_append, List.length_singleton]; omega

theorem join_any (g cap : Nat) (xs : List Int) (w : World) (hb : g < w.heap.size) (hg : AllTo xs 1 10000 xs.length) (hl : xs.length ≤ 20) (hcap : (strsK xs xs.length).length ≤ cap)
    (hc : ∀ (j : Nat) x, (strsK xs xs.length)[j]? = some x → w.cell? ⟨g, 0 + j, none⟩ = some (.string x)) :
    Calls Tryd.prog 21 #[.slice (some ⟨g, 0, none⟩) (strsK xs xs.length).length cap, .string ⟨#[43]⟩] w fun e w' => e = .returned (.string (bstr (txtK xs xs.length))) ∧ Below w.heap.size w w' := by
  have h1 := txtK_len hg _ (Nat.le_refl _)
  have h2 := strsK_len (Nat.le_refl xs.length)
  have h3 : Lib.join ((strsK xs xs.length).map (·.data.toList)) (⟨#[43]⟩ : ByteArray).data.toList = txtK xs xs.length := strsK_join xs _
  refine (Tryd.strings_Join g 0 cap (strsK xs xs.length) ⟨#[43]⟩ w hc hb (by omega) hcap (by rw [h3]; omega)).mono ?_
  rintro e w' ⟨rfl, hw⟩
  exact ⟨by rw [h3]; rfl, hw⟩

set_option maxHeartbeats 1000000 in
set_option maxRecDepth 100000 in
theorem implText (v : Value) (xs : List Int) (w : World) (h : Sv w v xs) (hl : xs.length ≤ 20) (hp : 0 < xs.length) (hg : AllTo xs 1 10000 xs.length) (hgd : goodB xs = true) (ht : Ten w) :
    Calls Tryd.prog 12 #[v] w fun e w' => e = .returned (.tuple #[.string (bstr (txtK xs xs.length)), .bool true]) ∧ Below w.heap.size w w' := by
  have h0 := h
  obtain ⟨p, cap, rfl, hx⟩ := h
  obtain ⟨b, off, rfl, hbl, hc⟩ := hx hp
  clear hx
  have hz : (((xs.length : Nat) : Int) == 0) = false := by rw [beq_eq_false_iff_ne]; omega
  have H0 := Lib.hid h0
  have HC := Lib.hid hc
  have HT := Lib.hid ht
  clear h0 hc ht
  go_enter Tryd.func12, Tryd.ntmps12
  go_wp2_with (go_at_call 19; refine (arePieces_any _ _ _ H0.out (by omega)).mono ?_; rintro e w0 ⟨rfl, b0⟩)
  go_loopw [4, 16] (fun t i wr => ∃ (k : Nat), k ≤ xs.length ∧ i = .int .i64 k ∧ Ws wr w.heap.size t (strsK xs k) ∧ Below w.heap.size w wr) (fun _ i _ => xs.length - (intOf i).toNat)
  case atStart => exact ⟨0, Nat.zero_le _, rfl, (os_empty w0).mono b0.size, b0.alloc b0.size _⟩
  case round =>
    obtain ⟨k, hk, rfl, ho, hB⟩ := hrel
    by_cases hlt : k < xs.length
    · have hcell := HC.out k hlt
      obtain ⟨x, ex⟩ : ∃ x, xs.getD k 0 = x := ⟨_, rfl⟩
      rw [ex] at hcell
      rw [← hB.cell (p := ⟨b, off + k, none⟩) hbl] at hcell
      have hin := inB_iff.1 (hg k hlt)
      rw [ex] at hin
      obtain ⟨x0, x1⟩ := hin
      have hT := HT.out.below hB (Nat.le_refl _)
      have hS := strsK_succ hlt ex
      obtain ⟨D, eD⟩ : ∃ D, bstr (dd x) = D := ⟨_, rfl⟩
      have hN := itoa_any x wr x0 x1 hT
      rw [eD] at hN hS
      have HN := Lib.hid hN
      have HS := Lib.hid hS
      have hls := strsK_len hk
      have HL := Lib.hid hls
      clear hN hT hS ex eD hls
      go_wp2_with (first
        | (go_at_call 20; refine (HN.out).mono ?_; rintro e w1 ⟨rfl, b1⟩; have o1 := ho.below b1 (Nat.le_refl _); have B1 : Below w.heap.size w w1 := hB.trans (b1.mono hB.size); have Z1 := B1.size; clear ho hB b1)
        | (at_builtin; refine wpList_append_str rfl _ _ rfl w.heap.size _ (strsK xs k) rfl (o1.alloc _) _ D rfl (by simp) (by rw [HL.out]; omega) (by simp; omega) ?_; intro v' w3 h3 g3; have B3 : Below w.heap.size w w3 := (B1.alloc Z1 _).trans ((o1.alloc _).grown (by simp; omega) g3); clear o1 g3 B1 Z1))
      go_round
      case rel => exact ⟨k + 1, by omega, by go_num, by rw [HS.out]; exact h3, B3⟩
      case measure => simp [intOf]; omega
    · have hke : k = xs.length := by omega
      subst hke
      have hls := strsK_len hk
      obtain ⟨g, c2, rfl, gb, gc, gcell⟩ := ho.cells (by omega)
      have HJ := Lib.hid (join_any g c2 xs wr gb hg hl gc gcell)
      clear gcell gc hls
      go_wp2_with (go_at_call 21; refine (HJ.out).mono ?_; rintro e w1 ⟨rfl, b1⟩)
      go_ret2
      exact ⟨rfl, nxt hB b1⟩
end Go.Proofs.YtnbbfpanidmpgaaDoor
