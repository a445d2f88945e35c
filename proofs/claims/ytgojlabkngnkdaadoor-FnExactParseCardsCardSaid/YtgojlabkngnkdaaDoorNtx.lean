/-
  Numbers with a sign between them in the program: its numbersText, PiecesText and RulerText, by their contracts. Conditions: the library's table of powers of ten is as it was laid.
-/
import Derived.Test.YtgojlabkngnkdaaDoorWstD
import Derived.Test.YtgojlabkngnkdaaDoorShelf
import Derived.Lib.SmallJoins
import Derived.Lib.AppendIntMem
namespace Go.Proofs.YtgojlabkngnkdaaDoor
open Go.RowKit

/-- The library's table lies as the program's own start laid it. -/
def Ten (w : World) : Prop := Lib.TabIs Tryd.prog w "internal/strconv.uint64pow10" .u64 Lib.pow10Tab
theorem Ten.below {w w' : World} {B : Nat} (h : Ten w) (hb : Below B w w') (hB : w.heap.size ≤ B) : Ten w' :=
  Joins.var_stays (g := 3) (by kernel_rfl) h hb hB


/-- A number that fits int has a numeral of at most 20 signs. -/
theorem itoa_len {x : Int} (h0 : -9223372036854775808 ≤ x) (h1 : x ≤ 9223372036854775807) : (Lib.itoa x).length ≤ 20 := by
  unfold Lib.itoa
  split
  · have := digits_len 18 x.natAbs (by have : (10 : Nat) ^ (18 + 1) = 10000000000000000000 := by decide
                                       omega)
    simp only [List.length_cons]; omega
  · have := digits_len 18 x.toNat (by have : (10 : Nat) ^ (18 + 1) = 10000000000000000000 := by decide
                                      omega)
    omega
/-- The text of numbers with a sign between them. -/
def itG (b : UInt8) (xs : List Int) : List UInt8 := Lib.join (xs.map Lib.itoa) [b]
theorem joinTail_len (b : UInt8) : ∀ ls : List (List UInt8), (∀ l ∈ ls, l.length ≤ 20) → (Lib.joinTail [b] ls).length ≤ 21 * ls.length := by
  intro ls
  induction ls with
  | nil => intro _; simp [Lib.joinTail]
  | cons a t ih =>
    intro h
    rw [joinTail_cons, List.length_append, List.length_append, List.length_singleton, List.length_cons]
    have h1 := h a (by simp)
    have h2 := ih fun l hl => h l (by simp [hl])
    omega
theorem itG_len (b : UInt8) {xs : List Int} (h : ∀ x ∈ xs, -9223372036854775808 ≤ x ∧ x ≤ 9223372036854775807) : (itG b xs).length ≤ 21 * xs.length := by
  unfold itG
  cases xs with
  | nil => simp [Lib.join_nil]
  | cons a t =>
    rw [List.map_cons, Lib.join_cons, List.length_append, List.length_cons]
    have h1 := itoa_len (h a (by simp)).1 (h a (by simp)).2
    have h2 := joinTail_len b (t.map Lib.itoa) fun l hl => by
      obtain ⟨x, hx, rfl⟩ := List.mem_map.1 hl
      have := h x (by simp [hx])
      exact itoa_len this.1 this.2
    rw [List.length_map] at h2
    omega
def strsG (xs : List Int) (k : Nat) : List ByteArray := (xs.take k).map fun x => bstr (Lib.itoa x)
theorem strsG_len {xs : List Int} {k : Nat} (h : k ≤ xs.length) : (strsG xs k).length = k := by simp [strsG]; omega
theorem strsG_succ {xs : List Int} {k : Nat} {x : Int} (hk : k < xs.length) (hx : xs.getD k 0 = x) : strsG xs (k + 1) = strsG xs k ++ [bstr (Lib.itoa x)] := by
  unfold strsG; rw [take_snoc hk hx, List.map_append]; rfl
theorem itoaG_any (x : Int) (w : World) (h0 : -9223372036854775808 ≤ x) (h1 : x ≤ 9223372036854775807) (ht : Ten w) :
    Calls Tryd.prog 31 #[.int .i64 x] w fun e w' => e = .returned (.string (bstr (Lib.itoa x))) ∧ Below w.heap.size w w' := by
  refine (Tryd.strconv_Itoa x h0 h1 w ht).mono ?_
  rintro e w' ⟨rfl, k, os, rfl⟩
  exact ⟨rfl, Lib.below_grow _ _ (Nat.le_refl _) _ _⟩
theorem joinG_any (b : UInt8) (g cap : Nat) (xs : List Int) (w : World) (hb : g < w.heap.size) (hr : ∀ x ∈ xs, -9223372036854775808 ≤ x ∧ x ≤ 9223372036854775807) (hl : xs.length ≤ 2097152) (hcap : (strsG xs xs.length).length ≤ cap)
    (hc : ∀ (j : Nat) x, (strsG xs xs.length)[j]? = some x → w.cell? ⟨g, 0 + j, none⟩ = some (.string x)) :
    Calls Tryd.prog 32 #[.slice (some ⟨g, 0, none⟩) (strsG xs xs.length).length cap, .string ⟨#[b]⟩] w fun e w' => e = .returned (.string (bstr (itG b xs))) ∧ Below w.heap.size w w' := by
  have h1 := itG_len b hr
  have h2 := strsG_len (Nat.le_refl xs.length)
  have h3 : Lib.join ((strsG xs xs.length).map (·.data.toList)) (⟨#[b]⟩ : ByteArray).data.toList = itG b xs := by
    unfold strsG itG; rw [List.take_length, List.map_map]; rfl
  refine (Tryd.strings_Join g 0 cap (strsG xs xs.length) ⟨#[b]⟩ w hc hb (by omega) hcap (by rw [h3]; omega)).mono ?_
  rintro e w' ⟨rfl, hw⟩
  exact ⟨by rw [h3]; rfl, hw⟩

set_option maxHeartbeats 1000000 in
set_option maxRecDepth 100000 in
theorem numbersText_any (b : UInt8) (v : Value) (xs : List Int) (w : World) (h : Sv w v xs) (hp : 0 < xs.length) (hl : xs.length ≤ 2097152) (hr : ∀ x ∈ xs, -9223372036854775808 ≤ x ∧ x ≤ 9223372036854775807) (ht : Ten w) :
    Calls Tryd.prog 30 #[v, .string ⟨#[b]⟩] w fun e w' => e = .returned (.string (bstr (itG b xs))) ∧ Below w.heap.size w w' := by
  obtain ⟨p, cap, rfl, hx⟩ := h
  obtain ⟨bl, off, rfl, hbl, hc⟩ := hx hp
  clear hx
  have HC := Lib.hid hc
  have HT := Lib.hid ht
  have HR := Lib.hid hr
  clear hc ht hr
  have hb0 : Below w.heap.size w (w.alloc (.cells #[] 9)) := (Below.refl _ _).alloc (Nat.le_refl _) _
  have ho0 := os_empty w
  go_enter Tryd.func30, Tryd.ntmps30
  go_wp2
  go_loopw [5, 11] (fun t i wr => ∃ (k : Nat), k ≤ xs.length ∧ i = .int .i64 k ∧ Ws wr w.heap.size t (strsG xs k) ∧ Below w.heap.size w wr) (fun _ i _ => xs.length - (intOf i).toNat)
  case atStart => exact ⟨0, Nat.zero_le _, rfl, ho0, hb0⟩
  case round =>
    clear ho0 hb0
    obtain ⟨k, hk, rfl, ho, hB⟩ := hrel
    by_cases hlt : k < xs.length
    · have hcell := HC.out k hlt
      have hm : xs.getD k 0 ∈ xs := by rw [List.getD_eq_getElem?_getD, List.getElem?_eq_getElem hlt]; exact List.getElem_mem hlt
      have hin := HR.out _ hm
      obtain ⟨x, ex⟩ : ∃ x, xs.getD k 0 = x := ⟨_, rfl⟩
      rw [ex] at hcell hin
      rw [← hB.cell (p := ⟨bl, off + k, none⟩) hbl] at hcell
      have hT := HT.out.below hB (Nat.le_refl _)
      have hS := strsG_succ hlt ex
      obtain ⟨D, eD⟩ : ∃ D, bstr (Lib.itoa x) = D := ⟨_, rfl⟩
      have hN := itoaG_any x wr hin.1 hin.2 hT
      rw [eD] at hN hS
      have HN := Lib.hid hN
      have HS := Lib.hid hS
      have hls := strsG_len hk
      have HL := Lib.hid hls
      clear hN hT hS ex eD hls hin hm
      go_wp2_with (first
        | (go_at_call 31; refine (HN.out).mono ?_; rintro e w1 ⟨rfl, b1⟩; have o1 := ho.below b1 (Nat.le_refl _); have B1 : Below w.heap.size w w1 := hB.trans (b1.mono hB.size); have Z1 := B1.size; clear ho hB b1)
        | (at_builtin; refine wpList_append_str rfl _ _ rfl w.heap.size _ (strsG xs k) rfl (o1.alloc _) _ D rfl (by simp) (by rw [HL.out]; omega) (by simp; omega) ?_; intro v' w3 h3 g3; have B3 : Below w.heap.size w w3 := (B1.alloc Z1 _).trans ((o1.alloc _).grown (by simp; omega) g3); clear o1 g3 B1 Z1))
      go_roundw
      case rel => exact ⟨k + 1, by omega, by go_num, by rw [HS.out]; exact h3, B3⟩
      case measure => simp [intOf]; omega
    · have hke : k = xs.length := by omega
      subst hke
      have hls := strsG_len hk
      obtain ⟨g, c2, rfl, gb, gc, gcell⟩ := ho.cells (by omega)
      have HJ := Lib.hid (joinG_any b g c2 xs wr gb HR.out hl gc gcell)
      clear gcell gc hls
      go_wp2_with (go_at_call 32; refine (HJ.out).mono ?_; rintro e w1 ⟨rfl, b1⟩)
      go_ret
      exact ⟨rfl, nxt hB b1⟩
end Go.Proofs.YtgojlabkngnkdaaDoor
