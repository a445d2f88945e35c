/-
  The text of pieces in the model, by its contract. Condition: the numbers are pieces.
-/
import Derived.Test.YtaihgdecoaajoaaDoorTxt
import Derived.Lib.Join
namespace Go.Proofs.YtaihgdecoaajoaaDoor
open Go.RowKit

def dd (x : Int) : List UInt8 := Lib.decDigits x.toNat
/-- The text of the first k numbers. -/
def txtK (xs : List Int) (k : Nat) : List UInt8 := Lib.join ((xs.take k).map dd) [43]
def txtP (xs : List Int) : List UInt8 := if xs.length = 0 then [48] else txtK xs xs.length
theorem txtK_zero (xs : List Int) : txtK xs 0 = [] := by simp [txtK, Lib.join_nil]
theorem take_snoc {xs : List Int} {k : Nat} {x : Int} (hk : k < xs.length) (hx : xs.getD k 0 = x) : xs.take (k + 1) = xs.take k ++ [x] := by
  rw [List.take_add_one, List.getElem?_eq_getElem hk]
  rw [List.getD_eq_getElem?_getD, List.getElem?_eq_getElem hk] at hx
  simp only [Option.getD_some] at hx
  rw [hx]
  rfl
theorem join_snoc (ls : List (List UInt8)) (x sep : List UInt8) (h : ls ≠ []) : Lib.join (ls ++ [x]) sep = Lib.join ls sep ++ sep ++ x := by
  cases ls with
  | nil => exact absurd rfl h
  | cons a t => rw [List.cons_append, Lib.join_cons, Lib.join_cons]; simp [Lib.joinTail]
theorem txtK_one {xs : List Int} {x : Int} (hk : 0 < xs.length) (hx : xs.getD 0 0 = x) : txtK xs 1 = dd x := by
  unfold txtK
  rw [take_snoc hk hx]
  simp [Lib.join_one]
theorem txtK_succ {xs : List Int} {k : Nat} {x : Int} (h0 : 0 < k) (hk : k < xs.length) (hx : xs.getD k 0 = x) : txtK xs (k + 1) = txtK xs k ++ [43] ++ dd x := by
  unfold txtK
  rw [take_snoc hk hx, List.map_append, List.map_singleton, join_snoc]
  intro e
  have := congrArg List.length e
  simp only [List.length_map, List.length_take, List.length_nil] at this
  omega
theorem dd_len {x : Int} (h : x ≤ 10000) : (dd x).length ≤ 10001 := by
  have := digits_le x.toNat
  unfold dd
  omega

/-- The state at k: the text so far, and its size. -/
def TxtAt (xs : List Int) (k : Nat) (S : ByteArray) : Prop := S = bstr (txtK xs k)
theorem TxtAt.first {xs : List Int} {x : Int} (hk : 0 < xs.length) (hx : xs.getD 0 0 = x) {S : ByteArray} (h : TxtAt xs 0 S) : TxtAt xs (0 + 1) (S ++ bstr (dd x)) := by
  unfold TxtAt at *
  rw [h, txtK_zero, bstr_app, List.nil_append, txtK_one hk hx]
theorem TxtAt.next {xs : List Int} {k : Nat} {x : Int} (h0 : 0 < k) (hk : k < xs.length) (hx : xs.getD k 0 = x) {S : ByteArray} (h : TxtAt xs k S) : TxtAt xs (k + 1) (S ++ ⟨#[43]⟩ ++ bstr (dd x)) := by
  unfold TxtAt at *
  have e : (⟨#[43]⟩ : ByteArray) = bstr [43] := rfl
  rw [h, e, bstr_app, bstr_app, txtK_succ h0 hk hx]
theorem num_any (x : Int) (w : World) (h0 : 1 ≤ x) (h1 : x ≤ 10000) :
    Calls Tryd.prog 30 #[.int .i64 x] w fun e w' => e = .returned (.string (bstr (dd x))) ∧ Below w.heap.size w w' := by
  have h := l1Num_any x.toNat w (by omega)
  rw [show ((x.toNat : Nat) : Int) = x by omega] at h
  exact h

set_option maxHeartbeats 1000000 in
set_option maxRecDepth 100000 in
theorem piText_any (v : Value) (xs : List Int) (w : World) (h : Sv w v xs) (hl : xs.length ≤ 20) (hp : 0 < xs.length) (hg : AllTo xs 1 10000 xs.length) :
    Calls Tryd.prog 26 #[v] w fun e w' => e = .returned (.string (bstr (txtK xs xs.length))) ∧ Below w.heap.size w w' := by
  obtain ⟨p, cap, rfl, hx⟩ := h
  obtain ⟨b, off, rfl, hbl, hc⟩ := hx hp
  clear hx
  have hz : (((xs.length : Nat) : Int) == 0) = false := by rw [beq_eq_false_iff_ne]; omega
  go_enter Tryd.func26, Tryd.ntmps26
  go_wp2
  go_loopw [3, 11] (fun t i wr => ∃ (k : Nat) (S : ByteArray), k ≤ xs.length ∧ i = .int .i64 k ∧ t = .string S ∧ S.size ≤ 10002 * k ∧ TxtAt xs k S ∧ Below w.heap.size w wr) (fun _ i _ => xs.length - (intOf i).toNat)
  case atStart => exact ⟨0, ⟨#[]⟩, Nat.zero_le _, rfl, rfl, by simp [ByteArray.size], by unfold TxtAt; rw [txtK_zero]; rfl, Below.refl _ _⟩
  case round =>
    obtain ⟨k, S, hk, rfl, rfl, hsz, ha, hB⟩ := hrel
    by_cases hlt : k < xs.length
    · have hcell := hc k hlt
      obtain ⟨x, ex⟩ : ∃ x, xs.getD k 0 = x := ⟨_, rfl⟩
      rw [ex] at hcell
      rw [← hB.cell (p := ⟨b, off + k, none⟩) hbl] at hcell
      have hin := inB_iff.1 (hg k hlt)
      rw [ex] at hin
      obtain ⟨x0, x1⟩ := hin
      have EX := Lib.hid ex
      have hd := dd_len x1
      have hdz : (bstr (dd x)).size ≤ 10001 := by rw [bstr_size]; exact hd
      obtain ⟨D, eD⟩ : ∃ D, bstr (dd x) = D := ⟨_, rfl⟩
      have hN := fun w => num_any x w x0 x1
      rw [eD] at hdz hN
      have HN : ∀ w, Hid _ := fun w => Lib.hid (hN w)
      have HA := Lib.hid ha
      have ED := Lib.hid eD
      clear hN hc hd ex ha eD
      by_cases h0 : k = 0
      · subst h0
        rw [Nat.add_zero] at hcell
        go_wp2_with (go_at_call 30; refine ((HN _).out).mono ?_; rintro e w1 ⟨rfl, b1⟩)
        go_round
        case rel => exact ⟨0 + 1, S ++ D, by omega, by go_num, rfl, by rw [ByteArray.size_append]; omega, by rw [← ED.out]; exact HA.out.first hlt EX.out, nxt hB b1⟩
        case measure => simp [intOf]; omega
      · have hk0 : 0 < (k : Int) := by omega
        go_wp2_with (go_at_call 30; refine ((HN _).out).mono ?_; rintro e w1 ⟨rfl, b1⟩)
        go_round
        case rel => exact ⟨k + 1, S ++ ⟨#[43]⟩ ++ D, by omega, by go_num, rfl, by rw [ByteArray.size_append, ByteArray.size_append, show (⟨#[43]⟩ : ByteArray).size = 1 from rfl]; omega, by rw [← ED.out]; exact HA.out.next (by omega) hlt EX.out, nxt hB b1⟩
        case measure => simp [intOf]; omega
    · clear hc
      have HA := Lib.hid ha
      have hke : xs.length = k := by omega
      have HK := Lib.hid hke
      clear ha hke
      go_wp2
      go_ret
      exact ⟨by rw [HK.out]; exact congrArg (fun s => Ending.returned (Value.string s)) HA.out, hB⟩

end Go.Proofs.YtaihgdecoaajoaaDoor
