/-
  The text of a ruler in the model, by its contract. Condition: the numbers are marks.
-/
import Derived.Test.YtaihgdecoaajoaaDoorNtx
namespace Go.Proofs.YtaihgdecoaajoaaDoor
open Go.RowKit

theorem num0_any (x : Int) (w : World) (h0 : 0 ≤ x) (h1 : x ≤ 60) :
    Calls Tryd.prog 30 #[.int .i64 x] w fun e w' => e = .returned (.string (bstr (dd x))) ∧ Below w.heap.size w w' := by
  have h := l1Num_any x.toNat w (by omega)
  rw [show ((x.toNat : Nat) : Int) = x by omega] at h
  exact h
def txtR (xs : List Int) (k : Nat) : List UInt8 := Lib.join ((xs.take k).map dd) [124]
theorem txtR_zero (xs : List Int) : txtR xs 0 = [] := by simp [txtR, Lib.join_nil]
theorem txtR_one {xs : List Int} {x : Int} (hk : 0 < xs.length) (hx : xs.getD 0 0 = x) : txtR xs 1 = dd x := by
  unfold txtR
  rw [take_snoc hk hx]
  simp [Lib.join_one]
theorem txtR_succ {xs : List Int} {k : Nat} {x : Int} (h0 : 0 < k) (hk : k < xs.length) (hx : xs.getD k 0 = x) : txtR xs (k + 1) = txtR xs k ++ [124] ++ dd x := by
  unfold txtR
  rw [take_snoc hk hx, List.map_append, List.map_singleton, join_snoc]
  intro e
  have := congrArg List.length e
  simp only [List.length_map, List.length_take, List.length_nil] at this
  omega
/-- The state at k: the text so far, and its size. -/
def TxtRAt (xs : List Int) (k : Nat) (S : ByteArray) : Prop := S = bstr (txtR xs k)
theorem TxtRAt.first {xs : List Int} {x : Int} (hk : 0 < xs.length) (hx : xs.getD 0 0 = x) {S : ByteArray} (h : TxtRAt xs 0 S) : TxtRAt xs (0 + 1) (S ++ bstr (dd x)) := by
  unfold TxtRAt at *
  rw [h, txtR_zero, bstr_app, List.nil_append, txtR_one hk hx]
theorem TxtRAt.next {xs : List Int} {k : Nat} {x : Int} (h0 : 0 < k) (hk : k < xs.length) (hx : xs.getD k 0 = x) {S : ByteArray} (h : TxtRAt xs k S) : TxtRAt xs (k + 1) (S ++ ⟨#[124]⟩ ++ bstr (dd x)) := by
  unfold TxtRAt at *
  have e : (⟨#[124]⟩ : ByteArray) = bstr [124] := rfl
  rw [h, e, bstr_app, bstr_app, txtR_succ h0 hk hx]
set_option maxHeartbeats 1000000 in
set_option maxRecDepth 100000 in
theorem ruText_any (v : Value) (xs : List Int) (w : World) (h : Sv w v xs) (hl : xs.length ≤ 61) (hp : 0 < xs.length) (hg : AllTo xs 0 60 xs.length) :
    Calls Tryd.prog 20 #[v] w fun e w' => e = .returned (.string (bstr (txtR xs xs.length))) ∧ Below w.heap.size w w' := by
  obtain ⟨p, cap, rfl, hx⟩ := h
  obtain ⟨b, off, rfl, hbl, hc⟩ := hx hp
  clear hx
  go_enter Tryd.func20, Tryd.ntmps20
  go_wp2
  go_loopw [3, 8] (fun t i wr => ∃ (k : Nat) (S : ByteArray), k ≤ xs.length ∧ i = .int .i64 k ∧ t = .string S ∧ S.size ≤ 10002 * k ∧ TxtRAt xs k S ∧ Below w.heap.size w wr) (fun _ i _ => xs.length - (intOf i).toNat)
  case atStart => exact ⟨0, ⟨#[]⟩, Nat.zero_le _, rfl, rfl, by simp [ByteArray.size], by unfold TxtRAt; rw [txtR_zero]; rfl, Below.refl _ _⟩
  case round =>
    obtain ⟨k, S, hk, rfl, rfl, hsz, ha, hB⟩ := hrel
    by_cases hlt : k < xs.length
    · have hcell := hc k hlt
      obtain ⟨x, ex⟩ : ∃ x, xs.getD k 0 = x := ⟨_, rfl⟩
      rw [ex] at hcell
      rw [← hB.cell (p := ⟨b, off + k, none⟩) hbl] at hcell
      have hin := inB_iff.1 (hg k hlt)
      rw [ex] at hin
      obtain ⟨x0, x1⟩ := hin
      have EX := Lib.hid ex
      have hd := dd_len (show x ≤ 10000 by omega)
      have hdz : (bstr (dd x)).size ≤ 10001 := by rw [bstr_size]; exact hd
      obtain ⟨D, eD⟩ : ∃ D, bstr (dd x) = D := ⟨_, rfl⟩
      have hN := fun w => num0_any x w x0 x1
      rw [eD] at hdz hN
      have HN : ∀ w, Hid _ := fun w => Lib.hid (hN w)
      have HA := Lib.hid ha
      have ED := Lib.hid eD
      clear hN hc hd ex ha eD
      by_cases h0 : k = 0
      · subst h0
        rw [Nat.add_zero] at hcell
        go_wp2_with (go_at_call 30; refine ((HN _).out).mono ?_; rintro e w1 ⟨rfl, b1⟩)
        go_round
        case rel => exact ⟨0 + 1, S ++ D, by omega, by go_num, rfl, by rw [ByteArray.size_append]; omega, by rw [← ED.out]; exact HA.out.first hlt EX.out, nxt hB b1⟩
        case measure => simp [intOf]; omega
      · have hk0 : 0 < (k : Int) := by omega
        go_wp2_with (go_at_call 30; refine ((HN _).out).mono ?_; rintro e w1 ⟨rfl, b1⟩)
        go_round
        case rel => exact ⟨k + 1, S ++ ⟨#[124]⟩ ++ D, by omega, by go_num, rfl, by rw [ByteArray.size_append, ByteArray.size_append, show (⟨#[124]⟩ : ByteArray).size = 1 from rfl]; omega, by rw [← ED.out]; exact HA.out.next (by omega) hlt EX.out, nxt hB b1⟩
        case measure => simp [intOf]; omega
    · clear hc
      have HA := Lib.hid ha
      have hke : xs.length = k := by omega
      have HK := Lib.hid hke
      clear ha hke
      go_wp2
      go_ret
      exact ⟨by rw [HK.out]; exact congrArg (fun s => Ending.returned (Value.string s)) HA.out, hB⟩

end Go.Proofs.YtaihgdecoaajoaaDoor
