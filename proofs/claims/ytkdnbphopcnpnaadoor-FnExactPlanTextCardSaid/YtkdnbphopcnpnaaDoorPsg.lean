/-
  The text of a day in the program: the pieces of a set with a sign before each; by contracts. Conditions: few pieces; the library's table of powers of ten is as it was laid.
-/
import Derived.Test.YtkdnbphopcnpnaaDoorTxte
import Derived.Test.YtkdnbphopcnpnaaDoorPspce
namespace Go.Proofs.YtkdnbphopcnpnaaDoor
open Go.RowKit

/-- The lengths of the pieces with these indices, with a sign before each. -/
def sgn (c : UInt8) (xs ys : List Int) : List UInt8 := ys.flatMap fun i => c :: dd (xs.getD i.toNat 0)
theorem sgn_snoc (c : UInt8) (xs ys : List Int) (i : Int) : sgn c xs (ys ++ [i]) = sgn c xs ys ++ (c :: dd (xs.getD i.toNat 0)) := by
  unfold sgn; rw [List.flatMap_append]; simp
theorem take_snoc {xs : List Int} {k : Nat} {x : Int} (hk : k < xs.length) (hx : xs.getD k 0 = x) : xs.take (k + 1) = xs.take k ++ [x] := by
  rw [List.take_add_one, List.getElem?_eq_getElem hk]
  rw [List.getD_eq_getElem?_getD, List.getElem?_eq_getElem hk] at hx
  simp only [Option.getD_some] at hx
  rw [hx]
  rfl
theorem sgn_len {c : UInt8} {xs : List Int} (hg : Good xs) : ∀ (ys : List Int), (∀ x ∈ ys, 0 ≤ x ∧ x < xs.length) → (sgn c xs ys).length ≤ 10002 * ys.length := by
  intro ys
  induction ys with
  | nil => intro _; simp [sgn]
  | cons y t ih =>
    intro h
    have h1 := h y (by simp)
    have h2 := ih fun x hx => h x (by simp [hx])
    have h3 := dd_len (hg.2.1 y.toNat (by omega)).2
    simp only [sgn, List.flatMap_cons, List.length_append, List.length_cons] at *
    omega
theorem one_str (c : UInt8) : (⟨#[c]⟩ : ByteArray) = bstr [c] := rfl
/-- The next piece of the text. -/
theorem sgn_next {c : UInt8} {xs ys : List Int} {k i : Nat} {y : Int} {S D : ByteArray} (hk : k < ys.length) (hi : ys.getD k 0 = i) (hy : xs.getD i 0 = y) (hS : S = bstr (sgn c xs (ys.take k))) (hD : bstr (dd y) = D) :
    S ++ (⟨#[c]⟩ ++ D) = bstr (sgn c xs (ys.take (k + 1))) := by
  rw [take_snoc hk hi, sgn_snoc, hS, ← hD, one_str, bstr_app, bstr_app, Int.toNat_natCast, hy]
  rfl

set_option maxHeartbeats 2000000 in
set_option maxRecDepth 20000 in
theorem signed_any (m : Nat) (c : UInt8) (v : Value) (xs ys : List Int) (w : World) (hv : Sv w v xs) (hg : Good xs) (hm : m < 256) (hy : idx m = ys) (hr : Rs 0 ((xs.length : Int) - 1) ys) (ht : Ten w) :
    Calls Tryd.prog 28 #[.int .u64 m, .string ⟨#[c]⟩, v] w fun e w' => e = .returned (.string (bstr (sgn c xs ys))) ∧ Below w.heap.size w w' := by
  have hl20 := hg.1
  obtain ⟨q, cap1, rfl, hq⟩ := hv
  have hl8 : ys.length ≤ 8 := by rw [← hy]; exact idx_len m
  have HG := Lib.hid hg
  have HR := Lib.hid hr
  have HT := Lib.hid ht
  clear hg hr ht
  go_enter Tryd.func28, Tryd.ntmps28
  go_wp2_with fail
  refine (indices_any _ _ hm).mono ?_
  rintro e w1 ⟨r, rfl, o1, b1⟩
  rw [hy] at o1
  have hsv := o1.sv
  obtain ⟨p2, c2, rfl, hx⟩ := hsv
  go_wp2
  go_loopw [7, 13] (fun t i wr => ∃ (k : Nat) (S : ByteArray), k ≤ ys.length ∧ i = .int .i64 k ∧ t = .string S ∧ S.size ≤ 10002 * k ∧ Hid (S = bstr (sgn c xs (ys.take k))) ∧ Below w1.heap.size w1 wr ∧ Below w.heap.size w wr) (fun _ i _ => ys.length - (intOf i).toNat)
  case atStart => exact ⟨0, ⟨#[]⟩, Nat.zero_le _, rfl, rfl, by simp [ByteArray.size], Lib.hid rfl, Below.refl _ _, b1⟩
  case round =>
    obtain ⟨k, S, hk, rfl, rfl, hsz, HS, hb1, hb⟩ := hrel
    by_cases hlt : k < ys.length
    · obtain ⟨b, off, rfl, hbl, hc⟩ := hx (by omega)
      have hcell := (hb1.cell (p := ⟨b, off + k, none⟩) hbl).trans (hc k hlt)
      have hin := HR.out.mem (ys.getD k 0) (by rw [List.getD_eq_getElem?_getD, List.getElem?_eq_getElem hlt]; exact List.getElem_mem hlt)
      obtain ⟨x, ex⟩ : ∃ x, ys.getD k 0 = x := ⟨_, rfl⟩
      rw [ex] at hcell hin
      obtain ⟨i, rfl⟩ : ∃ i : Nat, x = i := ⟨x.toNat, by omega⟩
      obtain ⟨b2, off2, rfl, hbl2, hc2⟩ := hq (by omega)
      have hil : i < xs.length := by omega
      have hcell2 : wr.cell? ⟨b2, off2 + i, none⟩ = some (.int .i64 (xs.getD i 0)) := (hb.cell (p := ⟨b2, off2 + i, none⟩) hbl2).trans (hc2 i hil)
      have hbd := HG.out.2.1 i hil
      obtain ⟨y, ey⟩ : ∃ y, xs.getD i 0 = y := ⟨_, rfl⟩
      rw [ey] at hcell2 hbd
      obtain ⟨y0, y1⟩ := hbd
      have hdz : (bstr (dd y)).size ≤ 10001 := by rw [bstr_size]; exact dd_len y1
      obtain ⟨D, eD⟩ : ∃ D, bstr (dd y) = D := ⟨_, rfl⟩
      have IT := itoa_any y wr y0 y1 (HT.out.below hb (Nat.le_refl _))
      rw [eD] at hdz IT
      have IT := Lib.hid IT
      have NX := Lib.hid (sgn_next (c := c) hlt ex ey HS.out eD)
      have h1 : (⟨#[c]⟩ : ByteArray).size = 1 := rfl
      have h2 : (⟨#[c]⟩ ++ D : ByteArray).size = 1 + D.size := by rw [ByteArray.size_append, h1]
      clear hc hx hc2 hq ex ey eD hin
      go_wp2_with (go_at_call 38; refine (IT.out).mono ?_; rintro e w2 ⟨rfl, b2⟩)
      go_roundw
      case rel => exact ⟨k + 1, S ++ (⟨#[c]⟩ ++ D), by omega, by go_num, rfl, by rw [ByteArray.size_append, h2]; omega, Lib.hid NX.out, nxt hb1 b2 |> fun _ => hb1.trans (Below.mono b2 hb1.size), nxt hb b2⟩
      case measure => simp [intOf]; omega
    · clear hx hq
      go_wp2
      go_ret
      have hke : k = ys.length := by omega
      have e := HS.out
      rw [hke, List.take_length] at e
      exact ⟨by rw [e]; rfl, hb⟩
end Go.Proofs.YtkdnbphopcnpnaaDoor
