/-
  Cards in the model: whether a list has a number, the answers of a number, and whether there are cards and answers, by contracts. Condition: at most 12 lists.
-/
import Derived.Test.YtmcbhpmkhbmlgaaKga
import Derived.Test.YtmcbhpmkhbmlgaaTxs
namespace Go.Proofs.Ytmcbhpmkhbmlgaa
open Go.RowKit

set_option maxHeartbeats 1000000 in
set_option maxRecDepth 20000 in
theorem l1Has_any (v : Value) (ys : List Int) (x : Int) (w : World) (h : Sv w v ys) (hl : ys.length ≤ 1099511627776) :
    Calls Try.prog 69 #[v, .int .i64 x] w fun e w' => e = .returned (.bool (decide (x ∈ ys))) ∧ w = w' := by
  obtain ⟨p, cap, rfl, hx⟩ := h
  go_enter Try.func69, Try.ntmps69
  go_wp2
  go_loop [9] (fun i => ∃ k : Nat, k ≤ ys.length ∧ i = .int .i64 k ∧ Hid (x ∉ ys.take k)) (fun i => ys.length - (intOf i).toNat)
  case atStart => exact ⟨0, Nat.zero_le _, rfl, Lib.hid (by simp)⟩
  case round =>
    obtain ⟨k, hk, rfl, HN⟩ := hrel
    by_cases hlt : k < ys.length
    · obtain ⟨b, off, rfl, hbl, hc⟩ := hx (by omega)
      have hcell := hc k hlt
      have T : Hid (ys.take (k + 1) = ys.take k ++ [ys.getD k 0]) := Lib.hid (by rw [List.take_add_one, List.getElem?_eq_getElem hlt, List.getD_eq_getElem?_getD, List.getElem?_eq_getElem hlt]; rfl)
      have M : Hid (ys.getD k 0 ∈ ys) := Lib.hid (by rw [List.getD_eq_getElem?_getD, List.getElem?_eq_getElem hlt]; exact List.getElem_mem hlt)
      obtain ⟨y, ey⟩ : ∃ y, ys.getD k 0 = y := ⟨_, rfl⟩
      rw [ey] at hcell T M
      clear hc hx ey
      by_cases hxy : y = x
      · subst hxy
        go_wp2
        go_ret
        exact ⟨ret_bool (by simpa using M.out), rfl⟩
      · have d : (y == x) = false := by simpa using hxy
        have HX := Lib.hid hxy
        clear hxy
        go_wp2
        go_round
        case rel => exact ⟨k + 1, by omega, by go_num, Lib.hid (by rw [T.out, List.mem_append]; rintro (h | h); exact HN.out h; exact HX.out (List.mem_singleton.1 h).symm)⟩
        case measure => simp [intOf]; omega
    · clear hx
      go_wp2
      go_ret
      have hke : k = ys.length := by omega
      have e := HN.out
      rw [hke, List.take_length] at e
      exact ⟨ret_bool (by simpa using e), rfl⟩

set_option maxHeartbeats 2000000 in
set_option maxRecDepth 20000 in
theorem caAnswers_any (n x : Int) (v : Value) (Ls : List (List Int)) (w : World) (h : Svv w v Ls) (hl : Ls.length ≤ 12) (hx : ∀ j, j < Ls.length → (rowL Ls j).length ≤ 1099511627776) :
    Calls Try.prog 52 #[.agg #[.int .i64 n, v], .int .i64 x] w fun e w' => e = .returned (.string (bstr (anW Ls x))) ∧ Below w.heap.size w w' := by
  obtain ⟨p, cap, rfl⟩ := svv_form h
  have H := Lib.hid h
  clear h
  have hb0 : Below w.heap.size w (w.alloc (.cells #[.int .i64 n, .slice p Ls.length cap] 36)) := (Below.refl _ w).alloc (Nat.le_refl _) _
  go_enter Try.func52, Try.ntmps52
  go_wp2
  go_loopw [5, 11] (fun s i wr => ∃ (k : Nat) (S : ByteArray), k ≤ Ls.length ∧ i = .int .i64 k ∧ s = .string S ∧ S.size = k ∧ Hid (S = bstr (anK Ls x k)) ∧ Below w.heap.size w wr) (fun _ i _ => Ls.length - (intOf i).toNat)
  case atStart => exact ⟨0, ⟨#[]⟩, Nat.zero_le _, rfl, rfl, rfl, Lib.hid (by rw [anK_zero]; rfl), hb0⟩
  case round =>
    clear hb0
    obtain ⟨k, S, hk, rfl, rfl, hz, HS, hb⟩ := hrel
    by_cases hlt : k < Ls.length
    · obtain ⟨b, off, rfl, hbl, hr⟩ := svv_row H.out (by omega)
      obtain ⟨u, hu, hs⟩ := hr k hlt
      have hcell := (hb.cell (p := ⟨b, off + k, none⟩) hbl).trans hu
      have HA := Lib.hid (l1Has_any u (rowL Ls k) x wr (hs.below hb (Nat.le_refl _)) (hx k hlt))
      have h1 : ¬ S.size + (⟨#[121]⟩ : ByteArray).size > 9223372036854775807 := by rw [hz]; show ¬ k + 1 > _; omega
      have h2 : ¬ S.size + (⟨#[110]⟩ : ByteArray).size > 9223372036854775807 := by rw [hz]; show ¬ k + 1 > _; omega
      by_cases hm : x ∈ rowL Ls k
      · have D : decide (x ∈ rowL Ls k) = true := by simpa using hm
        rw [D] at HA
        have HN : Hid (S ++ ⟨#[121]⟩ = bstr (anK Ls x (k + 1))) := Lib.hid (by rw [anK_yes hlt hm, ← bstr_app, HS.out]; rfl)
        have HZ : Hid ((S ++ ⟨#[121]⟩).size = k + 1) := Lib.hid (by rw [ByteArray.size_append, hz]; rfl)
        clear hr hu hs hm D HS
        go_wp2_with (go_at_call 69; refine HA.out.mono ?_; rintro e w2 ⟨rfl, rfl⟩)
        go_roundw
        case rel => exact ⟨k + 1, _, by omega, by go_num, rfl, HZ.out, HN, hb⟩
        case measure => simp [intOf]; omega
      · have D : decide (x ∈ rowL Ls k) = false := by simpa using hm
        rw [D] at HA
        have HN : Hid (S ++ ⟨#[110]⟩ = bstr (anK Ls x (k + 1))) := Lib.hid (by rw [anK_no hlt hm, ← bstr_app, HS.out]; rfl)
        have HZ : Hid ((S ++ ⟨#[110]⟩).size = k + 1) := Lib.hid (by rw [ByteArray.size_append, hz]; rfl)
        clear hr hu hs hm D HS
        go_wp2_with (go_at_call 69; refine HA.out.mono ?_; rintro e w2 ⟨rfl, rfl⟩)
        go_roundw
        case rel => exact ⟨k + 1, _, by omega, by go_num, rfl, HZ.out, HN, hb⟩
        case measure => simp [intOf]; omega
    · have hke : k = Ls.length := by omega
      subst hke
      go_wp2
      go_ret
      exact ⟨ret_str (by rw [HS.out, anK_all]), hb⟩

end Go.Proofs.Ytmcbhpmkhbmlgaa
