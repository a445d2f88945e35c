/-
  One balanced digit is read, by contracts. Conditions: numbers of a size of at most 10^9, texts of at most 2^20 signs.
-/
import Derived.Test.YtcgifmoddojnmaaZwr
namespace Go.Proofs.Ytcgifmoddojnmaa
open Go.RowKit

theorem cut_one (l : List UInt8) (h1 : 1 ≤ l.length) (t : TypeId) (ht : Try.prog.underlying t = some .string) (w : World) :
    (Instr.slice t (.string (bstr l)) (some (.int .i64 1)) none none).run Try.prog w = .ok (.string (bstr (l.drop 1))) w := by
  rw [run_slice_string_from_if (P := Try.prog) w t (bstr l) .i64 1 ht, if_pos (by rw [bstr_size]; omega)]
  have e : (bstr l).extract ((1 : Int).toNat) (bstr l).size = bstr (l.drop 1) := by
    rw [show ((1 : Int)).toNat = 1 by omega, bstr_size]
    unfold bstr
    rw [ByteArray.extract_mk, List.take_of_length_le (by simp)]
  rw [e]

theorem rest_any (a : List UInt8) (w : World) (h : 1 ≤ a.length) :
    Calls Try.prog 99 #[.string (bstr a)] w fun e w' => e = .returned (.string (bstr (a.drop 1))) ∧ w = w' := by
  have C := fun wx => cut_one a h 58 Try.underlying58 wx
  obtain ⟨r, er⟩ : ∃ r, bstr (a.drop 1) = r := ⟨_, rfl⟩
  obtain ⟨s, es⟩ : ∃ s, bstr a = s := ⟨_, rfl⟩
  rw [es] at C ⊢
  rw [er] at C ⊢
  clear es er
  go_enter Try.func99, Try.ntmps99
  go_wp2
  go_ret
  exact ⟨rfl, rfl⟩

theorem first_any (a : List UInt8) (w : World) (h : 1 ≤ a.length) :
    Calls Try.prog 100 #[.string (bstr a)] w fun e w' => e = .returned (.int .i64 (tv (a.getD 0 0))) ∧ w = w' := by
  have C : ∀ wx : World, (Instr.index 58 (.string (bstr a)) (.int .i64 0)).run Try.prog wx = .ok (.int .u8 ((a.getD 0 0).toNat : Int)) wx := fun wx => byte_at a 0 h 58 Try.underlying58 wx
  have TO := fun W => Lib.hid (timesOf_any (a.getD 0 0) W)
  obtain ⟨s, es⟩ : ∃ s, bstr a = s := ⟨_, rfl⟩
  rw [es] at C ⊢
  obtain ⟨b, eb⟩ : ∃ b, a.getD 0 0 = b := ⟨_, rfl⟩
  rw [eb] at C TO ⊢
  obtain ⟨c, ec⟩ : ∃ c : Int, (b.toNat : Int) = c := ⟨_, rfl⟩
  rw [ec] at C TO
  clear es eb ec
  go_enter Try.func100, Try.ntmps100
  go_wp2_with (go_at_call 71; refine (TO _).out.mono ?_; rintro e w' ⟨rfl, rfl⟩)
  go_ret
  exact ⟨rfl, rfl⟩

set_option maxHeartbeats 8000000 in
set_option maxRecDepth 100000 in
theorem read_stop (n : Int) (w : World) :
    Calls Try.prog 88 #[.agg #[.string ⟨#[]⟩, .int .i64 n]] w fun e w' => e = .returned (.tuple #[.agg #[.string ⟨#[]⟩, .int .i64 n], .bool false]) ∧ Below w.heap.size w w' := by
  go_enter Try.func88, Try.ntmps88
  go_wp2
  refine bodyPost_ret (v := .tuple #[.agg #[.string ⟨#[]⟩, .int .i64 n], .bool false]) (by simp [results, Try.results88, go_sem]) rfl ⟨rfl, ?_⟩
  exact ((Below.refl _ _).alloc (Nat.le_refl _) _).alloc (by simp) _

set_option maxHeartbeats 8000000 in
set_option maxRecDepth 100000 in
theorem read_go (a : List UInt8) (n : Int) (w : World) (h : 1 ≤ a.length) (h0 : -1000000000 ≤ n) (h1 : n ≤ 1000000000) :
    Calls Try.prog 88 #[.agg #[.string (bstr a), .int .i64 n]] w fun e w' => e = .returned (.tuple #[.agg #[.string (bstr (a.drop 1)), .int .i64 (3 * n + tv (a.getD 0 0))], .bool true]) ∧ Below w.heap.size w w' := by
  have hE := emptyNe (S := bstr a) (by rw [bstr_size]; omega)
  have h2 : ¬ bstr a = ⟨#[]⟩ := fun e => by have := bstr_size a; rw [e] at this; change 0 = _ at this; omega
  have RS := fun W => Lib.hid (rest_any a W h)
  have FS := fun W => Lib.hid (first_any a W h)
  have hb := tv_bd (a.getD 0 0)
  obtain ⟨d, ed⟩ : ∃ d, tv (a.getD 0 0) = d := ⟨_, rfl⟩
  rw [ed] at FS hb ⊢
  obtain ⟨s, es⟩ : ∃ s, bstr a = s := ⟨_, rfl⟩
  obtain ⟨r, er⟩ : ∃ r, bstr (a.drop 1) = r := ⟨_, rfl⟩
  rw [es] at RS FS hE h2 ⊢
  rw [er] at RS ⊢
  obtain ⟨hb0, hb1⟩ := hb
  have w1 : IntKind.i64.wrap (3 * n) = 3 * n := IntWalk.i64_in _ (by omega)
  have w2 : IntKind.i64.wrap (3 * n + d) = 3 * n + d := IntWalk.i64_in _ (by omega)
  clear es er ed h
  go_enter Try.func88, Try.ntmps88
  go_wp2
  go_region_held3 (fun w' => w'.cell? ⟨w.heap.size, 0, none⟩ = some (.string s) ∧ w'.cell? ⟨w.heap.size, 1, none⟩ = some (.int .i64 n)) (go_keep) ((first
    | (go_at_call 99; refine (RS _).out.mono ?_; rintro e w' ⟨rfl, rfl⟩)
    | (go_at_call 100; refine (FS _).out.mono ?_; rintro e w' ⟨rfl, rfl⟩)))
  all_goals go_wp2
  all_goals refine bodyPost_ret (v := .tuple #[.agg #[.string r, .int .i64 (3 * n + d)], .bool true]) (by simp [results, Try.results88, go_sem]) rfl ⟨rfl, ?_⟩
  all_goals exact (((Below.refl _ _).alloc (Nat.le_refl _) _).alloc (by simp) _).drew

end Go.Proofs.Ytcgifmoddojnmaa
