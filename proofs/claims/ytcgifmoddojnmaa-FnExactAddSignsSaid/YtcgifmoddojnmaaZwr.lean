/-
  One balanced digit is written, and one is read, by contracts. Conditions: numbers of a size of at most 10^9, texts of at most 2^40 signs.
-/
import Derived.Test.YtcgifmoddojnmaaZbd
import Derived.Deep.RegionHeld3
import Derived.Deep.CutRange
namespace Go.Proofs.Ytcgifmoddojnmaa
open Go.RowKit

theorem ret_bal {a b : ByteArray} {m n : Int} {c d : Bool} (h : a = b) (k : m = n) (g : c = d) : Ending.returned (.tuple #[.agg #[.string a, .int .i64 m], .bool c]) = .returned (.tuple #[.agg #[.string b, .int .i64 n], .bool d]) := by rw [h, k, g]
theorem blk2_a (w : World) (o1 o2 : Obj) : ((w.alloc o1).alloc o2).heap[w.heap.size]? = some o1 := blk_a w o1 o2
theorem emptyNe {S : ByteArray} (h : 0 < S.size) : S.toList.isEmpty = false := by
  rw [ByteArray.toList_eq]
  cases e : S.data.toList with
  | nil =>
    have h : 0 < S.data.size := h
    rw [← Array.length_toList, e] at h
    simp at h
  | cons _ _ => rfl

set_option maxHeartbeats 8000000 in
set_option maxRecDepth 100000 in
theorem write_stop (S : ByteArray) (w : World) (h : 0 < S.size) :
    Calls Try.prog 85 #[.agg #[.string S, .int .i64 0]] w fun e w' => e = .returned (.tuple #[.agg #[.string S, .int .i64 0], .bool false]) ∧ Below w.heap.size w w' := by
  have hE := emptyNe h
  have h2 : ¬ S = ⟨#[]⟩ := fun e => by rw [e] at h; exact absurd h (by decide)
  go_enter Try.func85, Try.ntmps85
  go_wp2
  refine bodyPost_ret (v := .tuple #[.agg #[.string S, .int .i64 0], .bool false]) (by simp [results, Try.results85, go_sem]) rfl ⟨rfl, ?_⟩
  exact ((Below.refl _ _).alloc (Nat.le_refl _) _).alloc (by simp) _

set_option maxHeartbeats 8000000 in
set_option maxRecDepth 100000 in
theorem write_zero (w : World) :
    Calls Try.prog 85 #[.agg #[.string ⟨#[]⟩, .int .i64 0]] w fun e w' => e = .returned (.tuple #[.agg #[.string ⟨#[48]⟩, .int .i64 0], .bool true]) ∧ Below w.heap.size w w' := by
  have SO := fun W => Lib.hid (show Calls Try.prog 62 #[.int .i64 0] W fun e w' => e = .returned (.string ⟨#[48]⟩) ∧ W = w' from signOf_any 0 W)
  go_enter Try.func85, Try.ntmps85
  go_wp2
  go_region_held3 (fun w' => w'.cell? ⟨w.heap.size, 0, none⟩ = some (.string ⟨#[]⟩) ∧ w'.cell? ⟨w.heap.size, 1, none⟩ = some (.int .i64 0)) (go_keep) ((first | (go_at_call 62; refine (SO _).out.mono ?_; rintro e w' ⟨rfl, rfl⟩)))
  all_goals go_wp2
  all_goals refine bodyPost_ret (v := .tuple #[.agg #[.string ⟨#[48]⟩, .int .i64 0], .bool true]) (by simp [results, Try.results85, go_sem]; exact ⟨rfl, rfl⟩) rfl ⟨rfl, ?_⟩
  all_goals exact (((Below.refl _ _).alloc (Nat.le_refl _) _).alloc (by simp) _).drew

set_option maxHeartbeats 8000000 in
set_option maxRecDepth 100000 in
theorem write_go (S : ByteArray) (n : Int) (w : World) (h : n ≠ 0 ∨ S = ⟨#[]⟩) (h0 : -1000000000 ≤ n) (h1 : n ≤ 1000000000) (hS : S.size ≤ 1099511627776) :
    Calls Try.prog 85 #[.agg #[.string S, .int .i64 n]] w fun e w' => e = .returned (.tuple #[.agg #[.string (bstr [sc (un n)] ++ S), .int .i64 (qn n)], .bool true]) ∧ Below w.heap.size w w' := by
  by_cases hz : n = 0
  · obtain ⟨rfl⟩ : S = ⟨#[]⟩ := h.resolve_left (by omega)
    subst hz
    exact write_zero w
  clear h
  have d : (n == 0) = false := by simpa using hz
  have hu := un_bd n
  have g1 := un_go n
  have g2 := qn_go n
  have SO := fun W => Lib.hid (signOf_any (un n) W)
  obtain ⟨u, eu⟩ : ∃ u, un n = u := ⟨_, rfl⟩
  rw [eu] at hu g1 g2 SO ⊢
  obtain ⟨hu0, hu1⟩ := hu
  have ht := tmod3 n
  obtain ⟨r, er⟩ : ∃ r, n.tmod 3 = r := ⟨_, rfl⟩
  rw [er] at g1 ht
  have hr : -2 ≤ r ∧ r ≤ 2 := by split at ht <;> omega
  obtain ⟨r0, r1⟩ := hr
  obtain ⟨t, et⟩ : ∃ t, (r + 4).tmod 3 = t := ⟨_, rfl⟩
  rw [et] at g1
  have w1 : IntKind.i64.wrap r = r := IntWalk.i64_in _ (by omega)
  have w2 : IntKind.i64.wrap (r + 4) = r + 4 := IntWalk.i64_in _ (by omega)
  have w3 : IntKind.i64.wrap t = t := IntWalk.i64_in _ (by omega)
  have w4 : IntKind.i64.wrap u = u := IntWalk.i64_in _ (by omega)
  have w5 : IntKind.i64.wrap (n - u) = n - u := IntWalk.i64_in _ (by omega)
  have hq : -1000000001 ≤ qn n ∧ qn n ≤ 1000000001 := by
    have := qn_mul n
    rw [eu] at this
    omega
  obtain ⟨q, eq⟩ : ∃ q, qn n = q := ⟨_, rfl⟩
  rw [eq] at g2 hq ⊢
  obtain ⟨hq0, hq1⟩ := hq
  have w6 : IntKind.i64.wrap q = q := IntWalk.i64_in _ (by omega)
  have hs1 : (bstr [sc u]).size = 1 := rfl
  obtain ⟨D, eD⟩ : ∃ D, bstr [sc u] = D := ⟨_, rfl⟩
  rw [eD] at hs1 SO ⊢
  have z1 : ¬ D.size + S.size > 9223372036854775807 := by omega
  have z2 : ¬ 9223372036854775807 < D.size + S.size := by omega
  clear ht eq eD eu hs1
  go_enter Try.func85, Try.ntmps85
  go_wp2
  go_region_held3 (fun w' => w'.cell? ⟨w.heap.size, 0, none⟩ = some (.string S) ∧ w'.cell? ⟨w.heap.size, 1, none⟩ = some (.int .i64 n)) (go_keep) ((first | (go_at_call 62; refine (SO _).out.mono ?_; rintro e w' ⟨rfl, rfl⟩)))
  all_goals go_wp2
  all_goals refine bodyPost_ret (v := .tuple #[.agg #[.string (D ++ S), .int .i64 q], .bool true]) (by simp [results, Try.results85, go_sem]) rfl ⟨rfl, ?_⟩
  all_goals exact (((Below.refl _ _).alloc (Nat.le_refl _) _).alloc (by simp) _).drew

end Go.Proofs.Ytcgifmoddojnmaa
