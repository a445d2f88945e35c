/-
  One kind more in how an amount is paid: the program's orWith, by its contract. Conditions: ways and coins within their bounds.
-/
import Derived.Test.YtdgadabfahmdmaaVba
import Derived.Test.YtdgadabfahmdmaaVpd
namespace Go.Proofs.Ytdgadabfahmdmaa
open Go.RowKit

set_option maxHeartbeats 4000000 in
theorem or_skip (a b c i : Int) (w : World) :
    Calls Try.prog 87 #[.agg #[.int .i64 a, .int .i64 b, .int .i64 c], .int .i64 i, .agg #[.int .i64 0, .int .i64 0, .int .i64 0]] w
      fun e w' => e = .returned (.agg #[.int .i64 a, .int .i64 b, .int .i64 c]) ∧ Below w.heap.size w w' := by
  go_enter Try.func87, Try.ntmps87
  go_wp2
  all_goals exact bodyPost_ret (v := .agg #[.int .i64 a, .int .i64 b, .int .i64 c]) (by simp [results, Try.results87, go_sem]; try omega) rfl ⟨rfl, ((((Below.refl _ _).alloc (Nat.le_refl _) _).alloc (by simp) _).alloc (by simp; try omega) _)⟩

set_option maxHeartbeats 4000000 in
theorem or_first (a b c i : Int) (h0 : 0 < a) (h1 : a ≤ 1000000000000001) (h2 : 0 ≤ b) (h3 : b ≤ 1099511627776) (w : World) :
    Calls Try.prog 87 #[.agg #[.int .i64 0, .int .i64 0, .int .i64 0], .int .i64 i, .agg #[.int .i64 a, .int .i64 b, .int .i64 c]] w
      fun e w' => e = .returned (.agg #[.int .i64 a, .int .i64 (b + 1), .int .i64 i]) ∧ Below w.heap.size w w' := by
  have d : (a == 0) = false := by simp; omega
  have hm : min a 1000000000000001 = a := by omega
  go_enter Try.func87, Try.ntmps87
  go_wp2
  all_goals exact bodyPost_ret (v := .agg #[.int .i64 a, .int .i64 (b + 1), .int .i64 i]) (by simp [results, Try.results87, go_sem]; try omega) rfl ⟨rfl, (((((Below.refl _ _).alloc (Nat.le_refl _) _).alloc (by simp) _).alloc (by simp; try omega) _).alloc (by simp; try omega) _)⟩

set_option maxHeartbeats 4000000 in
theorem or_less (a b c x y z i : Int) (h0 : 0 < a) (h1 : a ≤ 1000000000000001) (h2 : 0 ≤ b) (h3 : b ≤ 1099511627776) (g0 : 0 < x) (g1 : x ≤ 1000000000000001) (_g2 : 0 ≤ y) (_g3 : y ≤ 1099511627776) (hl : b + 1 < y) (w : World) :
    Calls Try.prog 87 #[.agg #[.int .i64 x, .int .i64 y, .int .i64 z], .int .i64 i, .agg #[.int .i64 a, .int .i64 b, .int .i64 c]] w
      fun e w' => e = .returned (.agg #[.int .i64 (min (x + a) 1000000000000001), .int .i64 (b + 1), .int .i64 i]) ∧ Below w.heap.size w w' := by
  have d : (a == 0) = false := by simp; omega
  have d2 : (x == 0) = false := by simp; omega
  go_enter Try.func87, Try.ntmps87
  go_wp2
  all_goals exact bodyPost_ret (v := .agg #[.int .i64 (min (x + a) 1000000000000001), .int .i64 (b + 1), .int .i64 i]) (by simp [results, Try.results87, go_sem]; try omega) rfl ⟨rfl, (((((Below.refl _ _).alloc (Nat.le_refl _) _).alloc (by simp) _).alloc (by simp; try omega) _).alloc (by simp; try omega) _)⟩

set_option maxHeartbeats 4000000 in
theorem or_more (a b c x y z i : Int) (h0 : 0 < a) (h1 : a ≤ 1000000000000001) (h2 : 0 ≤ b) (h3 : b ≤ 1099511627776) (g0 : 0 < x) (g1 : x ≤ 1000000000000001) (_g2 : 0 ≤ y) (_g3 : y ≤ 1099511627776) (hl : ¬ b + 1 < y) (w : World) :
    Calls Try.prog 87 #[.agg #[.int .i64 x, .int .i64 y, .int .i64 z], .int .i64 i, .agg #[.int .i64 a, .int .i64 b, .int .i64 c]] w
      fun e w' => e = .returned (.agg #[.int .i64 (min (x + a) 1000000000000001), .int .i64 y, .int .i64 z]) ∧ Below w.heap.size w w' := by
  have d : (a == 0) = false := by simp; omega
  have d2 : (x == 0) = false := by simp; omega
  go_enter Try.func87, Try.ntmps87
  go_wp2
  all_goals exact bodyPost_ret (v := .agg #[.int .i64 (min (x + a) 1000000000000001), .int .i64 y, .int .i64 z]) (by simp [results, Try.results87, go_sem]; try omega) rfl ⟨rfl, (((((Below.refl _ _).alloc (Nat.le_refl _) _).alloc (by simp) _).alloc (by simp; try omega) _).alloc (by simp; try omega) _)⟩

def pdV (p : Pd) : Value := .agg #[.int .i64 (p.w : Int), .int .i64 (p.f : Int), .int .i64 (p.k : Int)]
theorem pdV_z : pdV Pd.z = .agg #[.int .i64 0, .int .i64 0, .int .i64 0] := rfl
theorem orW_any {K a b : Nat} (p r : Pd) (k : Nat) (w : World) (hp : PdOk K a p) (hr : PdOk K b r) (ha : a ≤ 1099511627776) (hb : b ≤ 1099511627776) :
    Calls Try.prog 87 #[pdV p, .int .i64 (k : Int), pdV r] w fun e w' => e = .returned (pdV (orW k p r)) ∧ Below w.heap.size w w' := by
  have b1 := hp.w
  have b2 := hp.f
  have b3 := hr.w
  have b4 := hr.f
  unfold capW at b1 b3
  by_cases e : r.w = 0
  · rw [hr.z e]
    have := or_skip p.w p.f p.k k w
    unfold orW
    exact this
  · by_cases e2 : p.w = 0
    · rw [hp.z e2]
      have := or_first r.w r.f r.k k (by omega) (by omega) (by omega) (by omega) w
      unfold orW
      rw [if_neg e, if_pos (.inl rfl)]
      refine this.mono fun e w' h => ⟨h.1.trans ?_, h.2⟩
      simp only [pdV, Pd.z]
      rw [show (((min (0 + r.w) capW : Nat)) : Int) = (r.w : Int) by unfold capW; omega]
      rfl
    · by_cases e3 : r.f + 1 < p.f
      · have := or_less r.w r.f r.k p.w p.f p.k k (by omega) (by omega) (by omega) (by omega) (by omega) (by omega) (by omega) (by omega) (by omega) w
        unfold orW
        rw [if_neg e, if_pos (.inr e3)]
        refine this.mono fun e w' h => ⟨h.1.trans ?_, h.2⟩
        simp only [pdV]
        rw [show (((min (p.w + r.w) capW : Nat)) : Int) = min ((p.w : Int) + r.w) 1000000000000001 by unfold capW; omega]
        rfl
      · have := or_more r.w r.f r.k p.w p.f p.k k (by omega) (by omega) (by omega) (by omega) (by omega) (by omega) (by omega) (by omega) (by omega) w
        unfold orW
        rw [if_neg e, if_neg (by omega)]
        refine this.mono fun e w' h => ⟨h.1.trans ?_, h.2⟩
        simp only [pdV]
        rw [show (((min (p.w + r.w) capW : Nat)) : Int) = min ((p.w : Int) + r.w) 1000000000000001 by unfold capW; omega]
end Go.Proofs.Ytdgadabfahmdmaa
