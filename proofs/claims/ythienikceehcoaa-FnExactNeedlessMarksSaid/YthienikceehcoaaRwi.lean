/-
  The lengths that a ruler measures, and those that it doesn't: the model's function, by its contracts. Condition: a ruler.
-/
import Derived.Test.YthienikceehcoaaRtm
namespace Go.Proofs.Ythienikceehcoaa
open Go.RowKit

theorem rowOfOw {w : World} {B : Nat} {u : Value} {ys : List Int} {b : Nat} (h : Ow w B u ys) (ha : OwnAt u b) : ∃ cap, u = .slice (some ⟨b, 0, none⟩) ys.length cap ∧ b < w.heap.size ∧ ∀ j, j < ys.length → w.cell? ⟨b, j, none⟩ = some (.int .i64 (ys.getD j 0)) := by
  rcases h.form with ⟨rfl, rfl⟩ | ⟨g, cap, rfl, _, hlt⟩
  · cases ha
  · unfold OwnAt at ha
    have e : g = b := by simpa [Value.ownBlock] using ha
    subst e
    exact ⟨cap, rfl, hlt, fun j hj => h.cellAt rfl hj⟩
theorem ret_lb {a c : Value} {b d : Bool} (h : a = c) (g : b = d) : Ending.returned (.tuple #[a, .bool b]) = .returned (.tuple #[c, .bool d]) := by rw [h, g]

set_option maxHeartbeats 4000000 in
set_option maxRecDepth 20000 in
theorem ruWith_true (v : Value) (ms : List Int) (w : World) (h : Sp w v ms) (S : Rul ms) :
    Calls Try.prog 20 #[v, .bool true] w fun e w' => ∃ u, e = .returned u ∧ Ow w' w.heap.size u (wiK ms true ((lastM ms).toNat + 1)) ∧ Below w.heap.size w w' := by
  have hlb := S.last_bd
  have RT := Lib.hid (ruTimes_any v ms w h S)
  obtain ⟨M, eM⟩ : ∃ M : Nat, (lastM ms).toNat = M := ⟨_, rfl⟩
  rw [eM] at RT
  have hM : M ≤ 60 := by omega
  have hfl := tmT_len ms (M + 1)
  have HT := Lib.hid (fun n => tm_bd (ms := ms) hlb.2.2 n)
  rw [eM]
  clear eM h S hlb
  go_enter Try.func20, Try.ntmps20
  go_wp2_with fail
  refine RT.out.mono ?_
  rintro e w1 ⟨u, rfl, o, a, b2⟩
  obtain ⟨cc, rfl, hlt, hct⟩ := rowOfOw o a
  rw [hfl] at hct ⊢
  have z2 := b2.size
  clear o a RT
  go_wp2
  go_loopw [5, 11] (fun t i wr => ∃ k : Nat, k ≤ M + 1 ∧ i = .int .i64 k ∧ Ow wr w1.heap.size t (wiK ms true k) ∧ Below w1.heap.size w1 wr) (fun _ i _ => M + 1 - (intOf i).toNat)
  case atStart => exact ⟨0, Nat.zero_le _, rfl, World.ownsRow_nil _ _ _ _, Below.refl _ _⟩
  case round =>
    obtain ⟨k, hk, rfl, ho, hb⟩ := hrel
    have hz := hb.size
    have hvl := wiK_len ms true k
    by_cases hlt2 : k < M + 1
    · have hcell1 := (hb.cell (p := ⟨w.heap.size, k, none⟩) hlt).trans (hct k hlt2)
      rw [tmT_at ms (M + 1) k hlt2] at hcell1
      have htb := HT.out k
      obtain ⟨x, ex⟩ : ∃ x, tm ms k = x := ⟨_, rfl⟩
      rw [ex] at hcell1 htb
      have EX := Lib.hid ex
      clear hct ex
      by_cases h0 : k = 0
      · have S2 := Lib.hid (wiK_no (ms := ms) (b := true) (k := k) (.inl h0))
        subst h0
        go_wp2
        go_roundw
        case rel => exact ⟨0 + 1, by omega, by go_num, by rw [S2.out]; exact ho, hb⟩
        case measure => simp only [intOf]; omega
      · have k0 : (0 : Int) < k := by omega
        by_cases hx0 : 0 < x
        · have dx : decide (0 < x) = true := by simpa using hx0
          have S2 := Lib.hid (wiK_yes (ms := ms) (b := true) (k := k) (by omega) (by rw [EX.out]; simp [hx0]))
          go_wp2_with (at_builtin; refine wpList_append_src rfl _ _ rfl w1.heap.size _ (wiK ms true k) rfl (ho.alloc _) _ [(k : Int)] rfl (src_one _ _) (by simp only [List.length_cons, List.length_nil]; omega) (by simp; omega) ?_; intro v' w3 h3 g3)
          have b3 := (hb.alloc hz _).trans ((ho.alloc _).grown (by simp; omega) g3)
          clear ho g3 hb
          go_roundw
          case rel => exact ⟨k + 1, by omega, by go_num, by rw [S2.out]; exact h3, b3⟩
          case measure => simp only [intOf]; omega
        · have dx : decide (0 < x) = false := by simpa using hx0
          have S2 := Lib.hid (wiK_no (ms := ms) (b := true) (k := k) (.inr (by rw [EX.out]; simp [hx0])))
          go_wp2
          go_roundw
          case rel => exact ⟨k + 1, by omega, by go_num, by rw [S2.out]; exact ho, hb⟩
          case measure => simp only [intOf]; omega
    · have hke : k = M + 1 := by omega
      subst hke
      clear hct
      go_wp2
      go_ret
      exact ⟨_, rfl, ho.mono z2, b2.trans (Below.mono hb z2)⟩

end Go.Proofs.Ythienikceehcoaa
