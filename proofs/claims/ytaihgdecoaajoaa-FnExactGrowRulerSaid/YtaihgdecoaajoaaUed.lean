/-
  GrowRuler in the program, by its contract. Condition: slices of at most 2^40 numbers.
-/
import Derived.Test.YtaihgdecoaajoaaUis
import Derived.Test.YtaihgdecoaajoaaRsr
namespace Go.Proofs.Ytaihgdecoaajoaa
open Go.RowKit

theorem grL_at (ms : List Int) (a : Int) {j : Nat} (h : j < ms.length) : (grL ms a).getD j 0 = a * ms.getD j 0 := by
  unfold grL
  rw [List.getD_eq_getElem?_getD, List.getElem?_map, List.getElem?_eq_getElem h, List.getD_eq_getElem?_getD, List.getElem?_eq_getElem h]; rfl
theorem gr_ok {ms : List Int} (S : Rul ms) {a : Int} (ha : 1 ≤ a) : rulB (grL ms a) = decide (a * lastM ms ≤ 60) := by
  have h2 := S.two
  have hl := grL_len ms a
  by_cases h : a * lastM ms ≤ 60
  · rw [decide_eq_true h]
    refine rulB_yes ⟨by omega, ⟨fun j hj => ?_, fun j hj => ?_⟩, ?_⟩
    · rw [grL_at ms a (by omega)]
      have hb := S.bd j (by omega)
      have h1 : a * ms.getD j 0 ≤ a * lastM ms := Int.mul_le_mul_of_nonneg_left hb.2.1 (by omega)
      have h0 : 0 ≤ a * ms.getD j 0 := Int.mul_nonneg (by omega) (by omega)
      omega
    · rw [grL_at ms a (by omega), grL_at ms a (by omega)]
      have := S.ris.2 j (by omega)
      exact Int.mul_lt_mul_of_pos_left this (by omega)
    · rw [grL_at ms a (by omega), S.zero, Int.mul_zero]
  · rw [decide_eq_false h]
    refine rulB_no fun g => h ?_
    have := (g.bd ((grL ms a).length - 1) (by omega)).2.2
    rw [grL_at ms a (by omega), hl] at this
    exact this
theorem gr_div {l a : Int} (hl : 1 ≤ l) : Int.tdiv 60 l < a ↔ ¬ a * l ≤ 60 := by
  rw [Int.tdiv_eq_ediv_of_nonneg (by omega)]
  have := Int.le_ediv_iff_mul_le (a := a) (b := 60) (c := l) (by omega)
  omega
theorem gr_bd {l : Int} (hl : 1 ≤ l) : 0 ≤ Int.tdiv 60 l ∧ Int.tdiv 60 l ≤ 60 := by
  rw [Int.tdiv_eq_ediv_of_nonneg (by omega)]
  exact ⟨Int.ediv_nonneg (by omega) (by omega), Int.ediv_le_self l (by omega)⟩
theorem gr_inB {ms : List Int} (S : Rul ms) {a : Int} (ha : 1 ≤ a) : grB ms a = decide (a * lastM ms ≤ 60) := by
  have hlb := S.last_bd
  unfold grB
  rw [rulB_yes S, gr_ok S ha, Bool.true_and, Bool.eq_iff_iff]
  simp only [Bool.and_eq_true, decide_eq_true_eq, inB_iff]
  refine ⟨fun g => g.2, fun g => ⟨⟨ha, ?_⟩, g⟩⟩
  have h1 : a * 1 ≤ a * lastM ms := Int.mul_le_mul_of_nonneg_left hlb.1 (by omega)
  omega

set_option maxHeartbeats 8000000 in
set_option maxRecDepth 20000 in
theorem implGrowRuler_any (v : Value) (ms : List Int) (a1 : Int) (w : World) (h : Sp w v ms) (hl : ms.length ≤ 1099511627776) :
    Calls Try.prog 57 #[v, .int .i64 a1] w fun e w' => ∃ u, e = .returned (.tuple #[u, .bool (grB ms a1)]) ∧ Ow w' w.heap.size u (grR ms a1) ∧ Below w.heap.size w w' := by
  have IR := Lib.hid (implIsRuler_any v ms w h hl)
  by_cases hg : rulB ms = true
  · have S := rulB_iff.1 hg
    have hlb := S.last_bd
    have h2 := S.two
    rw [hg] at IR
    by_cases ha : 1 ≤ a1
    · have d1 : decide (a1 < 1) = false := by rw [decide_eq_false_iff_not]; omega
      have RL := fun W (hb : Below w.heap.size w W) => Lib.hid (rulerLength_any v ms W (h.sv.below hb (Nat.le_refl _)) (by omega) hl)
      have GI := gr_inB S ha
      have GD := gr_div (a := a1) hlb.1
      have GB := gr_bd hlb.1
      have HT := Lib.hid S
      have MB : Hid (a1 * lastM ms ≤ 60 → ∀ j, j < ms.length → 0 ≤ a1 * ms.getD j 0 ∧ a1 * ms.getD j 0 ≤ 60) := Lib.hid (fun g j hj => by
        have hb := S.bd j hj
        have h1 : a1 * ms.getD j 0 ≤ a1 * lastM ms := Int.mul_le_mul_of_nonneg_left hb.2.1 (by omega)
        have h0 : 0 ≤ a1 * ms.getD j 0 := Int.mul_nonneg (by omega) (by omega)
        omega)
      obtain ⟨l, el⟩ : ∃ l, lastM ms = l := ⟨_, rfl⟩
      rw [el] at RL GI GD GB MB hlb
      have hl0 : (l == 0) = false := by rw [beq_eq_false_iff_ne]; omega
      have hln : ¬ l = 0 := by omega
      obtain ⟨q, eq⟩ : ∃ q, Int.tdiv 60 l = q := ⟨_, rfl⟩
      rw [eq] at GD GB
      have hw : wrap64 q = q := IntWalk.wrap64_in _ (by omega)
      have hw1 : IntKind.i64.wrap q = q := IntWalk.i64_in _ (by omega)
      by_cases hk : a1 * l ≤ 60
      · have R : Hid (grB ms a1 = true) := Lib.hid (by rw [GI]; simpa using hk)
        have Q := Lib.hid (show grR ms a1 = grL ms a1 by simp [grR, R.out])
        have dq : decide (q < a1) = false := by rw [decide_eq_false_iff_not]; rw [GD]; simpa using hk
        have MB := Lib.hid (MB.out hk)
        rw [R.out, Q.out]
        have h61 : ms.length ≤ 61 := hlb.2.2
        obtain ⟨b, off, cap, rfl, hcap, hcm, hbl, hc⟩ := h
        have HC := Lib.hid hc
        clear S GI GD GB hk el hg R hc hcm hcap
        go_enter Try.func57, Try.ntmps57
        go_wp2_with fail
        refine IR.out.mono ?_
        rintro e w1 ⟨rfl, b1⟩
        go_wp2_with fail
        refine (RL _ b1).out.mono ?_
        rintro e w1' ⟨rfl, rfl⟩
        clear IR RL
        have z1 := b1.size
        have ho0 := (ow_empty w1').mono z1
        have hb0 : Below w.heap.size w (w1'.alloc (.cells #[] 3)) := b1.alloc z1 _
        go_wp2
        go_loopw [6, 26] (fun t i wr => ∃ k : Nat, k ≤ ms.length ∧ i = .int .i64 k ∧ Ow wr w.heap.size t (grL (ms.take k) a1) ∧ Below w.heap.size w wr) (fun _ i _ => ms.length - (intOf i).toNat)
        case atStart => exact ⟨0, Nat.zero_le _, rfl, ho0, hb0⟩
        case round =>
          clear ho0 hb0
          obtain ⟨k, hk, rfl, ho, hb⟩ := hrel
          have hz := hb.size
          have hdl : (grL (ms.take k) a1).length ≤ ms.length := by rw [grL_len, List.length_take]; omega
          by_cases hlt : k < ms.length
          · have hcell := (hb.cell (p := ⟨b, off + k, none⟩) hbl).trans (HC.out k hlt)
            have hmb := MB.out k hlt
            have NX := Lib.hid (grK_next (a := a1) hlt rfl)
            obtain ⟨y, ey⟩ : ∃ y, ms.getD k 0 = y := ⟨_, rfl⟩
            rw [ey] at hcell hmb NX
            obtain ⟨z, ez⟩ : ∃ z, a1 * y = z := ⟨_, rfl⟩
            have hw2 : IntKind.i64.wrap (a1 * y) = z := by rw [ez]; exact IntWalk.i64_in _ (by rw [ez] at hmb; omega)
            rw [ez] at NX
            clear ey ez hmb
            go_wp2_with (at_builtin; refine wpList_append_src rfl _ _ rfl w.heap.size _ (grL (ms.take k) a1) rfl (ho.alloc _) _ [z] rfl (src_one _ _) (by simp only [List.length_cons, List.length_nil]; omega) (by simp; omega) ?_; intro v' w3 h3 g3)
            have b3 := (hb.alloc hz _).trans ((ho.alloc _).grown (by simp; omega) g3)
            clear ho g3 hb
            go_roundw
            case rel => exact ⟨k + 1, by omega, by go_num, by rw [NX.out]; exact h3, b3⟩
            case measure => simp only [intOf]; omega
          · have hke : k = ms.length := by omega
            subst hke
            rw [List.take_length] at ho
            go_wp2
            go_ret2
            exact ⟨_, rfl, ho, hb⟩
      · have R : Hid (grB ms a1 = false) := Lib.hid (by rw [GI]; simpa using hk)
        have Q := Lib.hid (show grR ms a1 = [] by simp [grR, R.out])
        have dq : decide (q < a1) = true := by rw [decide_eq_true_eq]; exact GD.2 hk
        rw [R.out, Q.out]
        clear h S GI GD GB hk el hg R MB
        go_enter Try.func57, Try.ntmps57
        go_wp2_with fail
        refine IR.out.mono ?_
        rintro e w1 ⟨rfl, b1⟩
        go_wp2_with fail
        refine (RL _ b1).out.mono ?_
        rintro e w1' ⟨rfl, rfl⟩
        go_wp2_with fail
        go_ret2
        exact ⟨_, rfl, ow_nilR _ _, b1⟩
    · have R := Lib.hid (show grB ms a1 = false by
        simp only [grB, Bool.and_eq_false_iff]
        left; right
        rw [Bool.eq_false_iff]; intro g; have := inB_iff.1 g; omega)
      have Q := Lib.hid (show grR ms a1 = [] by simp [grR, R.out])
      have d1 : decide (a1 < 1) = true := by rw [decide_eq_true_eq]; omega
      rw [R.out, Q.out]
      clear h S hg
      go_enter Try.func57, Try.ntmps57
      go_wp2_with fail
      refine IR.out.mono ?_
      rintro e w1 ⟨rfl, b1⟩
      go_wp2_with fail
      go_ret2
      exact ⟨_, rfl, ow_nilR _ _, b1⟩
  · have hg : rulB ms = false := by simpa using hg
    have R := Lib.hid (show grB ms a1 = false by simp [grB, hg])
    have Q := Lib.hid (show grR ms a1 = [] by simp [grR, R.out])
    rw [hg] at IR
    rw [R.out, Q.out]
    clear h
    go_enter Try.func57, Try.ntmps57
    go_wp2_with fail
    refine IR.out.mono ?_
    rintro e w1 ⟨rfl, b1⟩
    go_wp2_with fail
    go_ret2
    exact ⟨_, rfl, ow_nilR _ _, b1⟩
end Go.Proofs.Ytaihgdecoaajoaa
