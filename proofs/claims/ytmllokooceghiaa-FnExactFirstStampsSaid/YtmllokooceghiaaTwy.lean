/-
  All ways to reach a value, in the program, by its contract. Conditions: few kinds, a room of at most 8, a value.
-/
import Derived.Test.YtmllokooceghiaaTow
import Derived.Test.YtmllokooceghiaaTwl
import Derived.Deep.RegionWith
import Derived.Deep.CutRange
import Derived.Deep.CutBlock
import Derived.Sort.CutIn
import Derived.RangeFuncBox
namespace Go.Proofs.Ytmllokooceghiaa
open Go.RowKit

def WaysI (l : List Int) : Prop := ∀ (v : Value) (r : Nat) (d : Int) (w : World), Sp w v l → r ≤ 8 → -5000 ≤ d → d ≤ 5000 →
  Calls Try.prog 60 #[v, .int .i64 r, .int .i64 d] w fun e w' => ∃ u, e = .returned u ∧ Ows w' w.heap.size u (wl l r d) ∧ Below w.heap.size w w'

set_option maxHeartbeats 2000000 in
theorem waysI_nil : WaysI [] := by
  intro v r d w h hr hd1 hd2
  obtain ⟨b, off, cap, rfl, _, _, _, _⟩ := h
  by_cases h0 : d = 0
  · subst h0
    have o1 := owp_empty w
    have o2 := Ows.lit1 (B := w.heap.size) o1 (by simp)
    have b1 : Below w.heap.size w ((w.alloc (.cells #[] 3)).alloc (.cells #[.slice (some ⟨w.heap.size, 0, none⟩) 0 0] 22)) := ((Below.refl _ _).alloc (Nat.le_refl _) _).alloc (by simp) _
    simp only [World.size_alloc] at o2
    go_enter Try.func60, Try.ntmps60
    go_wp2
    go_ret
    exact ⟨_, rfl, by simpa [wl] using o2, b1⟩
  · have d0 : (d == 0) = false := by simpa using h0
    have e : wl [] r d = [] := by unfold wl; rw [if_neg h0]
    rw [e]
    clear e h0
    go_enter Try.func60, Try.ntmps60
    go_wp2
    go_ret
    exact ⟨_, rfl, Ows.nil _ _, Below.refl _ _⟩

theorem Ows.shape {w : World} {B : Nat} {v : Value} {L : List (List Int)} (h : Ows w B v L) : ∃ p c, v = .slice p L.length c := by
  rcases h.form with ⟨rfl, rfl⟩ | ⟨g, cap, rfl, _⟩
  · exact ⟨none, 0, rfl⟩
  · exact ⟨_, _, rfl⟩
theorem take_map {α β : Type} (f : α → β) (L : List β) (M : List α) (d : α) {j : Nat} (hj : j < M.length) : L ++ (M.take j).map f ++ [f (M.getD j d)] = L ++ (M.take (j + 1)).map f := by
  rw [List.take_add_one, List.getElem?_eq_getElem hj, List.map_append, ← List.append_assoc, List.getD_eq_getElem?_getD, List.getElem?_eq_getElem hj]
  rfl
/-- What an inner round needs of the slices that it runs through. -/
theorem ows_at {w2 wi : World} {lo : Nat} {p : Option Addr} {c : Nat} {M : List (List Int)} (h : Ows w2 lo (.slice p M.length c) M) (k : Mid lo w2.heap.size w2 wi) {j : Nat} (hj : j < M.length) :
    ∃ g, p = some ⟨g, 0, none⟩ ∧ ∃ gj cj, wi.cell? ⟨g, j, none⟩ = some (.slice (some ⟨gj, 0, none⟩) (M.getD j []).length cj) ∧ OwP wi lo (.slice (some ⟨gj, 0, none⟩) (M.getD j []).length cj) (M.getD j []) := by
  rcases h.form with ⟨_, rfl⟩ | ⟨g, cap, hv, hg, hlt, hc⟩
  · simp at hj
  · obtain ⟨u, hu, ho⟩ := hc j hj
    have ho2 := ho.mid (Nat.le_refl _) k.2
    obtain ⟨gj, cj, rfl, _, _⟩ := ho2.lies
    simp only [Value.slice.injEq, true_and] at hv
    exact ⟨g, hv.1, gj, cj, (cell_of_heap (k.2 g hg hlt)).trans hu, ho2⟩

set_option maxHeartbeats 8000000 in
set_option maxRecDepth 20000 in
theorem waysI_cons (n : Int) (t : List Int) (hl : t.length ≤ 5) (hn1 : 1 ≤ n) (hn2 : n ≤ 500) (ih : WaysI t) : WaysI (n :: t) := by
  intro v r d w h hr hd1 hd2
  obtain ⟨b, off, cap, rfl, hcap, hcm, hbl, hc⟩ := h
  have hcell : w.cell? ⟨b, off, none⟩ = some (.int .i64 n) := by have := hc 0 (by simp); simpa using this
  have hst := sp_tail hbl (by simpa using hcap) hcm hc
  have hww := ww_bd6 (l := n :: t) (by simp; omega) hr d
  rw [← wl_len] at hww
  have hlen : (n :: t).length = t.length + 1 := rfl
  rw [hlen] at hcap ⊢
  have hcm : cap ≤ 9223372036854775807 := by unfold maxLen at hcm; exact hcm
  have HST := Lib.hid hst
  have HIH := Lib.hid ih
  clear hc hst hlen ih
  obtain ⟨T, hT⟩ : ∃ T, wl (n :: t) r d = T := ⟨_, rfl⟩
  rw [hT] at hww ⊢
  have HT : Hid (wlF (wl t) n r d (r + 1 - 0) 0 = T) := Lib.hid hT
  clear hT
  have hww := hww.2
  have ho0 := Ows.empty w (Nat.le_refl _)
  have hb0 : Below w.heap.size w (w.alloc (.cells #[] 22)) := (Below.refl _ _).alloc (Nat.le_refl _) _
  have hcf : ((t.length + 1 : Nat) : Int) = (t.length : Int) + 1 := by omega
  have hne0 : ((t.length : Int) + 1 == 0) = false := by rw [beq_eq_false_iff_ne]; omega
  go_enter Try.func60, Try.ntmps60
  go_wp2
  go_loopw [7, 8] (fun x i wr => ∃ (k : Nat) (L : List (List Int)), k ≤ r + 1 ∧ i = .int .i64 k ∧ Ows wr w.heap.size x L ∧ Hid (L ++ wlF (wl t) n r d (r + 1 - k) k = T) ∧ Below w.heap.size w wr) (fun _ i _ => r + 1 - (intOf i).toNat)
  case atStart => exact ⟨0, [], by omega, rfl, ho0, HT, hb0⟩
  case round =>
    clear ho0 hb0
    obtain ⟨k, L, hk, rfl, ho, HL, hb⟩ := hrel
    by_cases hkr : k ≤ r
    · have hkn : 0 ≤ (k : Int) * n ∧ (k : Int) * n ≤ 8 * 500 := ⟨Int.mul_nonneg (by omega) (by omega), Int.mul_le_mul (by omega) hn2 (by omega) (by omega)⟩
      have hcell1 : wr.cell? ⟨b, off, none⟩ = some (.int .i64 n) := (hb.cell (p := ⟨b, off, none⟩) hbl).trans hcell
      have RS := fun h => wlF_step (F := wl t) (n := n) (r := r) (k := k) (v := d) hkr h
      have RT := fun h => wlF_stop (F := wl t) (n := n) (r := r) (k := k) (v := d) (.inr h)
      obtain ⟨P, hP⟩ : ∃ P, (k : Int) * n = P := ⟨_, rfl⟩
      rw [hP] at hkn RS RT
      obtain ⟨hp0, hp1⟩ := hkn
      have hwP : IntKind.i64.wrap ((k : Int) * n) = P := by rw [hP]; exact IntWalk.i64_in _ (by omega)
      by_cases hPd : P ≤ d
      · have E := HL.out
        rw [RS hPd] at E
        have hrow := wl_row t (r - k) (d - P)
        have IHc : ∀ W, Below wr.heap.size wr W → wr.heap.size ≤ W.heap.size → Hid (Calls Try.prog 60 #[tailV b off t.length cap, .int .i64 ((r : Int) - k), .int .i64 (d - P)] W fun e w' => ∃ p c, e = .returned (.slice p (wl t (r - k) (d - P)).length c) ∧ Ows w' wr.heap.size (.slice p (wl t (r - k) (d - P)).length c) (wl t (r - k) (d - P)) ∧ Below W.heap.size W w') := fun W hB hz => Lib.hid (by
          have := HIH.out _ (r - k) (d - P) W ((HST.out.below hb (Nat.le_refl _)).below hB (Nat.le_refl _)) (by omega) (by omega) (by omega)
          rw [show ((r - k : Nat) : Int) = (r : Int) - k by omega] at this
          refine this.mono ?_
          rintro e w' ⟨u, he, o, b2⟩
          obtain ⟨p, c, rfl⟩ := o.shape
          exact ⟨p, c, he, o.mono hz, b2⟩)
        obtain ⟨M, hM⟩ : ∃ M, wl t (r - k) (d - P) = M := ⟨_, rfl⟩
        rw [hM] at IHc hrow E
        have HROW := Lib.hid hrow
        have hE : L.length + M.length ≤ 531441 := by
          have := congrArg List.length E
          simp only [List.length_append, List.length_map] at this
          omega
        have HE := Lib.hid E
        have hw3 : IntKind.i64.wrap ((r : Int) - k) = (r : Int) - k := IntWalk.i64_in _ (by omega)
        have hw4 : IntKind.i64.wrap (d - P) = d - P := IntWalk.i64_in _ (by omega)
        have HP := Lib.hid hP
        have hz := hb.size
        have hrf : ∀ hi, Apt _ wr.heap.size hi := fun hi => ho.apt (Nat.le_refl _)
        have HB := Lib.hid hb
        have HO := Lib.hid ho
        have HRF := Lib.hid hrf
        clear hP E RT RS HL hM hrow hb ho hrf
        by_cases hc1 : cap = 1
        · have ht : t = [] := List.length_eq_zero_iff.1 (by omega)
          subst ht
          subst hc1
          simp only [tailV, if_true, List.length_nil] at IHc hcap ⊢
          go_upto_region 9 with (fail)
          go_cut [45, 46, 47] from 19 to 59 (fun u n0 z w2 => ∃ p c, u = .slice p M.length c ∧ n0 = .int .i64 (M.length : Int) ∧ z = .int .i64 0 ∧ Hid (Ows w2 wr.heap.size (.slice p M.length c) M) ∧ Below wr.heap.size wr w2)
          case first =>
            go_region_with (go_at_call 60; refine ((IHc _ (by first | exact (Below.refl _ wr).drew | exact Below.refl _ wr) (by simp)).out).mono ?_; rintro e w2 ⟨p, c, rfl, o2, b2⟩)
            all_goals
              have b3 : Below wr.heap.size wr w2 := (by first | exact (Below.refl wr.heap.size wr).drew.trans b2 | exact b2)
              first | go_meet | (go_step; go_meet) | (go_step; go_step; go_meet)
              case rel => exact ⟨p, c, rfl, rfl, rfl, Lib.hid o2, b3⟩
          case rest =>
            clear IHc
            obtain ⟨p, c, rfl, rfl, rfl, O2, b3⟩ := hcut
            obtain ⟨w2, rfl⟩ : ∃ x, x = wc := ⟨wc, rfl⟩
            obtain ⟨w0, rfl⟩ : ∃ x, x = wr := ⟨wr, rfl⟩
            have z3 := b3.size
            have hap := HRF.out w2.heap.size
            have ho3 := HO.out.below b3 (Nat.le_refl _)
            have hb3 := HB.out.trans (b3.mono hz)
            clear b3
            go_step
            go_wp2
            go_loopw [7, 47] (fun x i wi => ∃ (j : Nat) (L2 : List (List Int)), j ≤ M.length ∧ i = .int .i64 j ∧ Ows wi w.heap.size x L2 ∧ Hid (L2 = L ++ (M.take j).map (fun y => (k : Int) :: y)) ∧ Apt x w0.heap.size w2.heap.size ∧ Mid w0.heap.size w2.heap.size w2 wi ∧ Below w.heap.size w wi) (fun _ i _ => M.length - (intOf i).toNat)
            case atStart => exact ⟨0, L, Nat.zero_le _, rfl, ho3, Lib.hid (by simp), hap, Mid.refl _ _ _, hb3⟩
            case round =>
              clear ho3 hb3 hap
              obtain ⟨j, L2, hj, rfl, ho4, HL2, hap, hmd, hb4⟩ := hrel
              have z4 := hmd.1
              have z5 := hb4.size
              by_cases hjm : j < M.length
              · obtain ⟨g, rfl, gj, cj, hcj, hoj⟩ := ows_at O2.out hmd hjm
                have hlj := HROW.out (M.getD j []) (by rw [List.getD_eq_getElem?_getD, List.getElem?_eq_getElem hjm]; exact List.getElem_mem hjm)
                have TM := Lib.hid (take_map (fun y => (k : Int) :: y) L M [] hjm)
                have hL2 : L2.length ≤ 531441 := by
                  have := congrArg List.length HL2.out
                  simp only [List.length_append, List.length_map, List.length_take] at this
                  omega
                obtain ⟨R, hR⟩ : ∃ R, M.getD j [] = R := ⟨_, rfl⟩
                rw [hR] at hcj hoj hlj TM
                have hjm2 : (j : Int) < (M.length : Int) := by omega
                clear hR
                have HLJ := Lib.hid hlj
                have hlj6 : R.length ≤ 6 := by first | omega | (simp only [List.length_nil] at hlj; omega)
                clear hlj
                go_wp2_with (first
                  | (go_at_call 69; refine (concat2_pos _ _ _ [(k : Int)] R _ (blk_b wr _ _) ((src_onel wr k).below ((Below.refl _ _).alloc (Nat.le_refl _) _) (Nat.le_refl _)) (hoj.src.below (((Below.refl _ wr).alloc (Nat.le_refl _) _).alloc (by simp) _) (Nat.le_refl _)) (by simp) (by omega) (by simp)).mono ?_; rintro e w5 ⟨u5, rfl, o5, b5⟩; have o6 := o5; obtain ⟨g5, c5, rfl, -, -⟩ := o6.lies; clear o6; have b6 := (((Below.refl wr.heap.size wr).alloc (Nat.le_refl _) _).alloc (by simp) _).trans (b5.mono (by simp; omega)); have z6 := b6.size; clear b5)
                  | (at_builtin; refine wpList_append_rowL rfl _ _ rfl w.heap.size _ L2 rfl ((ho4.below b6 (Nat.le_refl _)).below ((Below.refl _ _).alloc (Nat.le_refl _) _) (Nat.le_refl _)) w5.heap.size _ ((k : Int) :: R) rfl (Boxed.new _ _ _).cell (OwP.mono (o5.below ((Below.refl _ _).alloc (Nat.le_refl _) _) (Nat.le_refl _)) (by simp; omega)) (by omega) (by simp; omega) ?_; intro v7 w7 A7))
                have b8 := b6.alloc z6 (.cells #[.slice (some ⟨g5, 0, none⟩) (R.length + 1) c5] 22)
                have m8 := A7.mid hap (by simp; omega)
                have hmd2 := hmd.trans ((Mid.below b8 (by omega)).trans m8.1)
                have hb8 := hb4.trans ((b8.mono z5).trans A7.bel)
                clear ho4 hmd hb4 b6 b8 o5 hoj
                go_roundw
                case rel =>
                  repeat apply Exists.intro
                  refine ⟨⟨j + 1, L2 ++ [(k : Int) :: R], by omega, by go_num, A7.ows, Lib.hid (by rw [HL2.out]; exact TM.out), m8.2, hmd2, hb8⟩, rfl⟩
                case measure => simp [intOf]; omega
              · obtain rfl : j = M.length := by omega
                have HT2 : Hid (L2 ++ wlF (wl []) n r d (r + 1 - (k + 1)) (k + 1) = T) := Lib.hid (by rw [HL2.out, List.take_length, List.append_assoc]; exact HE.out)
                clear hmd HL2
                go_wp2
                go_roundw
                case rel => exact ⟨k + 1, L2, by omega, by go_num, ho4, HT2, hb4⟩
                case measure => simp [intOf]; omega
        · have IHd : ∀ W, Below wr.heap.size wr W → wr.heap.size ≤ W.heap.size → Hid (Calls Try.prog 60 #[.slice (some ⟨b, off + 1, none⟩) t.length (cap - 1), .int .i64 ((r : Int) - k), .int .i64 (d - P)] W fun e w' => ∃ p c, e = .returned (.slice p M.length c) ∧ Ows w' wr.heap.size (.slice p M.length c) M ∧ Below W.heap.size W w') := fun W hB hz => by
            have := IHc W hB hz
            unfold tailV at this
            rw [if_neg hc1] at this
            exact this
          have hc2 : 1 < cap := by omega
          have hc3 : (1 : Int) ≤ (t.length : Int) + 1 := by omega
          have hc4 : (t.length : Int) + 1 ≤ (cap : Int) := by omega
          have hc5 : (1 : Int) ≤ (cap : Int) := by omega
          have hc6 : ¬ cap - 1 = 0 := by omega
          clear IHc
          go_upto_region 9 with (fail)
          go_cut [45, 46, 47] from 19 to 59 (fun u n0 z w2 => ∃ p c, u = .slice p M.length c ∧ n0 = .int .i64 (M.length : Int) ∧ z = .int .i64 0 ∧ Hid (Ows w2 wr.heap.size (.slice p M.length c) M) ∧ Below wr.heap.size wr w2)
          case first =>
            go_region_with (go_at_call 60; refine ((IHd _ (by first | exact (Below.refl _ wr).drew | exact Below.refl _ wr) (by simp)).out).mono ?_; rintro e w2 ⟨p, c, rfl, o2, b2⟩)
            all_goals
              have b3 : Below wr.heap.size wr w2 := (by first | exact (Below.refl wr.heap.size wr).drew.trans b2 | exact b2)
              first | go_meet | (go_step; go_meet) | (go_step; go_step; go_meet)
              case rel => exact ⟨p, c, rfl, rfl, rfl, Lib.hid o2, b3⟩
          case rest =>
            clear IHd
            obtain ⟨p, c, rfl, rfl, rfl, O2, b3⟩ := hcut
            obtain ⟨w2, rfl⟩ : ∃ x, x = wc := ⟨wc, rfl⟩
            obtain ⟨w0, rfl⟩ : ∃ x, x = wr := ⟨wr, rfl⟩
            have z3 := b3.size
            have hap := HRF.out w2.heap.size
            have ho3 := HO.out.below b3 (Nat.le_refl _)
            have hb3 := HB.out.trans (b3.mono hz)
            clear b3
            go_step
            go_wp2
            go_loopw [7, 47] (fun x i wi => ∃ (j : Nat) (L2 : List (List Int)), j ≤ M.length ∧ i = .int .i64 j ∧ Ows wi w.heap.size x L2 ∧ Hid (L2 = L ++ (M.take j).map (fun y => (k : Int) :: y)) ∧ Apt x w0.heap.size w2.heap.size ∧ Mid w0.heap.size w2.heap.size w2 wi ∧ Below w.heap.size w wi) (fun _ i _ => M.length - (intOf i).toNat)
            case atStart => exact ⟨0, L, Nat.zero_le _, rfl, ho3, Lib.hid (by simp), hap, Mid.refl _ _ _, hb3⟩
            case round =>
              clear ho3 hb3 hap
              obtain ⟨j, L2, hj, rfl, ho4, HL2, hap, hmd, hb4⟩ := hrel
              have z4 := hmd.1
              have z5 := hb4.size
              by_cases hjm : j < M.length
              · obtain ⟨g, rfl, gj, cj, hcj, hoj⟩ := ows_at O2.out hmd hjm
                have hlj := HROW.out (M.getD j []) (by rw [List.getD_eq_getElem?_getD, List.getElem?_eq_getElem hjm]; exact List.getElem_mem hjm)
                have TM := Lib.hid (take_map (fun y => (k : Int) :: y) L M [] hjm)
                have hL2 : L2.length ≤ 531441 := by
                  have := congrArg List.length HL2.out
                  simp only [List.length_append, List.length_map, List.length_take] at this
                  omega
                obtain ⟨R, hR⟩ : ∃ R, M.getD j [] = R := ⟨_, rfl⟩
                rw [hR] at hcj hoj hlj TM
                have hjm2 : (j : Int) < (M.length : Int) := by omega
                clear hR
                have HLJ := Lib.hid hlj
                have hlj6 : R.length ≤ 6 := by first | omega | (simp only [List.length_nil] at hlj; omega)
                clear hlj
                go_wp2_with (first
                  | (go_at_call 69; refine (concat2_pos _ _ _ [(k : Int)] R _ (blk_b wr _ _) ((src_onel wr k).below ((Below.refl _ _).alloc (Nat.le_refl _) _) (Nat.le_refl _)) (hoj.src.below (((Below.refl _ wr).alloc (Nat.le_refl _) _).alloc (by simp) _) (Nat.le_refl _)) (by simp) (by omega) (by simp)).mono ?_; rintro e w5 ⟨u5, rfl, o5, b5⟩; have o6 := o5; obtain ⟨g5, c5, rfl, -, -⟩ := o6.lies; clear o6; have b6 := (((Below.refl wr.heap.size wr).alloc (Nat.le_refl _) _).alloc (by simp) _).trans (b5.mono (by simp; omega)); have z6 := b6.size; clear b5)
                  | (at_builtin; refine wpList_append_rowL rfl _ _ rfl w.heap.size _ L2 rfl ((ho4.below b6 (Nat.le_refl _)).below ((Below.refl _ _).alloc (Nat.le_refl _) _) (Nat.le_refl _)) w5.heap.size _ ((k : Int) :: R) rfl (Boxed.new _ _ _).cell (OwP.mono (o5.below ((Below.refl _ _).alloc (Nat.le_refl _) _) (Nat.le_refl _)) (by simp; omega)) (by omega) (by simp; omega) ?_; intro v7 w7 A7))
                have b8 := b6.alloc z6 (.cells #[.slice (some ⟨g5, 0, none⟩) (R.length + 1) c5] 22)
                have m8 := A7.mid hap (by simp; omega)
                have hmd2 := hmd.trans ((Mid.below b8 (by omega)).trans m8.1)
                have hb8 := hb4.trans ((b8.mono z5).trans A7.bel)
                clear ho4 hmd hb4 b6 b8 o5 hoj
                go_roundw
                case rel => exact ⟨j + 1, L2 ++ [(k : Int) :: R], by omega, by go_num, A7.ows, Lib.hid (by rw [HL2.out]; exact TM.out), m8.2, hmd2, hb8⟩
                case measure => simp [intOf]; omega
              · obtain rfl : j = M.length := by omega
                have HT2 : Hid (L2 ++ wlF (wl t) n r d (r + 1 - (k + 1)) (k + 1) = T) := Lib.hid (by rw [HL2.out, List.take_length, List.append_assoc]; exact HE.out)
                clear hmd HL2
                go_wp2
                go_roundw
                case rel => exact ⟨k + 1, L2, by omega, by go_num, ho4, HT2, hb4⟩
                case measure => simp [intOf]; omega
      · have HZ := Lib.hid (RT hPd)
        have dP : decide (P ≤ d) = false := by simpa using hPd
        clear hP RS RT
        go_wp2
        go_ret
        exact ⟨_, rfl, by have := HL.out; rw [HZ.out, List.append_nil] at this; rwa [← this], hb⟩
    · have HZ := Lib.hid (wlF_stop (F := wl t) (n := n) (r := r) (k := k) (v := d) (.inl hkr))
      have dk : decide ((k : Int) ≤ (r : Int)) = false := by simp; omega
      go_wp2
      go_ret
      exact ⟨_, rfl, by have := HL.out; rw [HZ.out, List.append_nil] at this; rwa [← this], hb⟩
theorem waysI_any : ∀ l : List Int, l.length ≤ 6 → (∀ n ∈ l, 1 ≤ n ∧ n ≤ 500) → WaysI l := by
  intro l
  induction l with
  | nil => intro _ _; exact waysI_nil
  | cons n t ih =>
    intro hl hm
    have hn := hm n (by simp)
    exact waysI_cons n t (by simp at hl; omega) hn.1 hn.2 (ih (by simp at hl; omega) fun a ha => hm a (by simp [ha]))
end Go.Proofs.Ytmllokooceghiaa
