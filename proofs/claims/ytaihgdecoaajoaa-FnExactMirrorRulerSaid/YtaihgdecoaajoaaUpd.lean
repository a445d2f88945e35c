/-
  The run of a ruler, whether it is complete, and whether it is sparse, in the program, by their contracts. Condition: a ruler.
-/
import Derived.Test.YtaihgdecoaajoaaUpc
namespace Go.Proofs.Ytaihgdecoaajoaa
open Go.RowKit

set_option maxHeartbeats 8000000 in
set_option maxRecDepth 20000 in
theorem runOfRuler_any (v : Value) (ms : List Int) (w : World) (h : Sp w v ms) (S : Rul ms) :
    Calls Try.prog 79 #[v] w fun e w' => e = .returned (.int .i64 (rnG ms ((lastM ms).toNat + 1) 0 0)) ∧ Below w.heap.size w w' := by
  have hlb := S.last_bd
  have h2 := S.two
  have HT := Lib.hid S
  have PO := Lib.hid (pairsOf_any v ms w h S)
  have RL := fun W (hb : Below w.heap.size w W) => Lib.hid (rulerLength_any v ms W (h.sv.below hb (Nat.le_refl _)) (by omega) (by omega))
  have CL : Hid (∀ k : Nat, k < 61 → (iA (tm ms))[k]? = some (.int .i64 (tm ms (k : Int)))) := Lib.hid fun k hk => arG_at _ hk
  obtain ⟨C, eC⟩ : ∃ C, iA (tm ms) = C := ⟨_, rfl⟩
  have HCs : Hid (C.size = 61) := Lib.hid (by rw [← eC]; exact iA_size _)
  have HCo : Hid (C.all (·.oneCell') = true) := Lib.hid (by rw [← eC]; exact iA_one _)
  rw [eC] at PO CL
  have RS := Lib.hid (rn_start ms (lastM ms).toNat)
  obtain ⟨R, eR⟩ : ∃ R, rnG ms ((lastM ms).toNat + 1) 0 0 = R := ⟨_, rfl⟩
  rw [eR] at RS ⊢
  obtain ⟨l, el⟩ : ∃ l : Nat, lastM ms = l := ⟨(lastM ms).toNat, by omega⟩
  have hl60 : l ≤ 60 := by omega
  rw [el] at RL
  rw [el, Int.toNat_natCast] at RS
  have TB := Lib.hid (fun n => tm_bd (ms := ms) hlb.2.2 n)
  clear h S eC eR hlb h2 HT el
  go_enter Try.func79, Try.ntmps79
  go_wp2_with fail
  refine PO.out.mono ?_
  rintro e w1 ⟨rfl, b1⟩
  go_wp2_with (refine wpList_store_row rfl 46 _ _ rfl w1.heap.size C rfl rfl 46 litI (by exact heap_alloc_new w1 _) (by rw [HCs.out]; exact Try.prsI) (by rw [HCs.out]; rfl) HCo.out ?_; erw [World.setRow_alloc_new])
  have hb2 : Below w.heap.size w (w1.alloc (.cells C 46)) := b1.alloc b1.size _
  have CV : Hid (∀ k : Nat, k < 61 → (w1.alloc (.cells C 46)).cell? ⟨w1.heap.size, k, none⟩ = some (.int .i64 (tm ms (k : Int)))) := Lib.hid fun k hk => by
    have e := heap_alloc_new w1 (.cells C 46)
    simp only [World.cell?, e, CL.out k hk]
    rfl
  obtain ⟨V, eV⟩ : ∃ V, w1.alloc (.cells C 46) = V := ⟨_, rfl⟩
  rw [eV] at hb2 CV
  have RL := RL V hb2
  have EV := Lib.hid eV
  clear PO CL
  first | rw [eV] | skip
  go_loop [4] (fun x => ∃ k : Nat, k ≤ l ∧ x = .int .i64 k ∧ Hid (R = rnG ms (l - k) (k + 1) (k : Int))) (fun x => l - (intOf x).toNat)
  case atStart => exact ⟨0, Nat.zero_le _, rfl, Lib.hid RS.out⟩
  case round =>
    clear RS
    obtain ⟨k, hk, rfl, HK⟩ := hrel
    by_cases hlt : k < l
    · have hcell := CV.out (k + 1) (by omega)
      have hk1 : ((k + 1 : Nat) : Int) = (k : Int) + 1 := by omega
      rw [hk1] at hcell
      have tb := TB.out ((k : Int) + 1)
      have GO := Lib.hid (rn_go (ms := ms) hlt)
      have ST := Lib.hid (rn_stop (ms := ms) hlt)
      obtain ⟨x, ex⟩ : ∃ x, tm ms ((k : Int) + 1) = x := ⟨_, rfl⟩
      rw [ex] at hcell tb GO ST
      have d1 : decide ((k : Int) < (l : Int)) = true := by rw [decide_eq_true_eq]; omega
      have hi1 : (k : Int) + 1 < 61 := by omega
      have hi0 : (0 : Int) ≤ (k : Int) + 1 := by omega
      have hw : IntKind.i64.wrap ((k : Int) + 1) = (k : Int) + 1 := IntWalk.i64_in _ (by omega)
      have ht : ((k : Int) + 1).toNat = k + 1 := by omega
      clear ex hk1
      by_cases hx : 0 < x
      · have E := Lib.hid (HK.out.trans (GO.out hx))
        have dx : decide (0 < x) = true := by simpa using hx
        go_wp2_with (go_at_call 65; refine RL.out.mono ?_; rintro e w2 ⟨rfl, rfl⟩)
        go_round
        case rel => exact ⟨k + 1, by omega, by go_num, E⟩
        case measure => simp [intOf]; omega
      · have E := Lib.hid (HK.out.trans (ST.out hx tb.1))
        have dx : decide (0 < x) = false := by simpa using hx
        have EE := E.out
        subst EE
        go_wp2_with (go_at_call 65; refine RL.out.mono ?_; rintro e w2 ⟨rfl, rfl⟩)
        go_ret
        exact ⟨rfl, hb2⟩
    · obtain rfl : k = l := by omega
      have EE := HK.out.trans (rn_end ms k)
      subst EE
      have d1 : decide ((k : Int) < (k : Int)) = false := by simp
      go_wp2_with (go_at_call 65; refine RL.out.mono ?_; rintro e w2 ⟨rfl, rfl⟩)
      go_ret
      exact ⟨rfl, hb2⟩

set_option maxHeartbeats 2000000 in
theorem isComplete_any (v : Value) (ms : List Int) (w : World) (h : Sp w v ms) (S : Rul ms) :
    Calls Try.prog 66 #[v] w fun e w' => e = .returned (.bool (okR true ms)) ∧ Below w.heap.size w w' := by
  have hlb := S.last_bd
  have h2 := S.two
  have Q : Hid (okR true ms = (rnG ms ((lastM ms).toNat + 1) 0 0 == lastM ms)) := Lib.hid (by unfold okR; rw [if_pos rfl]; exact comp_run S)
  have RR := Lib.hid (runOfRuler_any v ms w h S)
  have RL := fun W (hb : Below w.heap.size w W) => Lib.hid (rulerLength_any v ms W (h.sv.below hb (Nat.le_refl _)) (by omega) (by omega))
  rw [Q.out]
  obtain ⟨R, eR⟩ : ∃ R, rnG ms ((lastM ms).toNat + 1) 0 0 = R := ⟨_, rfl⟩
  obtain ⟨l, el⟩ : ∃ l, lastM ms = l := ⟨_, rfl⟩
  rw [eR] at RR ⊢
  rw [el] at RL ⊢
  clear h S Q eR el
  go_enter Try.func66, Try.ntmps66
  go_wp2_with fail
  refine RR.out.mono ?_
  rintro e w1 ⟨rfl, b1⟩
  go_wp2_with fail
  refine (RL _ b1).out.mono ?_
  rintro e w2 ⟨rfl, rfl⟩
  go_wp2_with fail
  go_ret
  exact ⟨rfl, b1⟩

/-- What stands in the first k numbers the greatest. -/
def MaxTo (ys : List Int) (k : Nat) (m : Int) : Prop := (∀ j, j < k → ys.getD j 0 ≤ m) ∧ ∃ j, j < k ∧ ys.getD j 0 = m
theorem MaxTo.less {ys : List Int} {k : Nat} {m x : Int} (h : MaxTo ys k m) (hx : ys.getD k 0 = x) (hm : m ≤ x) : MaxTo ys (k + 1) x :=
  ⟨fun j hj => by
    by_cases e : j = k
    · subst e; omega
    · have := h.1 j (by omega); omega, k, by omega, hx⟩
theorem MaxTo.more {ys : List Int} {k : Nat} {m x : Int} (h : MaxTo ys k m) (hx : ys.getD k 0 = x) (hm : x ≤ m) : MaxTo ys (k + 1) m :=
  ⟨fun j hj => by
    by_cases e : j = k
    · subst e; omega
    · exact h.1 j (by omega), by obtain ⟨j, hj, e⟩ := h.2; exact ⟨j, by omega, e⟩⟩
set_option maxHeartbeats 4000000 in
set_option maxRecDepth 20000 in
theorem max_any (v : Value) (ys : List Int) (w : World) (h : Sv w v ys) (h1 : 1 ≤ ys.length) (hl : ys.length ≤ 1099511627776) :
    Calls Try.prog 86 #[v] w fun e w' => (∃ m, e = .returned (.int .i64 m) ∧ MaxTo ys ys.length m) ∧ w' = w := by
  obtain ⟨p, cap, rfl, hx⟩ := h
  obtain ⟨b, off, rfl, hbl, hc⟩ := hx (by omega)
  have HC := Lib.hid hc
  have hc0 := hc 0 (by omega)
  rw [Nat.add_zero] at hc0
  obtain ⟨m0, e0⟩ : ∃ m0, ys.getD 0 0 = m0 := ⟨_, rfl⟩
  rw [e0] at hc0
  have M0 : Hid (MaxTo ys 1 m0) := Lib.hid ⟨fun j hj => by obtain rfl : j = 0 := by omega
                                                           rw [e0]; exact Int.le_refl _, 0, by omega, e0⟩
  clear hx hc e0
  go_enter Try.func86, Try.ntmps86
  go_wp2
  go_loop [3, 4] (fun z x => ∃ (k : Nat) (m : Int), 1 ≤ k ∧ k ≤ ys.length ∧ x = .int .i64 k ∧ z = .int .i64 m ∧ Hid (MaxTo ys k m)) (fun _ x => ys.length - (intOf x).toNat)
  case atStart => exact ⟨1, m0, by omega, h1, rfl, rfl, M0⟩
  case round =>
    clear M0 hc0
    obtain ⟨k, m, hk1, hk, rfl, rfl, HK⟩ := hrel
    by_cases hlt : k < ys.length
    · have hcell := HC.out k hlt
      obtain ⟨x, ex⟩ : ∃ x, ys.getD k 0 = x := ⟨_, rfl⟩
      rw [ex] at hcell
      have LE := Lib.hid (HK.out.less ex)
      have MO := Lib.hid (HK.out.more ex)
      clear ex
      by_cases hmx : m ≤ x
      · have E := Lib.hid (LE.out hmx)
        have e1 : max m x = x := by omega
        go_wp2
        go_round
        case rel => exact ⟨k + 1, x, by omega, by omega, by go_num, by first | rfl | rw [e1], E⟩
        case measure => simp [intOf]; omega
      · have E := Lib.hid (MO.out (by omega))
        have e1 : max m x = m := by omega
        go_wp2
        go_round
        case rel => exact ⟨k + 1, m, by omega, by omega, by go_num, by first | rfl | rw [e1], E⟩
        case measure => simp [intOf]; omega
    · obtain rfl : k = ys.length := by omega
      go_wp2
      go_ret
      exact ⟨⟨_, rfl, HK.out⟩, rfl⟩

set_option maxHeartbeats 4000000 in
set_option maxRecDepth 20000 in
theorem isSparse_any (v : Value) (ms : List Int) (w : World) (h : Sp w v ms) (S : Rul ms) :
    Calls Try.prog 68 #[v] w fun e w' => e = .returned (.bool (spB ms)) ∧ Below w.heap.size w w' := by
  have HT := Lib.hid S
  have PO := Lib.hid (pairsOf_any v ms w h S)
  have CL : Hid (∀ k : Nat, k < 61 → (iA (tm ms))[k]? = some (.int .i64 (tm ms (k : Int)))) := Lib.hid fun k hk => arG_at _ hk
  obtain ⟨C, eC⟩ : ∃ C, iA (tm ms) = C := ⟨_, rfl⟩
  have HCs : Hid (C.size = 61) := Lib.hid (by rw [← eC]; exact iA_size _)
  have HCo : Hid (C.all (·.oneCell') = true) := Lib.hid (by rw [← eC]; exact iA_one _)
  rw [eC] at PO CL
  have TL := tmT_len ms 61
  have MX : Hid (∀ m, MaxTo (tmT ms 61) 61 m → (m == 1) = spB ms) := Lib.hid fun m hm => sp_max S (fun j hj => by have := hm.1 j hj; rwa [tmT_at ms 61 j hj] at this) (by
    obtain ⟨j, hj, e⟩ := hm.2
    rw [tmT_at ms 61 j hj] at e
    exact ⟨j, hj, e⟩)
  have TA := Lib.hid (fun j (hj : j < 61) => tmT_at ms 61 j hj)
  obtain ⟨T, eT⟩ : ∃ T, tmT ms 61 = T := ⟨_, rfl⟩
  rw [eT] at TL MX TA
  clear h S eC eT
  go_enter Try.func68, Try.ntmps68
  go_wp2_with fail
  refine PO.out.mono ?_
  rintro e w1 ⟨rfl, b1⟩
  have hb2 : Below w.heap.size w (w1.alloc (.cells C 46)) := b1.alloc b1.size _
  have SV : Hid (Sv (w1.alloc (.cells C 46)) (.slice (some ⟨w1.heap.size, 0, none⟩) 61 61) T) := Lib.hid (by
    refine ⟨_, _, by rw [TL], fun _ => ⟨w1.heap.size, 0, rfl, by simp, fun j hj => ?_⟩⟩
    have e := heap_alloc_new w1 (.cells C 46)
    rw [Nat.zero_add, TA.out j (by omega)]
    simp only [World.cell?, e, CL.out j (by omega)]
    rfl)
  go_wp2_with (refine wpList_store_row rfl 46 _ _ rfl w1.heap.size C rfl rfl 46 litI (by exact heap_alloc_new w1 _) (by rw [HCs.out]; exact Try.prsI) (by rw [HCs.out]; rfl) HCo.out ?_; erw [World.setRow_alloc_new])
  refine (max_any _ T _ SV.out (by omega) (by omega)).mono ?_
  rintro e w2 ⟨⟨m, rfl, hm⟩, rfl⟩
  rw [TL] at hm
  have Q := Lib.hid (MX.out m hm)
  clear hm MX
  go_wp2_with fail
  go_ret
  exact ⟨ret_bool Q.out, hb2⟩

end Go.Proofs.Ytaihgdecoaajoaa
