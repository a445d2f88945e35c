/-
  IsRuler, LengthsOf, MissingLengths, IsComplete, WaysToMeasure, IsSparse and RunOfRuler in the model, by their contracts. Condition: slices of at most 2^40 numbers.
-/
import Derived.Test.YtaihgdecoaajoaaRwi
namespace Go.Proofs.Ytaihgdecoaajoaa
open Go.RowKit

theorem spB_no {ms : List Int} {k : Nat} (hk : k < (lastM ms).toNat + 1) (h : 1 < tm ms k) : spB ms = false := by
  simp only [spB, decide_eq_false_iff_not]
  intro g
  have := g k hk
  omega
theorem spB_yes {ms : List Int} (h : SpTo ms ((lastM ms).toNat + 1)) : spB ms = true := by simpa [spB] using h
set_option maxHeartbeats 4000000 in
set_option maxRecDepth 20000 in
theorem ruSparse_any (v : Value) (ms : List Int) (w : World) (h : Sp w v ms) (S : Rul ms) :
    Calls Try.prog 67 #[v] w fun e w' => e = .returned (.bool (spB ms)) ∧ Below w.heap.size w w' := by
  have hlb := S.last_bd
  have RT := Lib.hid (ruTimes_any v ms w h S)
  have SN : ∀ k : Nat, k < (lastM ms).toNat + 1 → Hid (1 < tm ms k → spB ms = false) := fun k hk => Lib.hid (spB_no hk)
  have SY : Hid (SpTo ms ((lastM ms).toNat + 1) → spB ms = true) := Lib.hid spB_yes
  obtain ⟨M, eM⟩ : ∃ M : Nat, (lastM ms).toNat = M := ⟨_, rfl⟩
  rw [eM] at RT SY
  have SN : ∀ k : Nat, k < M + 1 → Hid (1 < tm ms k → spB ms = false) := fun k hk => SN k (by omega)
  have hM : M ≤ 60 := by omega
  have hfl := tmT_len ms (M + 1)
  obtain ⟨B, eB⟩ : ∃ B, spB ms = B := ⟨_, rfl⟩
  rw [eB] at SY SN ⊢
  clear eM h S hlb eB
  go_enter Try.func67, Try.ntmps67
  go_wp2_with fail
  refine RT.out.mono ?_
  rintro e w1 ⟨u, rfl, o, a, b2⟩
  obtain ⟨cc, rfl, hlt, hct⟩ := rowOfOw o a
  rw [hfl] at hct ⊢
  clear o a RT
  go_wp2
  go_loop [8] (fun i => ∃ k : Nat, k ≤ M + 1 ∧ i = .int .i64 k ∧ Hid (SpTo ms k)) (fun i => M + 1 - (intOf i).toNat)
  case atStart => exact ⟨0, Nat.zero_le _, rfl, Lib.hid (fun j hj => by omega)⟩
  case round =>
    obtain ⟨k, hk, rfl, HK⟩ := hrel
    by_cases hlt2 : k < M + 1
    · have hcell1 := hct k hlt2
      rw [tmT_at ms (M + 1) k hlt2] at hcell1
      obtain ⟨x, ex⟩ : ∃ x, tm ms k = x := ⟨_, rfl⟩
      have SN := SN k hlt2
      rw [ex] at hcell1 SN
      have EX := Lib.hid ex
      clear hct ex
      by_cases hx : 1 < x
      · have hB := SN.out hx
        subst hB
        go_wp2
        go_ret
        exact ⟨rfl, b2⟩
      · have dx : decide (1 < x) = false := by simpa using hx
        go_wp2
        go_round
        case rel => exact ⟨k + 1, by omega, by go_num, Lib.hid (HK.out.succ (by rw [EX.out]; omega))⟩
        case measure => simp [intOf]; omega
    · have hke : k = M + 1 := by omega
      subst hke
      have hB := SY.out HK.out
      subst hB
      clear hct
      go_wp2
      go_ret
      exact ⟨rfl, b2⟩

set_option maxHeartbeats 4000000 in
set_option maxRecDepth 20000 in
theorem specIsRuler_any (v : Value) (ms : List Int) (w : World) (h : Sp w v ms) (hl : ms.length ≤ 1099511627776) :
    Calls Try.prog 20 #[v] w fun e w' => e = .returned (.bool (rulB ms)) ∧ Below w.heap.size w w' := by
  have RG := Lib.hid (ruGood_any v ms w h.sv hl)
  clear h
  go_enter Try.func20, Try.ntmps20
  go_wp2_with fail
  refine RG.out.mono ?_
  rintro e w1 ⟨rfl, b1⟩
  go_wp2_with fail
  go_ret
  exact ⟨rfl, b1⟩

noncomputable def leR (ms : List Int) : List Int := if rulB ms = true then wiK ms true ((lastM ms).toNat + 1) else []
theorem leR_len (ms : List Int) : (leR ms).length ≤ 1099511627776 := by
  unfold leR
  split
  · rename_i h
    have := (rulB_iff.1 h).last_bd
    have := wiK_len ms true ((lastM ms).toNat + 1)
    omega
  · simp

set_option maxHeartbeats 4000000 in
set_option maxRecDepth 20000 in
theorem specLengthsOf_any (v : Value) (ms : List Int) (w : World) (h : Sp w v ms) (hl : ms.length ≤ 1099511627776) :
    Calls Try.prog 24 #[v] w fun e w' => ∃ u, e = .returned (.tuple #[u, .bool (rulB ms)]) ∧ Ow w' w.heap.size u (leR ms) ∧ Below w.heap.size w w' := by
  have HS := Lib.hid h.sv
  by_cases hg : rulB ms = true
  · have S := rulB_iff.1 hg
    have HT := Lib.hid S
    have HP := Lib.hid h
    have RG := Lib.hid (ruGood_any v ms w HS.out hl)
    rw [hg] at RG
    have Q := Lib.hid (show leR ms = wiK ms true ((lastM ms).toNat + 1) by simp [leR, hg])
    rw [hg]
    clear S h
    go_enter Try.func24, Try.ntmps24
    go_wp2_with fail
    refine RG.out.mono ?_
    rintro e w1 ⟨rfl, b1⟩
    clear RG
    go_wp2_with fail
    refine (ruWith_true _ _ _ (HP.out.below b1 (Nat.le_refl _)) HT.out).mono ?_
    rintro e w2 ⟨u, rfl, o, b2⟩
    have o := o.mono b1.size
    go_wp2_with fail
    go_ret2
    exact ⟨_, rfl, by rw [Q.out]; exact o, nxt b1 b2⟩
  · have hg : rulB ms = false := by simpa using hg
    have Q := Lib.hid (show leR ms = [] by simp [leR, hg])
    rw [hg]
    have RG := Lib.hid (ruGood_any v ms w HS.out hl)
    rw [hg] at RG
    clear h
    go_enter Try.func24, Try.ntmps24
    go_wp2_with fail
    refine RG.out.mono ?_
    rintro e w1 ⟨rfl, b1⟩
    go_wp2_with fail
    go_ret2
    exact ⟨_, rfl, by rw [Q.out]; exact World.ownsRow_nil _ _ _ _, b1⟩

noncomputable def miR (ms : List Int) : List Int := if rulB ms = true then wiK ms false ((lastM ms).toNat + 1) else []
theorem miR_len (ms : List Int) : (miR ms).length ≤ 1099511627776 := by
  unfold miR
  split
  · rename_i h
    have := (rulB_iff.1 h).last_bd
    have := wiK_len ms false ((lastM ms).toNat + 1)
    omega
  · simp

set_option maxHeartbeats 4000000 in
set_option maxRecDepth 20000 in
theorem specMissingLengths_any (v : Value) (ms : List Int) (w : World) (h : Sp w v ms) (hl : ms.length ≤ 1099511627776) :
    Calls Try.prog 30 #[v] w fun e w' => ∃ u, e = .returned (.tuple #[u, .bool (rulB ms)]) ∧ Ow w' w.heap.size u (miR ms) ∧ Below w.heap.size w w' := by
  have HS := Lib.hid h.sv
  by_cases hg : rulB ms = true
  · have S := rulB_iff.1 hg
    have HT := Lib.hid S
    have HP := Lib.hid h
    have RG := Lib.hid (ruGood_any v ms w HS.out hl)
    rw [hg] at RG
    have Q := Lib.hid (show miR ms = wiK ms false ((lastM ms).toNat + 1) by simp [miR, hg])
    rw [hg]
    clear S h
    go_enter Try.func30, Try.ntmps30
    go_wp2_with fail
    refine RG.out.mono ?_
    rintro e w1 ⟨rfl, b1⟩
    clear RG
    go_wp2_with fail
    refine (ruWith_false _ _ _ (HP.out.below b1 (Nat.le_refl _)) HT.out).mono ?_
    rintro e w2 ⟨u, rfl, o, b2⟩
    have o := o.mono b1.size
    go_wp2_with fail
    go_ret2
    exact ⟨_, rfl, by rw [Q.out]; exact o, nxt b1 b2⟩
  · have hg : rulB ms = false := by simpa using hg
    have Q := Lib.hid (show miR ms = [] by simp [miR, hg])
    rw [hg]
    have RG := Lib.hid (ruGood_any v ms w HS.out hl)
    rw [hg] at RG
    clear h
    go_enter Try.func30, Try.ntmps30
    go_wp2_with fail
    refine RG.out.mono ?_
    rintro e w1 ⟨rfl, b1⟩
    go_wp2_with fail
    go_ret2
    exact ⟨_, rfl, by rw [Q.out]; exact World.ownsRow_nil _ _ _ _, b1⟩

noncomputable def icR (ms : List Int) : Bool := rulB ms && decide ((wiK ms false ((lastM ms).toNat + 1)).length = 0)

set_option maxHeartbeats 4000000 in
set_option maxRecDepth 20000 in
theorem specIsComplete_any (v : Value) (ms : List Int) (w : World) (h : Sp w v ms) (hl : ms.length ≤ 1099511627776) :
    Calls Try.prog 32 #[v] w fun e w' => e = .returned (.tuple #[.bool (icR ms), .bool (rulB ms)]) ∧ Below w.heap.size w w' := by
  have HS := Lib.hid h.sv
  by_cases hg : rulB ms = true
  · have S := rulB_iff.1 hg
    have HT := Lib.hid S
    have HP := Lib.hid h
    have RG := Lib.hid (ruGood_any v ms w HS.out hl)
    rw [hg] at RG
    have Q := Lib.hid (show icR ms = decide ((wiK ms false ((lastM ms).toNat + 1)).length = 0) by simp [icR, hg])
    rw [hg]
    clear S h
    go_enter Try.func32, Try.ntmps32
    go_wp2_with fail
    refine RG.out.mono ?_
    rintro e w1 ⟨rfl, b1⟩
    clear RG
    go_wp2_with fail
    refine (ruWith_false _ _ _ (HP.out.below b1 (Nat.le_refl _)) HT.out).mono ?_
    rintro e w2 ⟨u, rfl, o, b2⟩
    obtain ⟨L, eL⟩ : ∃ L, wiK ms false ((lastM ms).toNat + 1) = L := ⟨_, rfl⟩
    rw [eL] at o Q
    obtain ⟨p, cap, rfl, -⟩ := o.sv
    obtain ⟨q, eq⟩ : ∃ q, L.length = q := ⟨_, rfl⟩
    rw [eq] at Q ⊢
    clear o eL eq
    by_cases hq : q = 0
    · subst hq
      go_wp2_with fail
      go_ret2
      exact ⟨ret_bb (by rw [Q.out]; rfl) rfl, nxt b1 b2⟩
    · have dq : ((q : Int) == 0) = false := by rw [beq_eq_false_iff_ne]; omega
      have Q2 := Lib.hid (show icR ms = false by rw [Q.out]; simpa using hq)
      go_wp2_with fail
      go_ret2
      exact ⟨ret_bb Q2.out.symm rfl, nxt b1 b2⟩
  · have hg : rulB ms = false := by simpa using hg
    have Q := Lib.hid (show icR ms = false by simp [icR, hg])
    rw [hg]
    have RG := Lib.hid (ruGood_any v ms w HS.out hl)
    rw [hg] at RG
    clear h
    go_enter Try.func32, Try.ntmps32
    go_wp2_with fail
    refine RG.out.mono ?_
    rintro e w1 ⟨rfl, b1⟩
    go_wp2_with fail
    go_ret2
    exact ⟨ret_bb Q.out.symm rfl, b1⟩

noncomputable def isR (ms : List Int) : Bool := rulB ms && spB ms

set_option maxHeartbeats 4000000 in
set_option maxRecDepth 20000 in
theorem specIsSparse_any (v : Value) (ms : List Int) (w : World) (h : Sp w v ms) (hl : ms.length ≤ 1099511627776) :
    Calls Try.prog 34 #[v] w fun e w' => e = .returned (.tuple #[.bool (isR ms), .bool (rulB ms)]) ∧ Below w.heap.size w w' := by
  have HS := Lib.hid h.sv
  by_cases hg : rulB ms = true
  · have S := rulB_iff.1 hg
    have HT := Lib.hid S
    have HP := Lib.hid h
    have RG := Lib.hid (ruGood_any v ms w HS.out hl)
    rw [hg] at RG
    have Q := Lib.hid (show isR ms = spB ms by simp [isR, hg])
    rw [hg]
    clear S h
    go_enter Try.func34, Try.ntmps34
    go_wp2_with fail
    refine RG.out.mono ?_
    rintro e w1 ⟨rfl, b1⟩
    clear RG
    go_wp2_with fail
    refine (ruSparse_any _ _ _ (HP.out.below b1 (Nat.le_refl _)) HT.out).mono ?_
    rintro e w2 ⟨rfl, b2⟩
    go_wp2_with fail
    go_ret2
    exact ⟨ret_bb Q.out.symm rfl, nxt b1 b2⟩
  · have hg : rulB ms = false := by simpa using hg
    have Q := Lib.hid (show isR ms = false by simp [isR, hg])
    rw [hg]
    have RG := Lib.hid (ruGood_any v ms w HS.out hl)
    rw [hg] at RG
    clear h
    go_enter Try.func34, Try.ntmps34
    go_wp2_with fail
    refine RG.out.mono ?_
    rintro e w1 ⟨rfl, b1⟩
    go_wp2_with fail
    go_ret2
    exact ⟨ret_bb Q.out.symm rfl, b1⟩

end Go.Proofs.Ytaihgdecoaajoaa
