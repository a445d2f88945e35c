/-
  What a clue tells of pieces, and whether they fit it, in the model, by their contracts. Conditions: pieces; a kind of 0 to 5; a sum or length not below 0.
-/
import Derived.Test.YtphjiicdodkfbaaYis
import Derived.Test.YtphjiicdodkfbaaVmu
import Derived.Test.YtphjiicdodkfbaaMade
import Derived.Deep.RegionWith
namespace Go.Proofs.Ytphjiicdodkfbaa
open Go.RowKit

theorem pzAlone_any (k : Int) (w : World) : Calls Try.prog 103 #[.int .i64 k] w fun e w' => e = .returned (.bool (aloB k)) ∧ w = w' := by
  by_cases h : k < 2
  · have e : aloB k = true := by simp [aloB, h]
    rw [e]
    go_enter Try.func103, Try.ntmps103
    go_wp2
    go_ret
    exact ⟨rfl, rfl⟩
  · have e : aloB k = (k == 3) := by simp [aloB, h]
    rw [e]
    go_enter Try.func103, Try.ntmps103
    go_wp2
    go_ret
    exact ⟨rfl, rfl⟩

theorem va0 (a : Int) (xs : List Int) : vaL 0 a xs = xs.length := rfl
theorem va1 (a : Int) (xs : List Int) : vaL 1 a xs = sumP xs := rfl
theorem va2 (a : Int) (xs : List Int) : vaL 2 a xs = min 1 (Wy xs a) := rfl
theorem va3 (a : Int) (xs : List Int) : vaL 3 a xs = runP xs := rfl
theorem va4 (a : Int) (xs : List Int) : vaL 4 a xs = Wy xs a := rfl
theorem va5 (a : Int) (xs : List Int) : vaL 5 a xs = cntL xs a := rfl

set_option maxHeartbeats 4000000 in
theorem pzValue_any (k a : Int) (v : Value) (xs : List Int) (w : World) (h : Sv w v xs) (hg : Good xs) (hk : 0 ≤ k ∧ k ≤ 5) (ha : 0 ≤ a) :
    Calls Try.prog 79 #[.int .i64 k, .int .i64 a, v] w fun e w' => e = .returned (.int .i64 (vaL k a xs)) ∧ Below w.heap.size w w' := by
  have hl := hg.len
  obtain e | e | e | e | e | e := k_cases hk <;> subst e <;> clear hk
  · rw [va0]
    obtain ⟨p, cap, rfl, _⟩ := h
    go_enter Try.func79, Try.ntmps79
    go_wp2
    go_ret
    exact ⟨rfl, Below.refl _ _⟩
  · rw [va1]
    go_enter Try.func79, Try.ntmps79
    go_wp2_with fail
    refine (piSum_any _ _ _ h hg).mono ?_
    rintro e w2 ⟨rfl, rfl⟩
    go_wp2_with fail
    go_ret
    exact ⟨rfl, Below.refl _ _⟩
  · rw [va2]
    go_enter Try.func79, Try.ntmps79
    go_wp2_with fail
    refine (piMake_any _ _ _ _ h hg ha).mono ?_
    rintro e w2 ⟨rfl, b2⟩
    go_wp2_with fail
    refine (least_any _ _ _).mono ?_
    rintro e w3 ⟨rfl, rfl⟩
    go_wp2_with fail
    go_ret
    exact ⟨rfl, b2⟩
  · rw [va3]
    go_enter Try.func79, Try.ntmps79
    go_wp2_with fail
    refine (piRun_any _ _ _ h hg).mono ?_
    rintro e w2 ⟨rfl, rfl⟩
    go_wp2_with fail
    go_ret
    exact ⟨rfl, Below.refl _ _⟩
  · rw [va4]
    go_enter Try.func79, Try.ntmps79
    go_wp2_with fail
    refine (piMake_any _ _ _ _ h hg ha).mono ?_
    rintro e w2 ⟨rfl, b2⟩
    go_wp2_with fail
    go_ret
    exact ⟨rfl, b2⟩
  · rw [va5]
    obtain ⟨p, cap, rfl, hx⟩ := h
    have HX := Lib.hid hx
    have R := Lib.hid (show cntL xs a = cntL xs a from rfl)
    clear hx hg
    generalize hC : cntL xs a = C at *
    have HC := Lib.hid hC
    clear hC R
    go_enter Try.func79, Try.ntmps79
    go_wp2
    go_loop [7, 36] (fun n i => ∃ (j : Nat) (c : Int), j ≤ xs.length ∧ i = .int .i64 j ∧ n = .int .i64 c ∧ 0 ≤ c ∧ c ≤ 20 ∧ Hid (c = cntL (xs.take j) a)) (fun _ i => xs.length - (intOf i).toNat)
    case atStart => exact ⟨0, 0, Nat.zero_le _, rfl, rfl, by omega, by omega, Lib.hid (by simp [cntL])⟩
    case round =>
      obtain ⟨j, c, hj, rfl, rfl, hc0, hc1, HR⟩ := hrel
      by_cases hlt : j < xs.length
      · obtain ⟨b, off, rfl, hbl, hc⟩ := HX.out (by omega)
        have hcell := hc j hlt
        have ST := cntL_step hlt a
        have BD := cntL_bd (xs.take (j + 1)) a
        rw [List.length_take] at BD
        clear hc
        obtain ⟨y, ey⟩ : ∃ y, xs.getD j 0 = y := ⟨_, rfl⟩
        rw [ey] at hcell ST
        clear ey
        by_cases hy : y = a
        · rw [if_pos hy, ← HR.out] at ST
          have d : (y == a) = true := by simpa using hy
          rw [ST] at BD
          have N := Lib.hid ST.symm
          clear ST
          subst hy
          go_wp2
          go_round
          case rel => exact ⟨j + 1, c + 1, by omega, by go_num, by go_num, by omega, by omega, N⟩
          case measure => simp [intOf]; omega
        · rw [if_neg hy, ← HR.out, Int.add_zero] at ST
          have d : (y == a) = false := by simpa using hy
          have N := Lib.hid ST.symm
          clear ST BD hy
          go_wp2
          go_round
          case rel => exact ⟨j + 1, c, by omega, by go_num, rfl, by omega, by omega, N⟩
          case measure => simp [intOf]; omega
      · obtain rfl : j = xs.length := by omega
        have e : c = C := by rw [HR.out, List.take_length]; exact HC.out
        subst e
        go_wp2
        go_ret
        exact ⟨rfl, Below.refl _ _⟩

set_option maxHeartbeats 4000000 in
theorem pzFits_any (k a b : Int) (v : Value) (xs : List Int) (w : World) (h : Sv w v xs) (hg : Good xs) (hc : clB ⟨k, a, b⟩ = true) :
    Calls Try.prog 73 #[.agg #[.int .i64 k, .int .i64 a, .int .i64 b], v] w fun e w' => e = .returned (.bool (fitB ⟨k, a, b⟩ xs)) ∧ Below w.heap.size w w' := by
  have hk := (clB_parts hc).1
  have ha := (clB_a hc).1
  simp only at hk ha
  have b1 : Below w.heap.size w (w.alloc (.cells #[.int .i64 k, .int .i64 a, .int .i64 b] 29)) := (Below.refl _ _).alloc (Nat.le_refl _) _
  obtain ⟨W, eW⟩ : ∃ W, w.alloc (.cells #[.int .i64 k, .int .i64 a, .int .i64 b] 29) = W := ⟨_, rfl⟩
  have ZW : w.heap.size < W.heap.size := by rw [← eW]; simp
  have c1 : W.cell? ⟨w.heap.size, 0, none⟩ = some (.int .i64 k) := by rw [← eW]; simp [go_sem]
  have c2 : W.cell? ⟨w.heap.size, 1, none⟩ = some (.int .i64 a) := by rw [← eW]; simp [go_sem]
  have c3 : W.cell? ⟨w.heap.size, 2, none⟩ = some (.int .i64 b) := by rw [← eW]; simp [go_sem]
  rw [eW] at b1
  have HS := Lib.hid (h.below b1 (Nat.le_refl _))
  have PV := fun (q : Int) (hq : 0 ≤ q) (W' : World) (hb : Below W.heap.size W W') => Lib.hid (pzValue_any k q v xs W' (HS.out.below hb (Nat.le_refl _)) hg hk hq)
  have CC := fun (W' : World) (hb : Below W.heap.size W W') => Lib.hid (show W'.cell? ⟨w.heap.size, 0, none⟩ = some (.int .i64 k) ∧ W'.cell? ⟨w.heap.size, 1, none⟩ = some (.int .i64 a) ∧ W'.cell? ⟨w.heap.size, 2, none⟩ = some (.int .i64 b) from
    ⟨(hb.cell (p := ⟨w.heap.size, 0, none⟩) ZW).trans c1, (hb.cell (p := ⟨w.heap.size, 1, none⟩) ZW).trans c2, (hb.cell (p := ⟨w.heap.size, 2, none⟩) ZW).trans c3⟩)
  have HF : Hid (fitB ⟨k, a, b⟩ xs = if aloB k = true then vaL k 0 xs == a else vaL k a xs == b) := Lib.hid rfl
  clear h hg hc
  cases hA : aloB k
  · have HR : Hid (fitB ⟨k, a, b⟩ xs = (vaL k a xs == b)) := Lib.hid (by rw [HF.out, hA]; simp)
    generalize fitB ⟨k, a, b⟩ xs = R at *
    obtain ⟨V, eV⟩ : ∃ V, vaL k a xs = V := ⟨_, rfl⟩
    rw [eV] at HR
    have HV := Lib.hid eV
    clear eV HF
    go_enter Try.func73, Try.ntmps73
    go_wp2_with fail
    clear eW
    refine (pzAlone_any _ _).mono ?_
    rintro e w2 ⟨rfl, rfl⟩
    rw [hA]
    go_wp2_with fail
    go_region_with (go_at_call 79; refine ((PV a ha _ (by first | exact (Below.refl _ W).drew | exact Below.refl _ W)).out).mono ?_; rintro e w2 ⟨rfl, b2⟩; rw [HV.out]; have K2 := (CC w2 (by first | exact (Below.refl _ W).drew.trans b2 | exact b2)).out; obtain ⟨k1, k2, k3⟩ := K2)
    all_goals
      have b3 : Below W.heap.size W w2 := (by first | exact (Below.refl _ W).drew.trans b2 | exact b2)
      go_wp2
      go_ret
      exact ⟨by rw [HR.out]; rfl, b1.trans (b3.mono (by omega))⟩
  · have HR : Hid (fitB ⟨k, a, b⟩ xs = (vaL k 0 xs == a)) := Lib.hid (by rw [HF.out, hA]; simp)
    generalize fitB ⟨k, a, b⟩ xs = R at *
    obtain ⟨V, eV⟩ : ∃ V, vaL k 0 xs = V := ⟨_, rfl⟩
    rw [eV] at HR
    have HV := Lib.hid eV
    clear eV HF
    go_enter Try.func73, Try.ntmps73
    go_wp2_with fail
    clear eW
    refine (pzAlone_any _ _).mono ?_
    rintro e w2 ⟨rfl, rfl⟩
    rw [hA]
    go_wp2_with fail
    go_region_with (go_at_call 79; refine ((PV 0 (by omega) _ (by first | exact (Below.refl _ W).drew | exact Below.refl _ W)).out).mono ?_; rintro e w2 ⟨rfl, b2⟩; rw [HV.out]; have K2 := (CC w2 (by first | exact (Below.refl _ W).drew.trans b2 | exact b2)).out; obtain ⟨k1, k2, k3⟩ := K2)
    all_goals
      have b3 : Below W.heap.size W w2 := (by first | exact (Below.refl _ W).drew.trans b2 | exact b2)
      go_wp2
      go_ret
      exact ⟨by rw [HR.out]; rfl, b1.trans (b3.mono (by omega))⟩
end Go.Proofs.Ytphjiicdodkfbaa
