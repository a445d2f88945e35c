/-
  Whether pieces fit all clues, in the program, and DoesFit in the model and in the program, by their contracts. Conditions: pieces, clues.
-/
import Derived.Test.YtphjiicdodkfbaaYab
import Derived.Deep.RegionHeld3
namespace Go.Proofs.Ytphjiicdodkfbaa
open Go.RowKit

set_option maxHeartbeats 8000000 in
theorem fitsAll_any (v u : Value) (xs : List Int) (cs : List Cl) (w : World) (h : Sv w v xs) (hg : Good xs) (hu : Cv w u cs) (hc : ∀ c ∈ cs, clB c = true) (hl : cs.length ≤ 1099511627776) :
    Calls Try.prog 74 #[v, u] w fun e w' => e = .returned (.bool (fitA cs xs)) ∧ Below w.heap.size w w' := by
  obtain ⟨p, cap, rfl, _, _, hx⟩ := hu
  have HX := Lib.hid hx
  have HS := Lib.hid h
  have HG := Lib.hid hg
  have HC := Lib.hid hc
  clear hx h hg hc
  go_enter Try.func74, Try.ntmps74
  go_wp2
  go_loopw [9] (fun i wr => ∃ k : Nat, k ≤ cs.length ∧ i = .int .i64 k ∧ Hid (fitA (cs.take k) xs = true) ∧ Below w.heap.size w wr) (fun i _ => cs.length - (intOf i).toNat)
  case atStart => exact ⟨0, Nat.zero_le _, rfl, Lib.hid rfl, Below.refl _ _⟩
  case round =>
    obtain ⟨k, hk, rfl, HA, hb⟩ := hrel
    by_cases hlt : k < cs.length
    · obtain ⟨b, off, rfl, hbl, hc⟩ := HX.out (by omega)
      obtain ⟨h1, h2, h3⟩ := hc k hlt
      have g1 : wr.cell? ⟨b, off + k * 3, none⟩ = _ := (hb.cell (p := ⟨b, off + k * 3, none⟩) hbl).trans h1
      have g2 : wr.cell? ⟨b, off + k * 3 + 1, none⟩ = _ := (hb.cell (p := ⟨b, off + k * 3 + 1, none⟩) hbl).trans h2
      have g3 : wr.cell? ⟨b, off + k * 3 + 2, none⟩ = _ := (hb.cell (p := ⟨b, off + k * 3 + 2, none⟩) hbl).trans h3
      clear hc h1 h2 h3
      have hB := HC.out _ (List.getElem_mem hlt)
      have FS := fitA_step hlt xs
      have FN := fun h => fitA_no hlt (xs := xs) h
      rw [HA.out, Bool.true_and] at FS
      rw [← cA_of hlt] at hB FS FN
      have AB := ab_eq (cA cs k) xs hB
      have hk5 := (clB_parts hB).1
      have ha24 := clB_a hB
      generalize eA : (cA cs k).k = K at g1 hk5 AB
      generalize eB : (cA cs k).a = A at g2 ha24 AB
      generalize eC : (cA cs k).b = B at g3
      have CA := fun W' (hb' : Below w.heap.size w W') => Lib.hid (clueAbout_any K A v xs W' (HS.out.below hb' (Nat.le_refl _)) HG.out hk5 ha24.1 (by omega))
      have AB2 : eqC (abL K A xs) ⟨K, A, B⟩ = fitB (cA cs k) xs := by rw [← AB, ← eA, ← eB, ← eC]
      clear AB eA eB eC hB
      have HFS := Lib.hid FS
      have HFN := Lib.hid FN
      clear FS FN
      generalize fitB (cA cs k) xs = R at *
      generalize abL K A xs = D at *
      obtain ⟨D1, D2, D3⟩ := D
      simp only at CA
      have HAB := Lib.hid AB2
      clear AB2
      have b1 : Below w.heap.size w (wr.alloc (.cells #[.int .i64 K, .int .i64 A, .int .i64 B] 29)) := hb.alloc hb.size _
      have z0 := hb.size
      obtain ⟨W, eW⟩ : ∃ W, wr.alloc (.cells #[.int .i64 K, .int .i64 A, .int .i64 B] 29) = W := ⟨_, rfl⟩
      have ZW : wr.heap.size < W.heap.size := by rw [← eW]; simp
      have c1 : W.cell? ⟨wr.heap.size, 0, none⟩ = some (.int .i64 K) := by rw [← eW]; simp [go_sem]
      have c2 : W.cell? ⟨wr.heap.size, 1, none⟩ = some (.int .i64 A) := by rw [← eW]; simp [go_sem]
      have c3 : W.cell? ⟨wr.heap.size, 2, none⟩ = some (.int .i64 B) := by rw [← eW]; simp [go_sem]
      rw [eW] at b1
      have HB1 := Lib.hid b1
      have CC := fun (W' : World) (hb : Below W.heap.size W W') => Lib.hid (show W'.cell? ⟨wr.heap.size, 0, none⟩ = some (.int .i64 K) ∧ W'.cell? ⟨wr.heap.size, 1, none⟩ = some (.int .i64 A) ∧ W'.cell? ⟨wr.heap.size, 2, none⟩ = some (.int .i64 B) from
        ⟨(hb.cell (p := ⟨wr.heap.size, 0, none⟩) ZW).trans c1, (hb.cell (p := ⟨wr.heap.size, 1, none⟩) ZW).trans c2, (hb.cell (p := ⟨wr.heap.size, 2, none⟩) ZW).trans c3⟩)
      by_cases e1 : D1 = K
      · by_cases e2 : D2 = A
        · by_cases e3 : D3 = B
          · subst e1 e2 e3
            have N : Hid (fitA (cs.take (k + 1)) xs = true) := Lib.hid (by rw [HFS.out, ← HAB.out]; simp [eqC])
            clear HFS HFN HAB HA
            go_wp2_with fail
            clear eW g1 g2 g3
            go_region_with (go_at_call 95; refine ((CA _ (by first | exact HB1.out.drew | exact HB1.out)).out).mono ?_; rintro e w2 ⟨rfl, b2⟩; obtain ⟨k1, k2, k3⟩ := (CC w2 (by first | exact (Below.refl _ W).drew.trans b2 | exact b2)).out)
            all_goals
              have b3 : Below W.heap.size W w2 := (by first | exact (Below.refl _ W).drew.trans b2 | exact b2)
              have hb3 := HB1.out.trans (b3.mono (by omega))
              clear b2 b3 k1 k2 k3
              go_wp2
              go_roundw
              case rel => exact ⟨k + 1, by omega, by go_num, N, hb3⟩
              case measure => simp [intOf]; omega
          · have N : Hid (fitA cs xs = false) := Lib.hid (HFN.out (by rw [← HAB.out]; simp [eqC, e3]))
            clear HFS HFN HAB HA
            go_wp2_with fail
            clear eW g1 g2 g3
            go_region_with (go_at_call 95; refine ((CA _ (by first | exact HB1.out.drew | exact HB1.out)).out).mono ?_; rintro e w2 ⟨rfl, b2⟩; obtain ⟨k1, k2, k3⟩ := (CC w2 (by first | exact (Below.refl _ W).drew.trans b2 | exact b2)).out)
            all_goals
              have b3 : Below W.heap.size W w2 := (by first | exact (Below.refl _ W).drew.trans b2 | exact b2)
              have hb3 := HB1.out.trans (b3.mono (by omega))
              clear b2 b3 k1 k2 k3
              go_wp2
              go_ret
              exact ⟨by rw [N.out]; rfl, hb3⟩
        · have N : Hid (fitA cs xs = false) := Lib.hid (HFN.out (by rw [← HAB.out]; simp [eqC, e2]))
          clear HFS HFN HAB HA
          go_wp2_with fail
          clear eW g1 g2 g3
          go_region_with (go_at_call 95; refine ((CA _ (by first | exact HB1.out.drew | exact HB1.out)).out).mono ?_; rintro e w2 ⟨rfl, b2⟩; obtain ⟨k1, k2, k3⟩ := (CC w2 (by first | exact (Below.refl _ W).drew.trans b2 | exact b2)).out)
          all_goals
            have b3 : Below W.heap.size W w2 := (by first | exact (Below.refl _ W).drew.trans b2 | exact b2)
            have hb3 := HB1.out.trans (b3.mono (by omega))
            clear b2 b3 k1 k2 k3
            go_wp2
            go_ret
            exact ⟨by rw [N.out]; rfl, hb3⟩
      · have N : Hid (fitA cs xs = false) := Lib.hid (HFN.out (by rw [← HAB.out]; simp [eqC, e1]))
        clear HFS HFN HAB HA
        go_wp2_with fail
        clear eW g1 g2 g3
        go_region_with (go_at_call 95; refine ((CA _ (by first | exact HB1.out.drew | exact HB1.out)).out).mono ?_; rintro e w2 ⟨rfl, b2⟩; obtain ⟨k1, k2, k3⟩ := (CC w2 (by first | exact (Below.refl _ W).drew.trans b2 | exact b2)).out)
        all_goals
          have b3 : Below W.heap.size W w2 := (by first | exact (Below.refl _ W).drew.trans b2 | exact b2)
          have hb3 := HB1.out.trans (b3.mono (by omega))
          clear b2 b3 k1 k2 k3
          go_wp2
          go_ret
          exact ⟨by rw [N.out]; rfl, hb3⟩
    · obtain rfl : k = cs.length := by omega
      have R := Lib.hid (show fitA cs xs = true by have := HA.out; rwa [List.take_length] at this)
      clear HA
      go_wp2
      go_ret
      exact ⟨by rw [R.out]; rfl, hb⟩
end Go.Proofs.Ytphjiicdodkfbaa
