/-
  GreedyChange and GreedyCount in the model and in the program, by their contracts. Condition: slices of at most 2^40 numbers.
-/
import Derived.Test.YtdgadabfahmdmaaVgm
namespace Go.Proofs.Ytdgadabfahmdmaa
open Go.RowKit

noncomputable def gcB (xs : List Int) (a : Int) : Bool := askC xs a && decide ((gr (nL xs) a.toNat).2 = 0)
noncomputable def gcL (xs : List Int) (a : Int) : List Nat := if gcB xs a = true then (gr (nL xs) a.toNat).1 else []
noncomputable def gcR (xs : List Int) (a : Int) : List Int := iL (gcL xs a)
noncomputable def gkR (xs : List Int) (a : Int) : Int := (tot (gcL xs a) : Nat)
theorem gcB_no {xs : List Int} {a : Int} (h : askC xs a = false) : gcB xs a = false := by simp [gcB, h]
theorem gcL_no {xs : List Int} {a : Int} (h : gcB xs a = false) : gcL xs a = [] := by simp [gcL, h]
theorem gcR_no {xs : List Int} {a : Int} (h : gcB xs a = false) : gcR xs a = [] := by simp [gcR, gcL_no h, iL]
theorem gkR_no {xs : List Int} {a : Int} (h : gcB xs a = false) : gkR xs a = 0 := by simp [gkR, gcL_no h, tot]
theorem gcB_of {cs : List Nat} {n : Nat} (h : Cn cs) (hn : n ≤ 20000) : gcB (iL cs) n = decide ((gr cs n).2 = 0) := by
  simp [gcB, askC_of h hn, nL_iL]
theorem gcL_of {cs : List Nat} {n : Nat} (h : Cn cs) (hn : n ≤ 20000) (hf : (gr cs n).2 = 0) : gcL (iL cs) n = (gr cs n).1 := by
  simp [gcL, gcB_of h hn, hf, nL_iL]
theorem gcL_tot (xs : List Int) (a : Int) (h : cnsB xs = true) : tot (gcL xs a) ≤ a.toNat := by
  unfold gcL
  split
  · obtain ⟨cs, rfl, hc⟩ := cn_of h
    rw [nL_iL]; exact gr_tot hc.pos _
  · simp [tot]
theorem gcL_len (xs : List Int) (a : Int) : (gcL xs a).length ≤ xs.length := by
  unfold gcL
  split
  · rw [gr_len]; simp [nL]
  · simp
theorem gcR_len (xs : List Int) (a : Int) (h : xs.length ≤ 1099511627776) : (gcR xs a).length ≤ 1099511627776 := by
  unfold gcR; rw [iL_len]; exact Nat.le_trans (gcL_len xs a) h

set_option maxHeartbeats 2000000 in
theorem specGreedyChange_any (v : Value) (xs : List Int) (a : Int) (w : World) (h : Sp w v xs) (hl : xs.length ≤ 1099511627776) :
    Calls Try.prog 22 #[v, .int .i64 a] w fun e w' => ∃ u, e = .returned (.tuple #[u, .bool (gcB xs a)]) ∧ Ow w' w.heap.size u (gcR xs a) ∧ Below w.heap.size w w' := by
  by_cases hq : askC xs a = true
  · obtain ⟨cs, n, rfl, hc, rfl, hn⟩ := askC_yes hq
    have CA := Lib.hid (cnAsked_any v (iL cs) n w h.sv hl)
    have CG := fun w' (hb : Below w.heap.size w w') => Lib.hid (cnGreedy_any v cs n w' ((h.below hb (Nat.le_refl _)).sv) hc.pos (by have := hc.eight; omega) (by omega))
    rw [hq] at CA
    have HB := Lib.hid (gcB_of hc hn)
    by_cases hz : (gr cs n).2 = 0
    · have HR : Hid (gcR (iL cs) n = iL (gr cs n).1) := Lib.hid (by unfold gcR; rw [gcL_of hc hn hz])
      have dz : decide ((gr cs n).2 = 0) = true := by simpa using hz
      rw [dz] at CG HB
      clear h hl hc hq hz dz
      go_enter Try.func22, Try.ntmps22
      go_wp2_with fail
      refine CA.out.mono ?_
      rintro e w1 ⟨rfl, b1⟩
      go_wp2_with fail
      refine (CG w1 b1).out.mono ?_
      rintro e w2 ⟨u, rfl, ho, b2⟩
      have z1 := b1.size
      go_wp2_with fail
      go_ret2
      exact ⟨_, ret_lb rfl HB.out.symm, by rw [HR.out]; exact ho.mono z1, nxt b1 b2⟩
    · have dz : decide ((gr cs n).2 = 0) = false := by simpa using hz
      rw [dz] at CG HB
      have HR := Lib.hid (gcR_no HB.out)
      clear h hl hc hq hz dz
      go_enter Try.func22, Try.ntmps22
      go_wp2_with fail
      refine CA.out.mono ?_
      rintro e w1 ⟨rfl, b1⟩
      go_wp2_with fail
      refine (CG w1 b1).out.mono ?_
      rintro e w2 ⟨u, rfl, ho, b2⟩
      go_wp2_with fail
      go_ret2
      exact ⟨_, ret_lb rfl HB.out.symm, by rw [HR.out]; exact ow_nil _ _, nxt b1 b2⟩
  · have hq : askC xs a = false := by simpa using hq
    have CA := Lib.hid (cnAsked_any v xs a w h.sv hl)
    rw [hq] at CA
    have HB := Lib.hid (gcB_no hq)
    have HR := Lib.hid (gcR_no (gcB_no hq))
    go_enter Try.func22, Try.ntmps22
    go_wp2_with fail
    refine CA.out.mono ?_
    rintro e w1 ⟨rfl, b1⟩
    go_wp2_with fail
    go_ret2
    exact ⟨_, ret_lb rfl HB.out.symm, by rw [HR.out]; exact ow_nil _ _, b1⟩

set_option maxHeartbeats 2000000 in
theorem specGreedyCount_any (v : Value) (xs : List Int) (a : Int) (w : World) (h : Sp w v xs) (hl : xs.length ≤ 1099511627776) :
    Calls Try.prog 26 #[v, .int .i64 a] w fun e w' => e = .returned (.tuple #[.int .i64 (gkR xs a), .bool (gcB xs a)]) ∧ Below w.heap.size w w' := by
  have GC := Lib.hid (specGreedyChange_any v xs a w h hl)
  by_cases hb : gcB xs a = true
  · have hq : askC xs a = true := by simp only [gcB, Bool.and_eq_true] at hb; exact hb.1
    have hcn : cnsB xs = true := by simp only [askC, Bool.and_eq_true] at hq; exact hq.1
    have ham : amB a = true := by simp only [askC, Bool.and_eq_true] at hq; exact hq.2
    have h20 := (amB_iff.1 ham).2
    have ht := gcL_tot xs a hcn
    have hll := gcL_len xs a
    have HG : Hid (gkR xs a = (tot (gcL xs a) : Nat)) := Lib.hid rfl
    have PS := fun (u : Value) (w' : World) (hs : Sv w' u (iL (gcL xs a))) => Lib.hid (piSum_any u (gcL xs a) w' hs (by omega) (by omega))
    have HR : Hid (gcR xs a = iL (gcL xs a)) := Lib.hid rfl
    rw [hb] at GC ⊢
    clear hq hcn ham h20 ht hll
    go_enter Try.func26, Try.ntmps26
    go_wp2_with fail
    refine GC.out.mono ?_
    rintro e w1 ⟨u, rfl, ho, b1⟩
    rw [HR.out] at ho
    have P1 := PS u w1 ho.sv
    go_wp2_with fail
    refine P1.out.mono ?_
    rintro e w2 ⟨rfl, rfl⟩
    go_wp2_with fail
    go_ret2
    exact ⟨ret_ib HG.out.symm rfl, b1⟩
  · have hb : gcB xs a = false := by simpa using hb
    have HG := Lib.hid (gkR_no hb)
    rw [hb] at GC ⊢
    go_enter Try.func26, Try.ntmps26
    go_wp2_with fail
    refine GC.out.mono ?_
    rintro e w1 ⟨u, rfl, ho, b1⟩
    go_wp2_with fail
    go_ret2
    exact ⟨ret_ib HG.out.symm rfl, b1⟩

set_option maxHeartbeats 4000000 in
theorem implGreedyChange_any (v : Value) (xs : List Int) (a : Int) (w : World) (h : Sp w v xs) (hl : xs.length ≤ 1099511627776) :
    Calls Try.prog 23 #[v, .int .i64 a] w fun e w' => ∃ u, e = .returned (.tuple #[u, .bool (gcB xs a)]) ∧ Ow w' w.heap.size u (gcR xs a) ∧ Below w.heap.size w w' := by
  have hmf : ∀ (fn : Fn) (first cap : Array Value) (w : World), (Instr.makeFunc fn first cap).run Try.prog w = .ok (.func fn first cap) w := fun _ _ _ _ => rfl
  have hv := h
  obtain ⟨b, off, cap, rfl, hcap, hcm, hbl, hcl⟩ := h
  have B1 : Below w.heap.size w (w.alloc (.cells #[.slice (some ⟨b, off, none⟩) xs.length cap] 22)) := (Below.refl _ w).alloc (Nat.le_refl _) _
  have AC := Lib.hid (areCoins_any _ xs (w.alloc (.cells #[.slice (some ⟨b, off, none⟩) xs.length cap] 22)) ((hv.below B1 (Nat.le_refl _)).sv) hl)
  have IA := Lib.hid (isAmount_any a (w.alloc (.cells #[.slice (some ⟨b, off, none⟩) xs.length cap] 22)))
  by_cases hc : cnsB xs = true
  · by_cases ha : amB a = true
    · have hq : askC xs a = true := by simp [askC, hc, ha]
      obtain ⟨cs, n, rfl, hc', rfl, hn⟩ := askC_yes hq
      rw [hc] at AC
      rw [ha] at IA
      have hbox := Boxed.new w 22 (.slice (some ⟨b, off, none⟩) (iL cs).length cap)
      have hlen := iL_len cs
      have h8 := hc'.eight
      have CO := Lib.hid (countOutG_any (w.alloc (.cells #[.slice (some ⟨b, off, none⟩) (iL cs).length cap] 22)) b off cap cs n (.pointer (some ⟨w.heap.size, 0, none⟩)) (gstep cs) (by simp; omega)
        (fun j hj => by rw [B1.cell (p := ⟨b, off + j, none⟩) hbl, ← iL_at]; exact hcl j (by omega)) hc'.pos (by omega) (by omega) (gstep_ok cs n)
        (fun l W hW h0 hl => gnext_any w.heap.size l cap b off cs W (boxed_keep hbox hW) (by have := hW.size; simp at this; omega)
          (fun j hj => by rw [hW.cell (p := ⟨b, off + j, none⟩) (by show b < _; simp; omega), B1.cell (p := ⟨b, off + j, none⟩) hbl]; exact hcl j hj) hc'.pos h8 (by omega)))
      rw [coB_gr hc', coR_gr hc'] at CO
      have HB := Lib.hid (gcB_of hc' hn)
      have HR : Hid (iL (if (gr cs n).2 = 0 then (gr cs n).1 else []) = gcR (iL cs) n) := Lib.hid (by
        by_cases hz : (gr cs n).2 = 0
        · rw [if_pos hz]; unfold gcR; rw [gcL_of hc' hn hz]
        · rw [if_neg hz, gcR_no (by rw [HB.out]; simpa using hz)]; rfl)
      rw [HR.out] at CO
      rw [hlen] at AC IA CO ⊢
      clear hcap hcm hcl hv hl hc ha hq hc' hbox hlen B1 h8
      go_enter Try.func23, Try.ntmps23
      go_wp2_with (first | (go_at_call 20; refine AC.out.mono ?_; rintro e w' ⟨rfl, rfl⟩) | (go_at_call 55; refine IA.out.mono ?_; rintro e w' ⟨rfl, rfl⟩))
      refine CO.out.mono ?_
      rintro e w2 ⟨u, rfl, ho, b2⟩
      go_wp2_with fail
      go_ret2
      refine ⟨_, ret_lb rfl HB.out.symm, ho.mono (by simp), ((Below.refl _ w).alloc (Nat.le_refl _) _).trans (b2.mono (by simp))⟩
    · have ha : amB a = false := by simpa using ha
      have HB := Lib.hid (gcB_no (askC_out (xs := xs) ha))
      have HR := Lib.hid (gcR_no (gcB_no (askC_out (xs := xs) ha)))
      rw [hc] at AC
      rw [ha] at IA
      clear hcap hcm hcl hv hl hc ha
      go_enter Try.func23, Try.ntmps23
      go_wp2_with (first | (go_at_call 20; refine AC.out.mono ?_; rintro e w' ⟨rfl, rfl⟩) | (go_at_call 55; refine IA.out.mono ?_; rintro e w' ⟨rfl, rfl⟩))
      go_ret2
      exact ⟨_, ret_lb rfl HB.out.symm, by rw [HR.out]; exact ow_nil _ _, B1⟩
  · have hc : cnsB xs = false := by simpa using hc
    have HB := Lib.hid (gcB_no (askC_no (a := a) hc))
    have HR := Lib.hid (gcR_no (gcB_no (askC_no (a := a) hc)))
    rw [hc] at AC
    clear hcap hcm hcl hv hl hc
    go_enter Try.func23, Try.ntmps23
    go_wp2_with (go_at_call 20; refine AC.out.mono ?_; rintro e w' ⟨rfl, rfl⟩)
    go_ret2
    exact ⟨_, ret_lb rfl HB.out.symm, by rw [HR.out]; exact ow_nil _ _, B1⟩

set_option maxHeartbeats 4000000 in
theorem implGreedyCount_any (v : Value) (xs : List Int) (a : Int) (w : World) (h : Sp w v xs) (hl : xs.length ≤ 1099511627776) :
    Calls Try.prog 27 #[v, .int .i64 a] w fun e w' => e = .returned (.tuple #[.int .i64 (gkR xs a), .bool (gcB xs a)]) ∧ Below w.heap.size w w' := by
  have GC := Lib.hid (implGreedyChange_any v xs a w h hl)
  have HG : Hid (gkR xs a = (tot (gcL xs a) : Nat)) := Lib.hid rfl
  have HR : Hid (gcR xs a = iL (gcL xs a)) := Lib.hid rfl
  have hll := gcL_len xs a
  have ht : tot (gcL xs a) ≤ 1048576 := by
    by_cases hb : gcB xs a = true
    · have hq : askC xs a = true := by simp only [gcB, Bool.and_eq_true] at hb; exact hb.1
      have hcn : cnsB xs = true := by simp only [askC, Bool.and_eq_true] at hq; exact hq.1
      have ham : amB a = true := by simp only [askC, Bool.and_eq_true] at hq; exact hq.2
      have h20 := (amB_iff.1 ham).2
      have := gcL_tot xs a hcn
      omega
    · rw [gcL_no (by simpa using hb)]; simp [tot]
  obtain ⟨zs, ez⟩ : ∃ zs, gcL xs a = zs := ⟨_, rfl⟩
  rw [ez] at HG HR hll ht
  have hlen := iL_len zs
  clear h ez
  go_enter Try.func27, Try.ntmps27
  go_wp2_with fail
  refine GC.out.mono ?_
  rintro e w1 ⟨u, rfl, ho, b1⟩
  rw [HR.out] at ho
  obtain ⟨p, cap, rfl, hx⟩ := ho.sv
  rw [hlen] at hx ⊢
  have HX : Hid (0 < zs.length → ∃ b off, p = some ⟨b, off, none⟩ ∧ b < w1.heap.size ∧ ∀ j, j < zs.length → w1.cell? ⟨b, off + j, none⟩ = some (.int .i64 ((zs.getD j 0 : Nat) : Int))) := Lib.hid (fun h0 => by
    obtain ⟨b, off, h1, h2, h3⟩ := hx h0
    exact ⟨b, off, h1, h2, fun j hj => by rw [← iL_at]; exact h3 j hj⟩)
  clear hx hlen ho GC
  go_wp2
  go_loop [8, 19] (fun t i => ∃ k : Nat, k ≤ zs.length ∧ i = .int .i64 k ∧ t = .int .i64 (tot (zs.take k) : Nat)) (fun _ i => zs.length - (intOf i).toNat)
  case atStart => exact ⟨0, Nat.zero_le _, rfl, rfl⟩
  case round =>
    obtain ⟨k, hk, rfl, rfl⟩ := hrel
    by_cases hlt : k < zs.length
    · obtain ⟨b, off, rfl, hbl, hc⟩ := HX.out (by omega)
      have hcell := hc k hlt
      have TT := tot_take hlt
      have TL := tot_take_le zs (k + 1)
      obtain ⟨x, ex⟩ : ∃ x, zs.getD k 0 = x := ⟨_, rfl⟩
      rw [ex] at hcell TT
      obtain ⟨s, es⟩ : ∃ s, tot (zs.take k) = s := ⟨_, rfl⟩
      rw [es] at TT ⊢
      rw [TT] at TL
      have hw : IntKind.i64.wrap ((s : Int) + x) = (s : Int) + x := IntWalk.i64_in _ (by omega)
      have j0 : (0 : Int) ≤ k := by omega
      have j1 : (k : Int) < zs.length := by omega
      have TT := Lib.hid TT
      clear hc ex es
      go_wp2
      go_round
      case rel => exact ⟨k + 1, by omega, by go_num, by rw [TT.out]; go_num⟩
      case measure => simp [intOf]; omega
    · have : k = zs.length := by omega
      subst this
      go_wp2
      go_ret2
      exact ⟨ret_ib (by rw [HG.out]) rfl, b1⟩
end Go.Proofs.Ytdgadabfahmdmaa
