/-
  NextStamp in the model, by its contract. Condition: slices of at most 2^40 numbers.
-/
import Derived.Test.YtmllokooceghiaaStb
namespace Go.Proofs.Ytmllokooceghiaa
open Go.RowKit

theorem ris_pw {lo hi : Int} : ∀ (xs : List Int), RisTo xs lo hi xs.length → xs.Pairwise (fun x y => x < y) := by
  intro xs h
  rw [List.pairwise_iff_getElem]
  intro i j hi hj hij
  have key : ∀ (d i : Nat), i + d + 1 < xs.length → xs.getD i 0 < xs.getD (i + d + 1) 0 := by
    intro d
    induction d with
    | zero => intro i hi; exact h.2 i hi
    | succ d ih => intro i hi; have h1 := ih i (by omega); have h2 := h.2 (i + d + 1) (by omega); have e : i + (d + 1) + 1 = i + d + 1 + 1 := by omega
                   rw [e]; omega
  have := key (j - i - 1) i (by omega)
  rw [show i + (j - i - 1) + 1 = j by omega] at this
  simpa [List.getD_eq_getElem?_getD, List.getElem?_eq_getElem, hi, hj] using this
theorem pw_ris {lo hi : Int} {xs : List Int} (h : xs.Pairwise (fun x y => x < y)) (hm : ∀ x ∈ xs, lo ≤ x ∧ x ≤ hi) : RisTo xs lo hi xs.length := by
  refine ⟨fun j hj => ?_, fun j hj => ?_⟩
  · have : xs.getD j 0 ∈ xs := by rw [List.getD_eq_getElem?_getD, List.getElem?_eq_getElem hj]; exact List.getElem_mem hj
    exact hm _ this
  · have := List.pairwise_iff_getElem.1 h j (j + 1) (by omega) hj (by omega)
    simpa [List.getD_eq_getElem?_getD, List.getElem?_eq_getElem, hj, show j < xs.length by omega] using this
theorem Stm.pw {st : List Int} (h : Stm st) : st.Pairwise (fun x y => x < y) := ris_pw st h.ris
theorem Stm.push {st : List Int} {n : Int} (h : Stm st) (h5 : st.length ≤ 5) (h1 : lastS st < n) (h2 : n ≤ 500) : Stm (st ++ [n]) := by
  have hl := h.last_bd
  refine ⟨by simp, by simp; omega, pw_ris (List.pairwise_append.2 ⟨h.pw, by simp, fun a ha b hb => ?_⟩) fun x hx => ?_⟩
  · obtain rfl : b = n := by simpa using hb
    have := h.le_last a ha
    omega
  · rcases List.mem_append.1 hx with hx | hx
    · exact h.mem x hx
    · obtain rfl : x = n := by simpa using hx
      omega

/-- The best so far, from n on. -/
def nxG (st : List Int) (r : Nat) : Nat → Nat → Int → Int → Int
  | 0, _, b, _ => b
  | f + 1, n, b, fr => if fr < (rch (st ++ [(n : Int)]) r : Int) then nxG st r f (n + 1) n (rch (st ++ [(n : Int)]) r) else nxG st r f (n + 1) b fr
def nxH (st : List Int) (r : Nat) : Nat := min (rch st r + 1) 500
def nxT (st : List Int) (r : Nat) : Int := nxG st r (nxH st r + 1 - ((lastS st).toNat + 1)) ((lastS st).toNat + 1) 0 (-1)
noncomputable def nsB (st : List Int) (r : Int) : Bool := rmB st r && !(decide (st.length = 6)) && !(nxT st r.toNat == 0)
noncomputable def nsR (st : List Int) (r : Int) : Int := if nsB st r = true then nxT st r.toNat else 0

set_option maxHeartbeats 8000000 in
set_option maxRecDepth 20000 in
theorem specNextStamp_any (v : Value) (st : List Int) (a1 : Int) (w : World) (h : Sp w v st) (hl : st.length ≤ 1099511627776) :
    Calls Try.prog 37 #[v, .int .i64 a1] w fun e w' => e = .returned (.tuple #[.int .i64 (nsR st a1), .bool (nsB st a1)]) ∧ Below w.heap.size w w' := by
  have HS := Lib.hid h.sv
  have HP := Lib.hid h
  by_cases hr : rmB st a1 = true
  · obtain ⟨S, r, rfl, r1, r8⟩ := rmB_yes hr
    have HT := Lib.hid S
    have hlb := S.last_bd
    have h6 := S.six
    have h1 := S.one
    by_cases h66 : st.length = 6
    · have R := Lib.hid (show nsB st r = false by simp [nsB, h66])
      obtain ⟨b, off, cap, rfl, hcap, hcm, hbl, hc⟩ := h
      have RM := Lib.hid (stRoom_any _ st r w HS.out hl)
      rw [hr] at RM
      rw [h66] at RM HS HP ⊢
      clear hc S hcm HS HP
      go_enter Try.func37, Try.ntmps37
      go_wp2_with fail
      refine RM.out.mono ?_
      rintro e w1 ⟨rfl, b1⟩
      go_wp2_with fail
      go_ret2
      exact ⟨ret_ib (by simp [nsR, R.out]) R.out.symm, b1⟩
    · have R : Hid (nsB st r = !(nxT st r == 0)) := Lib.hid (by simp [nsB, hr, h66])
      have Q : Hid (nsR st r = if nsB st r = true then nxT st r else 0) := Lib.hid (by simp [nsR])
      have hsp := rch_spec S r8
      have hHd : min ((rch st r : Int) + 1) 500 = (nxH st r : Int) := by unfold nxH; omega
      obtain ⟨b, off, cap, rfl, hcap, hcm, hbl, hc⟩ := h
      obtain ⟨n, hn⟩ : ∃ n, st.length = n + 1 := ⟨st.length - 1, by omega⟩
      have hcell0 : w.cell? ⟨b, off + n, none⟩ = some (.int .i64 (lastS st)) := by
        have := hc n (by omega)
        rw [this]; unfold lastS; rw [hn]; rfl
      obtain ⟨l, el⟩ : ∃ l : Nat, lastS st = l := ⟨(lastS st).toNat, by omega⟩
      have TT : Hid (nxG st r (nxH st r + 1 - (l + 1)) (l + 1) 0 (-1) = nxT st r) := Lib.hid (by unfold nxT; rw [el]; rfl)
      have hL : lastS st = l := el
      rw [el] at hcell0 hlb
      have HL := Lib.hid hL
      have hH5 : nxH st r ≤ 500 := by unfold nxH; omega
      obtain ⟨H, eH⟩ : ∃ H, nxH st r = H := ⟨_, rfl⟩
      rw [eH] at hHd TT hH5
      have RE : ∀ W, Below w.heap.size w W → Hid (Calls Try.prog 57 #[.slice (some ⟨b, off, none⟩) st.length cap, .int .i64 r] W fun e w' => e = .returned (.int .i64 (rch st r : Nat)) ∧ Below W.heap.size W w') := fun W hB => Lib.hid (stReach_any _ st r W (HS.out.below hB (Nat.le_refl _)) HT.out r1 r8)
      have OW : ∀ W, Below w.heap.size w W → Hid (Calls Try.prog 64 #[.slice (some ⟨b, off, none⟩) st.length cap] W fun e w' => ∃ u, e = .returned u ∧ Ow w' W.heap.size u st ∧ Below W.heap.size W w') := fun W hB => Lib.hid (l1Own_any _ st W (HP.out.src.below hB (Nat.le_refl _)) (by omega))
      have RM := Lib.hid (stRoom_any _ st r w HS.out hl)
      have HHD := Lib.hid hHd
      rw [hr] at RM
      obtain ⟨X, eX⟩ : ∃ X, rch st r = X := ⟨_, rfl⟩
      rw [eX] at RE HHD
      have hX : X ≤ 4000 := by
        have h2 : (r : Int) * lastS st ≤ 8 * 500 := Int.mul_le_mul (by omega) (by omega) (by omega) (by omega)
        omega
      have hst5 : st.length ≤ 5 := by omega
      rw [hn] at RE OW RM h66 ⊢
      have d6 : ((n : Int) + 1 == 6) = false := by rw [beq_eq_false_iff_ne]; omega
      clear hc el eH hHd hsp eX hL S hcm HS HP hcap
      go_enter Try.func37, Try.ntmps37
      go_wp2_with fail
      refine RM.out.mono ?_
      rintro e w1 ⟨rfl, b1⟩
      have hcell : w1.cell? ⟨b, off + n, none⟩ = some (.int .i64 l) := (b1.cell (p := ⟨b, off + n, none⟩) hbl).trans hcell0
      clear RM
      go_wp2
      go_loopw [6, 7, 8] (fun x y i wr => ∃ (k : Nat) (bst far : Int), i = .int .i64 k ∧ x = .int .i64 bst ∧ y = .int .i64 far ∧ l + 1 ≤ k ∧ k ≤ 501 ∧ (bst = 0 ∨ 0 < bst) ∧ bst ≤ 501 ∧ -1 ≤ far ∧ far ≤ 4000 ∧ Hid (nxG st r (H + 1 - k) k bst far = nxT st r) ∧ Below w.heap.size w wr) (fun _ _ i _ => 502 - (intOf i).toNat)
      case atStart => exact ⟨l + 1, 0, -1, by go_num, rfl, rfl, by omega, by omega, .inl rfl, by omega, by omega, by omega, TT, b1⟩
      case round =>
        obtain ⟨k, bst, far, rfl, rfl, rfl, hk1, hk2, hb0, hb1, hf0, hf1, HK, hb⟩ := hrel
        by_cases hkH : k ≤ H
        · have PUSH := Lib.hid (HT.out.push hst5 (n := (k : Int)) (by rw [HL.out]; omega) (by omega))
          have hx40 : rch (st ++ [(k : Int)]) r ≤ 4000 := by
            have g1 := (rch_spec PUSH.out r8).1
            have g2 := PUSH.out.last_bd
            have g3 : (r : Int) * lastS (st ++ [(k : Int)]) ≤ 8 * 500 := Int.mul_le_mul (by omega) g2.2 (by omega) (by omega)
            omega
          obtain ⟨f, hf⟩ : ∃ f, H + 1 - k = f + 1 := ⟨H - k, by omega⟩
          have hf2 : H + 1 - (k + 1) = f := by omega
          have E := HK.out
          rw [hf] at E
          simp only [nxG] at E
          have RR := fun W v hv => Lib.hid (stReach_any v (st ++ [(k : Int)]) r W hv PUSH.out r1 r8)
          obtain ⟨y, ey⟩ : ∃ y, rch (st ++ [(k : Int)]) r = y := ⟨_, rfl⟩
          rw [ey] at E RR hx40
          have HE := Lib.hid E
          clear E ey HK hf
          go_wp2_with fail
          refine (RE _ hb).out.mono ?_
          rintro e w2 ⟨rfl, b2⟩
          have hb2 := nxt hb b2
          go_wp2_with fail
          refine (least_any ((X : Int) + 1) 500 _).mono ?_
          rw [HHD.out]
          rintro e w2' ⟨rfl, rfl⟩

          go_wp2_with fail
          refine (OW _ hb2).out.mono ?_
          rintro e w3 ⟨u, rfl, o3, b3⟩
          have hz2 := hb2.size
          have hb3 := nxt hb2 b3
          have o3 := o3.mono hz2
          have hz3 := hb3.size
          clear b3 b2 hb
          go_wp2_with (at_builtin; refine wpList_append_src rfl _ _ rfl w.heap.size _ st rfl (o3.alloc _) _ [(k : Int)] rfl (src_one _ _) (by simp only [List.length_cons, List.length_nil]; omega) (by simp; omega) ?_; intro v' w4 h4 g4)
          have hb4 := (hb3.alloc hz3 _).trans ((o3.alloc _).grown (by simp; omega) g4)
          clear o3 g4 hb3 hb2
          go_wp2_with fail
          refine (RR _ _ h4.sv).out.mono ?_
          rintro e w5 ⟨rfl, b5⟩
          have hb5 := nxt hb4 b5
          clear h4 b5 hb4 RR
          by_cases hfx : far < (y : Int)
          · have E2 := HE.out
            rw [if_pos hfx] at E2
            have HE2 := Lib.hid E2
            clear E2 HE
            go_wp2_with fail
            go_roundw
            case rel => exact ⟨k + 1, k, y, by go_num, rfl, rfl, by omega, by omega, .inr (by omega), by omega, by omega, by omega, Lib.hid (by rw [hf2]; exact HE2.out), hb5⟩
            case measure => simp [intOf]; omega
          · have E2 := HE.out
            rw [if_neg hfx] at E2
            have HE2 := Lib.hid E2
            clear E2 HE
            go_wp2_with fail
            go_roundw
            case rel => exact ⟨k + 1, bst, far, by go_num, rfl, rfl, by omega, by omega, hb0, by omega, by omega, by omega, Lib.hid (by rw [hf2]; exact HE2.out), hb5⟩
            case measure => simp [intOf]; omega
        · have E := HK.out
          rw [show H + 1 - k = 0 by omega] at E
          simp only [nxG] at E
          have dk : decide ((k : Int) ≤ (H : Int)) = false := by simp; omega
          have HE := Lib.hid E
          clear E HK
          go_wp2_with fail
          refine (RE _ hb).out.mono ?_
          rintro e w2 ⟨rfl, b2⟩
          have hb2 := nxt hb b2
          go_wp2_with fail
          refine (least_any ((X : Int) + 1) 500 _).mono ?_
          rw [HHD.out]
          rintro e w2' ⟨rfl, rfl⟩
          by_cases hb00 : bst = 0
          · have R2 := Lib.hid (show nsB st r = false by rw [R.out, ← HE.out, hb00]; rfl)
            have Q2 := Lib.hid (show nsR st r = 0 by rw [Q.out, R2.out]; rfl)
            subst hb00
            clear HE
            go_wp2_with fail
            go_ret2
            exact ⟨ret_ib Q2.out.symm R2.out.symm, hb2⟩
          · have R2 := Lib.hid (show nsB st r = true by rw [R.out, ← HE.out]; simpa using hb00)
            have Q2 := Lib.hid (show nsR st r = bst by rw [Q.out, R2.out, ← HE.out]; rfl)
            have dx : (bst == 0) = false := by simpa using hb00
            clear HE hb00
            go_wp2_with fail
            go_ret2
            exact ⟨ret_ib Q2.out.symm R2.out.symm, hb2⟩
  · have hr : rmB st a1 = false := by simpa using hr
    have R := Lib.hid (show nsB st a1 = false by simp [nsB, hr])
    clear h HP
    go_enter Try.func37, Try.ntmps37
    go_wp2_with fail
    refine (stRoom_any _ _ _ _ HS.out hl).mono ?_
    rw [hr]
    rintro e w1 ⟨rfl, b1⟩
    go_wp2_with fail
    go_ret2
    exact ⟨ret_ib (by simp [nsR, R.out]) R.out.symm, b1⟩
end Go.Proofs.Ytmllokooceghiaa
