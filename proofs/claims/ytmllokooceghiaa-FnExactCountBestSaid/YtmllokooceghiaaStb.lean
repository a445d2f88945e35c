/-
  RoomFor and ValuesOf in the model, by their contracts. Condition: slices of at most 2^40 numbers.
-/
import Derived.Test.YtmllokooceghiaaSta
namespace Go.Proofs.Ytmllokooceghiaa
open Go.RowKit

/-- The least room from r on. -/
def rfF (st : List Int) : Nat → Nat → Int → Int
  | 0, _, _ => 0
  | f + 1, r, v => if v ≤ (rch st r : Int) then r else rfF st f (r + 1) v
noncomputable def rfT (st : List Int) (v : Int) : Int := rfF st 8 1 v
noncomputable def rfB (st : List Int) (v : Int) : Bool := stmB st && vlB v && !(rfT st v == 0)
noncomputable def rfR (st : List Int) (v : Int) : Int := if rfB st v = true then rfT st v else 0
theorem rfF_pos (st : List Int) (f r : Nat) (v : Int) (h : v ≤ (rch st r : Int)) : rfF st (f + 1) r v = r := by simp [rfF, h]
theorem rfF_next (st : List Int) (f r : Nat) (v : Int) (h : ¬ v ≤ (rch st r : Int)) : rfF st (f + 1) r v = rfF st f (r + 1) v := by simp [rfF, h]

set_option maxHeartbeats 2000000 in
set_option maxRecDepth 20000 in
theorem specRoomFor_any (v : Value) (st : List Int) (a1 : Int) (w : World) (h : Sp w v st) (hl : st.length ≤ 1099511627776) :
    Calls Try.prog 47 #[v, .int .i64 a1] w fun e w' => e = .returned (.tuple #[.int .i64 (rfR st a1), .bool (rfB st a1)]) ∧ Below w.heap.size w w' := by
  have HS := Lib.hid h.sv
  clear h
  by_cases hg : stmB st = true
  · by_cases hv : vlB a1 = true
    · have HT := Lib.hid (stmB_iff.1 hg)
      have R : Hid (rfB st a1 = !(rfT st a1 == 0)) := Lib.hid (by simp [rfB, hg, hv])
      have Q : Hid (rfR st a1 = if rfB st a1 = true then rfT st a1 else 0) := Lib.hid rfl
      go_enter Try.func47, Try.ntmps47
      go_wp2_with fail
      refine (stGood_any _ _ _ HS.out hl).mono ?_
      rw [hg]
      rintro e w1 ⟨rfl, b1⟩
      go_wp2_with fail
      refine (stValue_any _ _).mono ?_
      rw [hv]
      rintro e w1' ⟨rfl, rfl⟩
      go_wp2
      go_loopw [6] (fun i wr => ∃ k : Nat, 1 ≤ k ∧ k ≤ 9 ∧ i = .int .i64 k ∧ Hid (rfF st (9 - k) k a1 = rfT st a1) ∧ Below w.heap.size w wr) (fun i _ => 9 - (intOf i).toNat)
      case atStart => exact ⟨1, by omega, by omega, rfl, Lib.hid rfl, b1⟩
      case round =>
        obtain ⟨k, hk1, hk9, rfl, HK, hb⟩ := hrel
        by_cases hlt : k ≤ 8
        · obtain ⟨f, hf⟩ : ∃ f, 9 - k = f + 1 := ⟨8 - k, by omega⟩
          rw [hf] at HK
          have hf2 : 9 - (k + 1) = f := by omega
          by_cases hvr : a1 ≤ (rch st k : Int)
          · have E := HK.out
            rw [rfF_pos _ _ _ _ hvr] at E
            have R2 := Lib.hid (show rfB st a1 = true by rw [R.out, ← E]; simp; omega)
            have Q2 := Lib.hid (show rfR st a1 = k by rw [Q.out, R2.out, ← E]; rfl)
            clear E HK hf hf2
            go_wp2_with fail
            refine (stReach_any _ _ k _ (HS.out.below hb (Nat.le_refl _)) HT.out hk1 hlt).mono ?_
            rintro e w2 ⟨rfl, b2⟩
            go_wp2_with fail
            go_ret2
            exact ⟨ret_ib Q2.out.symm R2.out.symm, nxt hb b2⟩
          · have E := HK.out
            rw [rfF_next _ _ _ _ hvr] at E
            have HE := Lib.hid E
            clear E HK
            go_wp2_with fail
            refine (stReach_any _ _ k _ (HS.out.below hb (Nat.le_refl _)) HT.out hk1 hlt).mono ?_
            rintro e w2 ⟨rfl, b2⟩
            go_wp2_with fail
            go_roundw
            case rel => exact ⟨k + 1, by omega, by omega, by go_num, Lib.hid (by rw [hf2]; exact HE.out), nxt hb b2⟩
            case measure => simp [intOf]; omega
        · have hk : k = 9 := by omega
          subst hk
          have E : rfT st a1 = 0 := HK.out.symm
          have R2 := Lib.hid (show rfB st a1 = false by rw [R.out, E]; rfl)
          have Q2 := Lib.hid (show rfR st a1 = 0 by rw [Q.out, R2.out]; rfl)
          clear E HK
          go_wp2
          go_ret2
          exact ⟨ret_ib Q2.out.symm R2.out.symm, hb⟩
    · have hv : vlB a1 = false := by simpa using hv
      have R := Lib.hid (show rfB st a1 = false by simp [rfB, hv])
      go_enter Try.func47, Try.ntmps47
      go_wp2_with fail
      refine (stGood_any _ _ _ HS.out hl).mono ?_
      rw [hg]
      rintro e w1 ⟨rfl, b1⟩
      go_wp2_with fail
      refine (stValue_any _ _).mono ?_
      rw [hv]
      rintro e w1' ⟨rfl, rfl⟩
      go_wp2_with fail
      go_ret2
      exact ⟨ret_ib (by simp [rfR, R.out]) R.out.symm, b1⟩
  · have hg : stmB st = false := by simpa using hg
    have R := Lib.hid (show rfB st a1 = false by simp [rfB, hg])
    go_enter Try.func47, Try.ntmps47
    go_wp2_with fail
    refine (stGood_any _ _ _ HS.out hl).mono ?_
    rw [hg]
    rintro e w1 ⟨rfl, b1⟩
    go_wp2_with fail
    go_ret2
    exact ⟨ret_ib (by simp [rfR, R.out]) R.out.symm, b1⟩

/-- The values that are reached, up to k. -/
def voK (st : List Int) (r : Int) (k : Nat) : List Int := ((List.range k).filter fun j => decide (fw st j ≤ r)).map fun (j : Nat) => (j : Int)
theorem voK_yes {st : List Int} {r : Int} {k : Nat} (h : fw st k ≤ r) : voK st r (k + 1) = voK st r k ++ [(k : Int)] := by
  unfold voK; rw [List.range_succ, List.filter_append]; simp [h]
theorem voK_no {st : List Int} {r : Int} {k : Nat} (h : ¬ fw st k ≤ r) : voK st r (k + 1) = voK st r k := by
  unfold voK; rw [List.range_succ, List.filter_append]; simp [h]
theorem voK_len (st : List Int) (r : Int) (k : Nat) : (voK st r k).length ≤ k := by
  unfold voK; rw [List.length_map]; exact Nat.le_trans (List.length_filter_le _ _) (by simp)
noncomputable def voR (st : List Int) (r : Int) : List Int := if rmB st r = true then voK st r ((r * lastS st).toNat + 1) else []
theorem voR_len (st : List Int) (r : Int) : (voR st r).length ≤ 1099511627776 := by
  unfold voR
  split
  · rename_i h
    obtain ⟨S, n, rfl, n1, n8⟩ := rmB_yes h
    have hb := S.last_bd
    have h0 : 0 ≤ (n : Int) * lastS st := Int.mul_nonneg (by omega) (by omega)
    have h2 : (n : Int) * lastS st ≤ 8 * 500 := Int.mul_le_mul (by omega) hb.2 (by omega) (by omega)
    have := voK_len st n (((n : Int) * lastS st).toNat + 1)
    omega
  · simp

set_option maxHeartbeats 4000000 in
set_option maxRecDepth 20000 in
theorem specValuesOf_any (v : Value) (st : List Int) (a1 : Int) (w : World) (h : Sp w v st) (hl : st.length ≤ 1099511627776) :
    Calls Try.prog 33 #[v, .int .i64 a1] w fun e w' => ∃ u, e = .returned (.tuple #[u, .bool (rmB st a1)]) ∧ Ow w' w.heap.size u (voR st a1) ∧ Below w.heap.size w w' := by
  have HS := Lib.hid h.sv
  by_cases hr : rmB st a1 = true
  · obtain ⟨S, r, rfl, r1, r8⟩ := rmB_yes hr
    have hlb := S.last_bd
    have h6 := S.six
    have h1 := S.one
    obtain ⟨M, hM, hM2⟩ : ∃ M : Nat, (r : Int) * lastS st = M ∧ M ≤ 4000 := by
      have h0 : 0 ≤ (r : Int) * lastS st := Int.mul_nonneg (by omega) (by omega)
      have h2 : (r : Int) * lastS st ≤ 8 * 500 := Int.mul_le_mul (by omega) hlb.2 (by omega) (by omega)
      exact ⟨((r : Int) * lastS st).toNat, by omega, by omega⟩
    have Q : Hid (voR st r = voK st r (M + 1)) := Lib.hid (by unfold voR; rw [if_pos hr, hM]; rfl)
    have SF := fun W hW => Lib.hid (stFew_any v st M W hW S (by omega))
    obtain ⟨b, off, cap, rfl, hcap, hcm, hbl, hc⟩ := h
    obtain ⟨n, hn⟩ : ∃ n, st.length = n + 1 := ⟨st.length - 1, by omega⟩
    have hcell0 : w.cell? ⟨b, off + n, none⟩ = some (.int .i64 (lastS st)) := by
      have := hc n (by omega)
      rw [this]; unfold lastS; rw [hn]; rfl
    have hfl := fewT_len st M
    obtain ⟨l, el⟩ : ∃ l, lastS st = l := ⟨_, rfl⟩
    rw [el] at hcell0 hM hlb
    have hw1 : IntKind.i64.wrap ((r : Int) * l) = (M : Int) := by rw [hM]; exact IntWalk.i64_in _ (by omega)
    have RM := fun W hW => Lib.hid (stRoom_any (.slice (some ⟨b, off, none⟩) st.length cap) st r W hW hl)
    rw [hr] at RM ⊢
    rw [hn] at SF RM HS ⊢
    clear hc hM el S hcm
    go_enter Try.func33, Try.ntmps33
    go_wp2_with fail
    refine (RM _ HS.out).out.mono ?_
    rintro e w1 ⟨rfl, b1⟩
    have hcell : w1.cell? ⟨b, off + n, none⟩ = some (.int .i64 l) := (b1.cell (p := ⟨b, off + n, none⟩) hbl).trans hcell0
    go_wp2_with fail
    refine (SF _ (HS.out.below b1 (Nat.le_refl _))).out.mono ?_
    rintro e w2 ⟨u, rfl, o, a, b2⟩
    obtain ⟨cc, rfl, hlt, hct⟩ := rowOfOw o a
    rw [hfl] at hct ⊢
    have b2 := nxt b1 b2
    have z2 := b2.size
    clear o a b1 SF RM
    go_wp2
    go_loopw [6, 24] (fun t i wr => ∃ k : Nat, k ≤ M + 1 ∧ i = .int .i64 k ∧ Ow wr w2.heap.size t (voK st r k) ∧ Below w2.heap.size w2 wr) (fun _ i _ => M + 1 - (intOf i).toNat)
    case atStart => exact ⟨0, Nat.zero_le _, rfl, World.ownsRow_nil _ _ _ _, Below.refl _ _⟩
    case round =>
      obtain ⟨k, hk, rfl, ho, hb⟩ := hrel
      have hz := hb.size
      have hvl := voK_len st r k
      by_cases hlt2 : k < M + 1
      · have hcell1 := (hb.cell (p := ⟨w1.heap.size, k, none⟩) hlt).trans (hct k hlt2)
        rw [fewT_at st M k hlt2] at hcell1
        obtain ⟨x, ex⟩ : ∃ x, fw st k = x := ⟨_, rfl⟩
        rw [ex] at hcell1
        have k1 : (k : Int) < (M : Int) + 1 := by omega
        by_cases hxr : x ≤ (r : Int)
        · have S2 := Lib.hid (voK_yes (st := st) (r := r) (k := k) (by rw [ex]; exact hxr))
          clear hct ex
          go_wp2_with (at_builtin; refine wpList_append_src rfl _ _ rfl w2.heap.size _ (voK st r k) rfl (ho.alloc _) _ [(k : Int)] rfl (src_one _ _) (by simp only [List.length_cons, List.length_nil]; omega) (by simp; omega) ?_; intro v' w3 h3 g3)
          have b3 := (hb.alloc hz _).trans ((ho.alloc _).grown (by simp; omega) g3)
          clear ho g3 hb
          go_roundw
          case rel => exact ⟨k + 1, by omega, by go_num, by rw [S2.out]; exact h3, b3⟩
          case measure => simp only [intOf]; omega
        · have S2 := Lib.hid (voK_no (st := st) (r := r) (k := k) (by rw [ex]; exact hxr))
          clear hct ex
          go_wp2
          go_roundw
          case rel => exact ⟨k + 1, by omega, by go_num, by rw [S2.out]; exact ho, hb⟩
          case measure => simp only [intOf]; omega
      · have hke : k = M + 1 := by omega
        subst hke
        clear hct
        go_wp2
        go_ret2
        exact ⟨_, ret_lb rfl rfl, by rw [Q.out]; exact ho.mono z2, b2.trans (Below.mono hb z2)⟩
  · have hr : rmB st a1 = false := by simpa using hr
    have Q : Hid (voR st a1 = []) := Lib.hid (by simp [voR, hr])
    clear h
    rw [hr]
    go_enter Try.func33, Try.ntmps33
    go_wp2_with fail
    refine (stRoom_any _ _ _ _ HS.out hl).mono ?_
    rw [hr]
    rintro e w1 ⟨rfl, b1⟩
    go_wp2_with fail
    go_ret2
    exact ⟨_, ret_lb rfl rfl, by rw [Q.out]; exact World.ownsRow_nil _ _ _ _, b1⟩
end Go.Proofs.Ytmllokooceghiaa
