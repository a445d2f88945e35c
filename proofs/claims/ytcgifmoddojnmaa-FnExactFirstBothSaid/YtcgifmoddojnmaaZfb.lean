/-
  FirstBoth in the model and in the program, by contracts. Condition: slices of at most 2^40 numbers.
-/
import Derived.Test.YtcgifmoddojnmaaZsg
import Derived.Test.YtcgifmoddojnmaaZfw
namespace Go.Proofs.Ytcgifmoddojnmaa
open Go.RowKit

/-- The sign of the piece k, with t left to be told. -/
def fbD (xs : List Int) (k : Nat) (t : Int) : Int :=
  if Sy (xs.drop (k + 1)) (t - xs.getD k 0) ≠ 0 then 1 else if Sy (xs.drop (k + 1)) (t + xs.getD k 0) ≠ 0 then -1 else 0
/-- The first signs, piece after piece, and what is left to be told. -/
def fbS (xs : List Int) (s : Int) : Nat → List UInt8 × Int
  | 0 => ([], s)
  | k + 1 => ((fbS xs s k).1 ++ [sc (fbD xs k (fbS xs s k).2)], (fbS xs s k).2 - fbD xs k (fbS xs s k).2 * xs.getD k 0)
theorem fbD_cases {xs : List Int} {k : Nat} {t x : Int} (hx : xs.getD k 0 = x) :
    (Sy (xs.drop (k + 1)) (t - x) ≠ 0 ∧ fbD xs k t = 1) ∨ (Sy (xs.drop (k + 1)) (t - x) = 0 ∧ Sy (xs.drop (k + 1)) (t + x) ≠ 0 ∧ fbD xs k t = -1) ∨ (Sy (xs.drop (k + 1)) (t - x) = 0 ∧ Sy (xs.drop (k + 1)) (t + x) = 0 ∧ fbD xs k t = 0) := by
  unfold fbD
  rw [hx]
  by_cases h1 : Sy (xs.drop (k + 1)) (t - x) = 0
  · by_cases h2 : Sy (xs.drop (k + 1)) (t + x) = 0
    · right; right; exact ⟨h1, h2, by rw [if_neg (by simpa using h1), if_neg (by simpa using h2)]⟩
    · right; left; exact ⟨h1, h2, by rw [if_neg (by simpa using h1), if_pos h2]⟩
  · left; exact ⟨h1, by rw [if_pos h1]⟩
theorem fbS_len (xs : List Int) (s : Int) : ∀ k, (fbS xs s k).1.length = k := by
  intro k
  induction k with
  | zero => rfl
  | succ k ih => simp only [fbS, List.length_append, List.length_singleton, ih]
noncomputable def fbB (xs : List Int) (s : Int) : Bool := askV xs s && !(Sy xs s == 0)
noncomputable def fbR (xs : List Int) (s : Int) : ByteArray := if fbB xs s = true then bstr (fbS xs s xs.length).1 else ⟨#[]⟩
theorem fb_no {xs : List Int} {s : Int} (h : fbB xs s = false) : fbB xs s = false ∧ fbR xs s = ⟨#[]⟩ := ⟨h, by simp [fbR, h]⟩
theorem fb_yes {xs : List Int} {s : Int} (h : fbB xs s = true) : fbB xs s = true ∧ fbR xs s = bstr (fbS xs s xs.length).1 := ⟨h, by simp [fbR, h]⟩
theorem Good.dropG {xs : List Int} (h : Good xs) (n : Nat) : Good (xs.drop n) := by
  have e : ∀ j, (xs.drop n).getD j 0 = xs.getD (n + j) 0 := fun j => by simp only [List.getD_eq_getElem?_getD, List.getElem?_drop]
  have hl := h.len
  refine ⟨by simp only [List.length_drop]; omega, fun j hj => ?_, fun j hj => ?_⟩
  · rw [e]; exact h.2.1 _ (by simp only [List.length_drop] at hj; omega)
  · rw [e, e]; exact h.2.2 (n + j) (by simp only [List.length_drop] at hj; omega)
theorem Src.sv {w : World} {v : Value} {xs : List Int} (h : Src w v xs) : Sv w v xs := by
  rcases h with ⟨rfl, rfl⟩ | ⟨b, off, c, hv, hb, hc⟩
  · exact sv_nil w
  · exact ⟨_, _, hv, fun _ => ⟨b, off, rfl, hb, hc⟩⟩
/-- The rest of a slice behind the piece k, in the walk's own form. -/
theorem sv_rest {w : World} {b off cap k : Nat} {xs : List Int} (hb : b < w.heap.size) (hk : k < xs.length) (hcap : xs.length ≤ cap) (hc : ∀ j, j < xs.length → w.cell? ⟨b, off + j, none⟩ = some (.int .i64 (xs.getD j 0))) :
    Sv w (.slice (if cap = k + 1 then some ⟨b, off, none⟩ else some ⟨b, off + (k + 1), none⟩) (xs.length - (k + 1)) (cap - (k + 1))) (xs.drop (k + 1)) := by
  split
  · rename_i e
    have e2 : xs.length - (k + 1) = 0 := by omega
    rw [e2, List.drop_eq_nil_of_le (by omega)]
    exact ⟨_, _, rfl, fun h => by simp at h⟩
  · exact (src_drop (c := cap - (k + 1)) hb hc).sv

set_option maxHeartbeats 8000000 in
set_option maxRecDepth 100000 in
theorem specFirstBoth_any (v : Value) (xs : List Int) (s : Int) (w : World) (hsp : Sp w v xs) (hl : xs.length ≤ 1099511627776) :
    Calls Try.prog 25 #[v, .int .i64 s] w fun e w' => e = .returned (.tuple #[.string (fbR xs s), .bool (fbB xs s)]) ∧ Below w.heap.size w w' := by
  have h := hsp.sv
  by_cases ha : askV xs s = true
  · have hg2 := askV_iff.1 ha
    have hg := (sideB_iff.1 hg2.1).1
    have hl12 := (sideB_iff.1 hg2.1).2
    obtain ⟨hs0, hs1⟩ := inB_iff.1 hg2.2
    by_cases hz : Sy xs s = 0
    · have R := Lib.hid (fb_no (xs := xs) (s := s) (by simp [fbB, hz]))
      have HZ := Lib.hid hz
      clear hz hg2
      go_enter Try.func25, Try.ntmps25
      go_wp2_with fail
      refine (siAsked_any _ _ _ _ h hl).mono ?_
      rintro e w1 ⟨rfl, b1⟩
      go_wp2_with fail
      refine (siMake_any _ _ _ _ (h.below b1 (Nat.le_refl _)) hg (by omega) (by omega)).mono ?_
      rintro e w2 ⟨rfl, b2⟩
      rw [HZ.out]
      go_wp2_with fail
      go_ret2
      exact ⟨ret_sb R.out.2.symm R.out.1.symm, nxt b1 b2⟩
    · have R := Lib.hid (fb_yes (xs := xs) (s := s) (by simp [fbB, ha, hz]))
      have d : (Sy xs s == 0) = false := by simpa using hz
      obtain ⟨b, off, cap, rfl, hcap, hcm, hbl, hc⟩ := hsp
      have hcm : cap ≤ 9223372036854775807 := by unfold maxLen at hcm; exact hcm
      have HC := Lib.hid hc
      clear hc hz hg2
      go_enter Try.func25, Try.ntmps25
      go_wp2_with fail
      refine (siAsked_any _ _ _ _ h hl).mono ?_
      rintro e w1 ⟨rfl, b1⟩
      go_wp2_with fail
      refine (siMake_any _ _ _ _ (h.below b1 (Nat.le_refl _)) hg (by omega) (by omega)).mono ?_
      rintro e w2 ⟨rfl, b2⟩
      have b2 := nxt b1 b2
      clear b1 ha
      go_wp2_with fail
      go_loopw [1, 6, 22] (fun n o i wr => ∃ (k : Nat) (S : ByteArray) (t : Int), k ≤ xs.length ∧ i = .int .i64 k ∧ n = .int .i64 t ∧ o = .string S ∧ S.size = k ∧ Hid (S = bstr (fbS xs s k).1) ∧ Hid ((fbS xs s k).2 = t) ∧ -(10000 * (k : Int)) ≤ t ∧ t ≤ 1000000 + 10000 * k ∧ Below w.heap.size w wr) (fun _ _ i _ => xs.length - (intOf i).toNat)
      case atStart => exact ⟨0, ⟨#[]⟩, s, Nat.zero_le _, rfl, rfl, rfl, rfl, Lib.hid rfl, Lib.hid rfl, by omega, by omega, b2⟩
      case round =>
        obtain ⟨k, S, t, hk, rfl, rfl, rfl, hz, HS, HF, ht0, ht1, hb⟩ := hrel
        have hz0 := hb.size
        by_cases hlt : k < xs.length
        · have hcell := (hb.cell (p := ⟨b, off + k, none⟩) hbl).trans (HC.out k hlt)
          obtain ⟨x, ex⟩ : ∃ x, xs.getD k 0 = x := ⟨_, rfl⟩
          obtain ⟨hx1, hx2⟩ := hg.bd hlt ex
          rw [ex] at hcell
          have hcase := fbD_cases (t := t) ex
          have E1 : (fbS xs s (k + 1)).1 = (fbS xs s k).1 ++ [sc (fbD xs k t)] := by show _ ++ [sc (fbD xs k (fbS xs s k).2)] = _; rw [HF.out]
          have E2 : (fbS xs s (k + 1)).2 = t - fbD xs k t * x := by show (fbS xs s k).2 - fbD xs k (fbS xs s k).2 * xs.getD k 0 = _; rw [HF.out, ex]
          have REST := fun W (hW : Below w.heap.size w W) => sv_rest (w := W) (Nat.lt_of_lt_of_le hbl hW.size) hlt hcap (fun j hj => (hW.cell (p := ⟨b, off + j, none⟩) hbl).trans (HC.out j hj))
          obtain ⟨pt, ite⟩ : ∃ pt, (if cap = k + 1 then some (⟨b, off, none⟩ : Addr) else some ⟨b, off + (k + 1), none⟩) = pt := ⟨_, rfl⟩
          rw [ite] at REST
          have hgd := hg.dropG (k + 1)
          have M1 := fun W hW => Lib.hid (siMake_any _ (xs.drop (k + 1)) (t - x) W (REST W hW) hgd (by omega) (by omega))
          have M2 := fun W hW => Lib.hid (siMake_any _ (xs.drop (k + 1)) (t + x) W (REST W hW) hgd (by omega) (by omega))
          have p1 := (Sy_bd (xs.drop (k + 1)) (t - x)).1
          have p2 := (Sy_bd (xs.drop (k + 1)) (t + x)).1
          obtain ⟨A, eA⟩ : ∃ A, Sy (xs.drop (k + 1)) (t - x) = A := ⟨_, rfl⟩
          obtain ⟨B, eB⟩ : ∃ B, Sy (xs.drop (k + 1)) (t + x) = B := ⟨_, rfl⟩
          rw [eA] at M1 hcase p1
          rw [eB] at M2 hcase p2
          obtain ⟨D, eD⟩ : ∃ D, fbD xs k t = D := ⟨_, rfl⟩
          rw [eD] at hcase E1 E2
          have wk : IntKind.i64.wrap ((k : Int) + 1) = (k : Int) + 1 := IntWalk.i64_in _ (by omega)
          have k1 : (0 : Int) ≤ (k : Int) + 1 := by omega
          have k2 : (k : Int) + 1 ≤ (xs.length : Int) := by omega
          have k3 : (xs.length : Int) ≤ (cap : Int) := by omega
          have z1 : ¬ S.size + (⟨#[43]⟩ : ByteArray).size > 9223372036854775807 := by rw [hz]; show ¬ k + 1 > _; omega
          have z2 : ¬ S.size + (⟨#[45]⟩ : ByteArray).size > 9223372036854775807 := by rw [hz]; show ¬ k + 1 > _; omega
          have z3 : ¬ S.size + (⟨#[48]⟩ : ByteArray).size > 9223372036854775807 := by rw [hz]; show ¬ k + 1 > _; omega
          have Z1 : Hid ((S ++ ⟨#[43]⟩).size = k + 1) := Lib.hid (by rw [ByteArray.size_append, hz]; rfl)
          have Z2 : Hid ((S ++ ⟨#[45]⟩).size = k + 1) := Lib.hid (by rw [ByteArray.size_append, hz]; rfl)
          have Z3 : Hid ((S ++ ⟨#[48]⟩).size = k + 1) := Lib.hid (by rw [ByteArray.size_append, hz]; rfl)
          clear ex eA eB eD REST hgd hz
          rcases hcase with ⟨hA, rfl⟩ | ⟨rfl, hB, rfl⟩ | ⟨rfl, rfl, rfl⟩
          · have hp : 0 < A := by omega
            have HN : Hid (S ++ ⟨#[43]⟩ = bstr (fbS xs s (k + 1)).1) := Lib.hid (by rw [E1, ← bstr_app, HS.out]; rfl)
            have HF2 : Hid ((fbS xs s (k + 1)).2 = t - x) := Lib.hid (by rw [E2]; omega)
            clear hA E1 E2 p1
            go_wp2_with fail
            refine (M1 _ hb).out.mono ?_
            rintro e w3 ⟨rfl, b3⟩
            have b3 := hb.trans (b3.mono hz0)
            go_wp2
            go_roundw
            case rel => exact ⟨k + 1, _, t - x, by omega, by go_num, rfl, rfl, Z1.out, HN, HF2, by omega, by omega, b3⟩
            case measure => simp only [intOf]; omega
          · have hp : 0 < B := by omega
            have HN : Hid (S ++ ⟨#[45]⟩ = bstr (fbS xs s (k + 1)).1) := Lib.hid (by rw [E1, ← bstr_app, HS.out]; rfl)
            have HF2 : Hid ((fbS xs s (k + 1)).2 = t + x) := Lib.hid (by rw [E2]; omega)
            clear hB E1 E2 p2
            go_wp2_with fail
            refine (M1 _ hb).out.mono ?_
            rintro e w3 ⟨rfl, b3⟩
            have b3 := hb.trans (b3.mono hz0)
            go_wp2_with fail
            refine (M2 _ b3).out.mono ?_
            rintro e w4 ⟨rfl, b4⟩
            have b4 := b3.trans (b4.mono b3.size)
            go_wp2
            go_roundw
            case rel => exact ⟨k + 1, _, t + x, by omega, by go_num, rfl, rfl, Z2.out, HN, HF2, by omega, by omega, b4⟩
            case measure => simp only [intOf]; omega
          · have HN : Hid (S ++ ⟨#[48]⟩ = bstr (fbS xs s (k + 1)).1) := Lib.hid (by rw [E1, ← bstr_app, HS.out]; rfl)
            have HF2 : Hid ((fbS xs s (k + 1)).2 = t) := Lib.hid (by rw [E2]; omega)
            clear E1 E2 p2 p1
            go_wp2_with fail
            refine (M1 _ hb).out.mono ?_
            rintro e w3 ⟨rfl, b3⟩
            have b3 := hb.trans (b3.mono hz0)
            go_wp2_with fail
            refine (M2 _ b3).out.mono ?_
            rintro e w4 ⟨rfl, b4⟩
            have b4 := b3.trans (b4.mono b3.size)
            go_wp2
            go_roundw
            case rel => exact ⟨k + 1, _, t, by omega, by go_num, rfl, rfl, Z3.out, HN, HF2, by omega, by omega, b4⟩
            case measure => simp only [intOf]; omega
        · have hke : k = xs.length := by omega
          subst hke
          go_wp2
          go_ret2
          exact ⟨ret_sb (by rw [R.out.2, HS.out]) R.out.1.symm, hb⟩
  · have ha : askV xs s = false := by simpa using ha
    have R := Lib.hid (fb_no (xs := xs) (s := s) (by simp [fbB, ha]))
    go_enter Try.func25, Try.ntmps25
    go_wp2_with fail
    refine (siAsked_any _ _ _ _ h hl).mono ?_
    rintro e w1 ⟨rfl, b1⟩
    go_wp2_with fail
    go_ret2
    exact ⟨ret_sb R.out.2.symm R.out.1.symm, b1⟩

end Go.Proofs.Ytcgifmoddojnmaa
