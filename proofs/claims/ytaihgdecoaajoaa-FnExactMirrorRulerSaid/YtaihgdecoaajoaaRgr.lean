/-
  GrowRuler in the model, by its contract. Condition: slices of at most 2^40 numbers.
-/
import Derived.Test.YtaihgdecoaajoaaRdr
namespace Go.Proofs.Ytaihgdecoaajoaa
open Go.RowKit

def grL (ms : List Int) (a : Int) : List Int := ms.map fun m => a * m
theorem grL_len (ms : List Int) (a : Int) : (grL ms a).length = ms.length := by simp [grL]
theorem grK_next {ms : List Int} {a y : Int} {k : Nat} (hk : k < ms.length) (hy : ms.getD k 0 = y) : grL (ms.take (k + 1)) a = grL (ms.take k) a ++ [a * y] := by
  unfold grL
  rw [List.take_add_one, List.getElem?_eq_getElem hk, List.map_append]
  have e : ms[k] = y := by rw [← hy, List.getD_eq_getElem?_getD, List.getElem?_eq_getElem hk]; rfl
  rw [e]; rfl
noncomputable def grB (ms : List Int) (a : Int) : Bool := rulB ms && inB a 1 60 && rulB (grL ms a)
noncomputable def grR (ms : List Int) (a : Int) : List Int := if grB ms a = true then grL ms a else []
theorem grR_len (ms : List Int) (a : Int) (hl : ms.length ≤ 1099511627776) : (grR ms a).length ≤ 1099511627776 := by
  unfold grR
  split
  · rw [grL_len]; exact hl
  · simp

set_option maxHeartbeats 8000000 in
set_option maxRecDepth 20000 in
theorem specGrowRuler_any (v : Value) (ms : List Int) (a1 : Int) (w : World) (h : Sp w v ms) (hl : ms.length ≤ 1099511627776) :
    Calls Try.prog 56 #[v, .int .i64 a1] w fun e w' => ∃ u, e = .returned (.tuple #[u, .bool (grB ms a1)]) ∧ Ow w' w.heap.size u (grR ms a1) ∧ Below w.heap.size w w' := by
  have HS := Lib.hid h.sv
  by_cases hg : rulB ms = true
  · have S := rulB_iff.1 hg
    have RG := Lib.hid (ruGood_any v ms w HS.out hl)
    rw [hg] at RG
    by_cases hi : inB a1 1 60 = true
    · have hlb := S.last_bd
      have hib := inB_iff.1 hi
      have HT := Lib.hid S
      have R : Hid (grB ms a1 = rulB (grL ms a1)) := Lib.hid (by simp [grB, hg, hi])
      obtain ⟨hl1, hl2, hl3⟩ := hlb
      obtain ⟨ha1, ha2⟩ := hib
      obtain ⟨b, off, cap, rfl, hcap, hcm, hbl, hc⟩ := h
      have HC := Lib.hid hc
      clear S hc hcm hcap hl1 hl2
      go_enter Try.func56, Try.ntmps56
      go_wp2_with fail
      refine RG.out.mono ?_
      rintro e w1 ⟨rfl, b1⟩
      clear RG
      go_wp2_with fail
      refine (l1In_any _ _ _ _).mono ?_
      rw [hi]
      rintro e w1' ⟨rfl, rfl⟩
      go_wp2
      go_loopw [6, 19] (fun t i wr => ∃ k : Nat, k ≤ ms.length ∧ i = .int .i64 k ∧ Ow wr w.heap.size t (grL (ms.take k) a1) ∧ Below w.heap.size w wr) (fun _ i _ => ms.length - (intOf i).toNat)
      case atStart => exact ⟨0, Nat.zero_le _, rfl, World.ownsRow_nil _ _ _ _, b1⟩
      case round =>
        obtain ⟨k, hk, rfl, ho, hb⟩ := hrel
        have hz := hb.size
        have hdl : (grL (ms.take k) a1).length ≤ ms.length := by rw [grL_len, List.length_take]; omega
        by_cases hlt : k < ms.length
        · have hcell := (hb.cell (p := ⟨b, off + k, none⟩) hbl).trans (HC.out k hlt)
          obtain ⟨y, ey⟩ : ∃ y, ms.getD k 0 = y := ⟨_, rfl⟩
          have hyb := HT.out.ris.1 k hlt
          rw [ey] at hcell hyb
          have S2 := Lib.hid (grK_next (a := a1) hlt ey)
          have hp : 0 ≤ a1 * y ∧ a1 * y ≤ 60 * 60 := ⟨Int.mul_nonneg (by omega) (by omega), Int.mul_le_mul ha2 hyb.2 (by omega) (by omega)⟩
          obtain ⟨P, eP⟩ : ∃ P, a1 * y = P := ⟨_, rfl⟩
          rw [eP] at hp S2
          have hw : IntKind.i64.wrap (a1 * y) = P := by rw [eP]; exact IntWalk.i64_in _ (by omega)
          clear ey eP hyb
          go_wp2_with (at_builtin; refine wpList_append_src rfl _ _ rfl w.heap.size _ (grL (ms.take k) a1) rfl (ho.alloc _) _ [P] rfl (src_one _ _) (by simp only [List.length_cons, List.length_nil]; omega) (by simp; omega) ?_; intro v' w3 h3 g3)
          have b3 := (hb.alloc hz _).trans ((ho.alloc _).grown (by simp; omega) g3)
          clear ho g3 hb
          go_roundw
          case rel => exact ⟨k + 1, by omega, by go_num, by rw [S2.out]; exact h3, b3⟩
          case measure => simp only [intOf]; omega
        · have hke : k = ms.length := by omega
          subst hke
          rw [List.take_length] at ho hdl
          have GG := Lib.hid (ruGood_any _ (grL ms a1) wr ho.sv (by omega))
          by_cases hgg : rulB (grL ms a1) = true
          · have R2 := Lib.hid (show grB ms a1 = true by rw [R.out, hgg])
            have Q := Lib.hid (show grR ms a1 = grL ms a1 by simp [grR, R2.out])
            rw [hgg] at GG
            go_wp2_with fail
            refine GG.out.mono ?_
            rintro e w3 ⟨rfl, b3⟩
            have ho := ho.below b3 (Nat.le_refl _)
            go_wp2_with fail
            go_ret2
            exact ⟨_, ret_lb rfl R2.out.symm, by rw [Q.out]; exact ho, nxt hb b3⟩
          · have hgg : rulB (grL ms a1) = false := by simpa using hgg
            have R2 := Lib.hid (show grB ms a1 = false by rw [R.out, hgg])
            have Q := Lib.hid (show grR ms a1 = [] by simp [grR, R2.out])
            rw [hgg] at GG
            go_wp2_with fail
            refine GG.out.mono ?_
            rintro e w3 ⟨rfl, b3⟩
            go_wp2_with fail
            go_ret2
            exact ⟨_, ret_lb rfl R2.out.symm, by rw [Q.out]; exact World.ownsRow_nil _ _ _ _, nxt hb b3⟩
    · have hi : inB a1 1 60 = false := by simpa using hi
      have R := Lib.hid (show grB ms a1 = false by simp [grB, hi])
      have Q := Lib.hid (show grR ms a1 = [] by simp [grR, R.out])
      clear S h
      go_enter Try.func56, Try.ntmps56
      go_wp2_with fail
      refine RG.out.mono ?_
      rintro e w1 ⟨rfl, b1⟩
      clear RG
      go_wp2_with fail
      refine (l1In_any _ _ _ _).mono ?_
      rw [hi]
      rintro e w1' ⟨rfl, rfl⟩
      go_wp2_with fail
      go_ret2
      exact ⟨_, ret_lb rfl R.out.symm, by rw [Q.out]; exact World.ownsRow_nil _ _ _ _, b1⟩
  · have hg : rulB ms = false := by simpa using hg
    have R := Lib.hid (show grB ms a1 = false by simp [grB, hg])
    have Q := Lib.hid (show grR ms a1 = [] by simp [grR, R.out])
    have RG := Lib.hid (ruGood_any v ms w HS.out hl)
    rw [hg] at RG
    clear h
    go_enter Try.func56, Try.ntmps56
    go_wp2_with fail
    refine RG.out.mono ?_
    rintro e w1 ⟨rfl, b1⟩
    go_wp2_with fail
    go_ret2
    exact ⟨_, ret_lb rfl R.out.symm, by rw [Q.out]; exact World.ownsRow_nil _ _ _ _, b1⟩

end Go.Proofs.Ytaihgdecoaajoaa
