/-
  Keys that are structs of one integer, in the maps of this program: each has its own, and every key is one. Conditions: integers that fit.
-/
import Derived.Test.YtkadmopnfmbedaaClosed
import Derived.Test.YtkadmopnfmbedaaPutd
import Derived.Test.YtkadmopnfmbedaaCsum
import Derived.Maps.RangeWalk
import Derived.Maps.OwnSet
import Derived.Maps.Ext
import Derived.DeepKeys4
namespace Go.Proofs.Ytkadmopnfmbedaa
open Go.RowKit Go.Maps Go.WideMaps

theorem rowK : (72 : TypeId) < Try.prog.types.size := of_decide_eq_true (by kernel_rfl)
theorem wideK : (match Try.prog.underlying 72 with | some (.array _ _) | some (.struct _) => true | _ => false) = true := by rw [Try.underlying72]
theorem lawK : KeyLaw Try.prog 72 := deep_law_laid laidOutT (m := 2) (by omega) rowK (by kernel_rfl) wideK
theorem KK : Keyed Try.prog 72 := Keyed.of_law lawK
theorem keyTypeK : Try.prog.keyType 72 = true := by kernel_rfl
def sumV (s : Int) : Value := .agg #[.int .i64 s]
theorem szK : Try.prog.types.size + 1 = 113 + 1 + 1 := by kernel_rfl
theorem cellsK : Try.prog.cellsOf 72 = 1 := by kernel_rfl
theorem cellsI : Try.prog.cellsOf 3 = 1 := by kernel_rfl
theorem lits_key (v : Value) : Try.prog.keyLits (113 + 1 + 1) 72 [v] = (Try.prog.keyLits (113 + 1) 3 [v]).map (fun l => l) := by
  rw [Program.keyLits.eq_def]
  simp only [Try.underlying72, cellsK]
  simp [cellsI]
  cases Try.prog.keyLits 114 3 [v] <;> simp
theorem lits_int (v : Value) : Try.prog.keyLits (113 + 1) 3 [v] = match v with | .int q n => if q = .i64 ∧ (Lit.int .i64 n).wf = true then some [.int .i64 n] else none | _ => none := by
  rw [Program.keyLits.eq_def]
  simp only [Try.underlying3]
  cases v <;> rfl
theorem key_test (s : Int) (h : (Lit.int .i64 s).wf = true) : ∃ l, keyOf Try.prog 72 (sumV s) = some l := by
  unfold keyOf
  rw [Try.underlying72]
  have hf : (sumV s).formed Try.prog 72 = true := by simp [sumV, Value.formed, Try.underlying72, cellsK]
  have hc : (sumV s).cells.toList = [.int .i64 s] := rfl
  simp only [keyTypeK, hf, hc, szK, lits_key, lits_int, h, Bool.and_self, if_true, and_self]
  exact ⟨_, rfl⟩
theorem key_inv (v : Value) (l : Lit) (h : keyOf Try.prog 72 v = some l) : ∃ s : Int, v = sumV s ∧ (Lit.int .i64 s).wf = true := by
  unfold keyOf at h
  rw [Try.underlying72] at h
  simp only [keyTypeK, Bool.true_and, szK] at h
  by_cases hf : v.formed Try.prog 72 = true
  · rw [if_pos hf] at h
    unfold Value.formed at hf
    cases v with
    | agg cs =>
      simp [Try.underlying72, cellsK] at hf
      obtain ⟨c, rfl⟩ : ∃ c, cs = #[c] := by
        cases cs with
        | mk l => cases l with
          | nil => simp at hf
          | cons a l => cases l with
            | nil => exact ⟨a, rfl⟩
            | cons b l => simp at hf
      have hc : (Value.agg #[c]).cells.toList = [c] := rfl
      rw [hc, lits_key, lits_int] at h
      cases c <;> simp at h
      obtain ⟨⟨rfl, hw⟩, _⟩ := h
      exact ⟨_, rfl, hw⟩
    | _ => simp [Try.underlying72] at hf
  · rw [if_neg hf] at h; cases h
/-- The key of a sum. -/
noncomputable def KL (s : Int) : Lit := (keyOf Try.prog 72 (sumV s)).getD .nil
theorem wf_sum {s : Int} (h0 : 0 ≤ s) (h1 : s ≤ 1000000) : (Lit.int .i64 s).wf = true := WalkArith.wf_i64 (by omega)
theorem key_of {s : Int} (h : (Lit.int .i64 s).wf = true) : keyOf Try.prog 72 (sumV s) = some (KL s) := by
  obtain ⟨l, hl⟩ := key_test s h
  unfold KL
  rw [hl]; rfl
theorem KL_inj {s t : Int} (hs : (Lit.int .i64 s).wf = true) (ht : (Lit.int .i64 t).wf = true) (h : KL s = KL t) : s = t := by
  have h1 := key_of hs
  rw [h] at h1
  have h2 := KK.inj h1 (key_of ht)
  simpa [sumV] using h2
theorem KL_key {s : Int} (hs : (Lit.int .i64 s).wf = true) : Go.WideAt.IsKeyLit (KL s) := KK.key (key_of hs)
end Go.Proofs.Ytkadmopnfmbedaa
