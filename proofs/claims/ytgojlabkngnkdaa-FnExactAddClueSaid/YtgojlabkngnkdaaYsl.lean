/-
  Parts of a slice of clues: the first ones, one alone. Conditions: within bounds. FirstSolution in the model and in the program.
-/
import Derived.Test.YtgojlabkngnkdaaYlk
import Derived.Test.YtgojlabkngnkdaaYlw
namespace Go.Proofs.Ytgojlabkngnkdaa
open Go.RowKit

theorem cA_take {cs : List Cl} {k j : Nat} (hj : j < k) : cA (cs.take k) j = cA cs j := by
  unfold cA; rw [List.getD_eq_getElem?_getD, List.getD_eq_getElem?_getD, List.getElem?_take, if_pos hj]
theorem Cv.take {w : World} {p : Option Addr} {cap k c2 : Nat} {cs : List Cl} (h : Cv w (.slice p cs.length cap) cs) (hk : k ≤ cs.length) (hc : k ≤ c2) (hm : c2 ≤ maxLen) : Cv w (.slice p k c2) (cs.take k) := by
  obtain ⟨q, cap2, e, _, _, hx⟩ := h
  have hl : (cs.take k).length = k := by rw [List.length_take]; omega
  simp only [Value.slice.injEq, true_and] at e
  obtain ⟨rfl, rfl⟩ := e
  refine ⟨p, c2, by rw [hl], by omega, hm, fun h0 => ?_⟩
  rw [hl] at h0
  obtain ⟨b, off, hp, hb, hc3⟩ := hx (by omega)
  refine ⟨b, off, hp, hb, fun j hj => ?_⟩
  rw [hl] at hj
  rw [cA_take hj]
  exact hc3 j (by omega)
theorem Cv.one {w : World} {b off cap k c2 : Nat} {cs : List Cl} (h : Cv w (.slice (some ⟨b, off, none⟩) cs.length cap) cs) (hk : k < cs.length) (hc : 1 ≤ c2) (hm : c2 ≤ maxLen) : Cv w (.slice (some ⟨b, off + k * 3, none⟩) 1 c2) [cA cs k] := by
  obtain ⟨q, cap2, e, _, _, hx⟩ := h
  simp only [Value.slice.injEq, true_and] at e
  obtain ⟨rfl, rfl⟩ := e
  obtain ⟨b2, off2, hp, hb, hc3⟩ := hx (by omega)
  simp only [Option.some.injEq, Addr.mk.injEq, and_true] at hp
  obtain ⟨rfl, rfl⟩ := hp
  refine ⟨_, c2, rfl, hc, hm, fun _ => ⟨b, off + k * 3, rfl, hb, fun j hj => ?_⟩⟩
  obtain rfl : j = 0 := by simpa using hj
  have := hc3 k hk
  simpa [cA] using this
theorem Cv.facts {w : World} {p : Option Addr} {cap : Nat} {cs : List Cl} (h : Cv w (.slice p cs.length cap) cs) : cs.length ≤ cap ∧ cap ≤ maxLen := by
  obtain ⟨q, cap2, e, h1, h2, _⟩ := h
  simp only [Value.slice.injEq, true_and] at e
  obtain ⟨rfl, rfl⟩ := e
  exact ⟨h1, h2⟩
end Go.Proofs.Ytgojlabkngnkdaa
