/-
  Lists of cards with a card more are few. No condition but good cards.
-/
import Derived.Test.YtcgifmoddojnmabQfw
import Derived.Test.YtcgifmoddojnmabKgr
namespace Go.Proofs.Ytcgifmoddojnmab
open Go.RowKit

theorem acR_few (n : Int) (Ls : List (List Int)) (ys : List Int) : Few2 (acR n Ls ys) := by
  unfold acR
  split
  · rename_i h
    unfold acB at h
    rw [Bool.and_eq_true, Bool.and_eq_true] at h
    have g := caB_iff.1 h.1
    have h0 := g.len
    have h1 := g.hi
    have h5 := g.lo
    have h4 := ris_len (by omega) _ (risB_iff.1 h.2.2)
    have h2 := tot_row_le (pl := Ls ++ [ys]) (c := 128) (fun j hj => by
      rw [List.length_append, List.length_singleton] at hj
      by_cases e : j < Ls.length
      · have : rowL (Ls ++ [ys]) j = rowL Ls j := by
          unfold rowL
          rw [List.getD_eq_getElem?_getD, List.getD_eq_getElem?_getD, List.getElem?_append_left e]
        rw [this]
        exact g.row e
      · have e2 : j = Ls.length := by omega
        subst e2
        have : rowL (Ls ++ [ys]) Ls.length = ys := by
          unfold rowL
          rw [List.getD_eq_getElem?_getD, List.getElem?_append_right (Nat.le_refl _)]
          simp
        rw [this]
        omega) _ (Nat.le_refl _)
    unfold Few2
    have h3 : (Ls ++ [ys]).length = Ls.length + 1 := by simp
    omega
  · exact few2_nil
end Go.Proofs.Ytcgifmoddojnmab
