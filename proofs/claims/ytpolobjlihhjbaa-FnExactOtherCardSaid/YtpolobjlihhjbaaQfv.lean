/-
  Lists of cards with a card turned are few. No condition but good cards.
-/
import Derived.Test.YtpolobjlihhjbaaQfw
import Derived.Test.YtpolobjlihhjbaaKgq
namespace Go.Proofs.Ytpolobjlihhjbaa
open Go.RowKit

theorem ocR_few (n : Int) (Ls : List (List Int)) (k : Int) : Few2 (ocR n Ls k) := by
  unfold ocR
  split
  · rename_i h
    unfold dcB at h
    rw [Bool.and_eq_true] at h
    have g := caB_iff.1 h.1
    have hk := inB_iff.1 h.2
    have h0 := g.len
    have h1 := g.hi
    have hn := sLK_len (fun x => !inL (rowL Ls k.toNat) x) n.toNat
    have h2 := tot_row_le (pl := Ls.set k.toNat (sLK (fun x => !inL (rowL Ls k.toNat) x) n.toNat)) (c := 128) (fun j hj => by
      rw [List.length_set] at hj
      rw [rowL_set (by omega)]
      split
      · omega
      · exact g.row hj) _ (Nat.le_refl _)
    unfold Few2
    have h3 : (Ls.set k.toNat (sLK (fun x => !inL (rowL Ls k.toNat) x) n.toNat)).length = Ls.length := List.length_set
    omega
  · exact few2_nil
end Go.Proofs.Ytpolobjlihhjbaa
