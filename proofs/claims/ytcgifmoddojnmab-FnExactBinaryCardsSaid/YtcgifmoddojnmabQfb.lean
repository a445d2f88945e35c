/-
  The binary cards are few. No condition.
-/
import Derived.Test.YtcgifmoddojnmabQbn
import Derived.Test.YtcgifmoddojnmabQfw
namespace Go.Proofs.Ytcgifmoddojnmab
open Go.RowKit

theorem bcR_few (n : Int) : Few2 (bcR n) := by
  unfold bcR
  split
  · rename_i h
    have hb := inB_iff.1 h
    have h7 := flen_le hb.1 hb.2
    have hl := bcK_len n.toNat (flen n)
    have h2 := tot_row_le (pl := bcK n.toNat (flen n)) (c := 128) (fun j hj => by
      rw [hl] at hj
      have : rowL (bcK n.toNat (flen n)) j = cbK j n.toNat := by
        unfold rowL bcK
        rw [List.getD_eq_getElem?_getD, List.getElem?_map, List.getElem?_range hj]
        rfl
      rw [this]
      have := cbK_len j n.toNat
      omega) _ (Nat.le_refl _)
    unfold Few2
    omega
  · exact few2_nil
end Go.Proofs.Ytcgifmoddojnmab
