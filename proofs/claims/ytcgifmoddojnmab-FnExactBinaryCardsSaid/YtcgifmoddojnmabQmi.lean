/-
  Words of the other texts that the law on AddCard wants besides. No condition.
-/
import Derived.Test.YtcgifmoddojnmabQr
import Derived.Test.YtcgifmoddojnmabQcs
namespace Go.Proofs.Ytcgifmoddojnmab
open Go.RowKit

theorem Sp.src {w : World} {v : Value} {xs : List Int} (h : Sp w v xs) : Src w v xs := by
  obtain ⟨b, off, cap, hv, _, _, hb, hc⟩ := h
  exact .inr ⟨b, off, cap, hv, hb, hc⟩
theorem Ow.mid {C D B : Nat} {w w' : World} {v : Value} {ys : List Int} (h : Ow w B v ys) (m : Mid C D w w') (hr : ∀ g, v.ownBlock = some g → g < C ∨ D ≤ g) : Ow w' B v ys := by
  obtain ⟨h1, h2⟩ := h
  refine ⟨h1, ?_⟩
  rcases h2 with h2 | ⟨g, cap, cur, hv, hg, hh, r⟩
  · exact .inl h2
  · refine .inr ⟨g, cap, cur, hv, hg, ?_, r⟩
    rw [m.block g (Array.getElem?_eq_some_iff.1 hh).1 (hr g (by rw [hv]; rfl))]; exact hh

theorem card_v (w : World) (n : Int) (v : Value) : (w.alloc (.cells #[.int .i64 n, v] 24)).cell? ⟨w.heap.size, 1, none⟩ = some v := by
  have h := heap_alloc_new w (.cells #[.int .i64 n, v] 24)
  simp only [World.cell?, h]; rfl

theorem Owa.mid {w w' : World} {B D C E : Nat} {v : Value} {pl : List (List Int)} (h : Owa w B D v pl) (m : Mid C E w w') (hE : E ≤ B) : Owa w' B D v pl := by
  obtain ⟨vals, h⟩ := h
  refine ⟨vals, ?_, fun j hj => (h.row j hj).mid m (fun g hg => .inr (by have := (World.ownsRow.lt (h.row j hj) g hg).1; omega)), h.sep, h.low⟩
  exact row1_below' h.out (fun q hq => m.block q (World.ownsRow.lt h.out q hq).2 (.inr (by have := (World.ownsRow.lt h.out q hq).1; omega)))
theorem Ow.midO {w w' : World} {B C E : Nat} {v : Value} {ys : List Int} (h : Ow w B v ys) (m : Mid C E w w') (hE : E ≤ B) : Ow w' B v ys :=
  h.mid m fun g hg => .inr (by have := (World.ownsRow.lt h g hg).1; omega)
theorem Oww.srcL {w : World} {B D : Nat} {v : Value} {pl : List (List Int)} (h : Oww w B D v pl) : SrcL w v pl := by
  obtain ⟨g, U, bs, hv, hg, hr, h2, ho⟩ := h
  refine ⟨some ⟨g, 0, none⟩, pl.length, hv, fun h0 => ⟨g, 0, rfl, hr.lt, fun j hj => ⟨U j, ?_, ?_⟩⟩⟩
  · rw [Nat.zero_add]; exact hr.cell hj
  · obtain ⟨ys, e, o, a⟩ := h2.own j (Nat.zero_le _) hj
    exact ((ho j hj).sp a).src
theorem own_lt {w : World} {B C : Nat} {u : Value} {ys : List Int} (h : Ow w B u ys) (hu : OwnAt u C) : C < w.heap.size := (World.ownsRow.lt h C hu).2
end Go.Proofs.Ytcgifmoddojnmab
