/-
  BestChange in the model, by its contract, and the program's closure that tells what comes next. Condition: slices of at most 2^40 numbers.
-/
import Derived.Test.YtdgadabfahmdmaaVbp
import Derived.Test.YtdgadabfahmdmaaVct
import Derived.Test.YtdgadabfahmdmaaVgm
namespace Go.Proofs.Ytdgadabfahmdmaa
open Go.RowKit

theorem sp_drop {w : World} {b off cap k : Nat} {xs : List Int} (hb : b < w.heap.size) (hk : k ≤ xs.length) (hcap : xs.length ≤ cap) (hcm : cap ≤ maxLen) (hc : ∀ j, j < xs.length → w.cell? ⟨b, off + j, none⟩ = some (.int .i64 (xs.getD j 0))) :
    Sp w (if cap = k then .slice (some ⟨b, off, none⟩) 0 0 else .slice (some ⟨b, off + k, none⟩) (xs.length - k) (cap - k)) (xs.drop k) := by
  by_cases h : cap = k
  · rw [if_pos h]
    have hl : (xs.drop k).length = 0 := by simp; omega
    exact ⟨b, off, 0, by rw [hl], by rw [hl]; omega, by omega, hb, fun j hj => by omega⟩
  · rw [if_neg h]
    have hl : (xs.drop k).length = xs.length - k := by simp
    refine ⟨b, off + k, cap - k, by rw [hl], by rw [hl]; omega, by omega, hb, fun j hj => ?_⟩
    rw [Nat.add_assoc, hc (k + j) (by omega), List.getD_eq_getElem?_getD, List.getD_eq_getElem?_getD, List.getElem?_drop]
theorem pos_drop {cs : List Nat} (hp : Pos cs) (k : Nat) : Pos (cs.drop k) := fun c hc => hp c (List.mem_of_mem_drop hc)

set_option maxHeartbeats 2000000 in
set_option maxRecDepth 20000 in
theorem cnFewer_any (v : Value) (cs : List Nat) (m : Nat) (w : World) (h : Sv w v (iL cs)) (hp : Pos cs) (hl : cs.length ≤ 8) (hm : m ≤ 1048576) :
    Calls Try.prog 63 #[v, .int .i64 m] w fun e w' => ∃ u, e = .returned u ∧ Ow w' w.heap.size u (fewT cs m) ∧ OwnAt u w.heap.size ∧ Below w.heap.size w w' := by
  have CF := Lib.hid (cnFew_any v cs m w h hp hl hm)
  have hlen := iL_len cs
  obtain ⟨p, cap, rfl, hx⟩ := h
  rw [hlen] at CF ⊢
  clear hx hlen
  by_cases h0 : 0 < cs.length
  · have hi : (0 : Int) < cs.length := by omega
    go_enter Try.func63, Try.ntmps63
    go_wp2_with fail
    refine CF.out.mono ?_
    rintro e w1 ⟨u, rfl, h1, h2, h3⟩
    go_wp2_with fail
    go_ret
    exact ⟨_, rfl, h1, h2, h3⟩
  · have hi : ¬ (0 : Int) < cs.length := by omega
    have hn : cs = [] := List.length_eq_zero_iff.1 (by omega)
    have HT : Hid (∀ j, j < m + 1 → (fewT cs m).getD j 0 = if j = 0 then 0 else -1) := Lib.hid (fun j hj => by
      rw [fewT_at _ _ _ hj, hn]
      unfold fwI
      rw [fo_nil]
      by_cases e : j = 0 <;> simp [e, big])
    have hfl := Lib.hid (fewT_len cs m)
    have hmk := run_make_row' (P := Try.prog) 22 3 (.int .i64 0) 8 Try.underlying22 Try.infoI rfl .i64 .i64 (m + 1) (by omega) (by omega)
    rw [Int.natCast_succ] at hmk
    clear CF hn
    go_enter Try.func63, Try.ntmps63
    go_wp2
    go_loopw [6] (fun i wr => ∃ val : Nat, 1 ≤ val ∧ val ≤ m + 1 ∧ i = .int .i64 val ∧ wr.rowIs w.heap.size 3 (m + 1) (fun j => .int .i64 (if j < val then (if j = 0 then 0 else -1) else 0)) ∧ Below w.heap.size w wr) (fun i _ => m + 1 - (intOf i).toNat)
    case atStart => exact ⟨1, Nat.le_refl _, by omega, rfl, (World.rowIs_made w _ _ _).congr (fun j _ => by by_cases e : j = 0 <;> simp [e]), (Below.refl _ _).alloc (Nat.le_refl _) _⟩
    case round =>
      obtain ⟨val, hv1, hv2, rfl, hrow, hb⟩ := hrel
      by_cases hlt : val ≤ m
      · have hold := hrow.cell (i := val) (by omega)
        have hfr := hrow.frozen val
        have hi1 : (val : Int) < (m : Int) + 1 := by omega
        have hi0 : (0 : Int) ≤ val := by omega
        clear hmk
        go_wp2
        go_roundw
        case rel =>
          refine ⟨val + 1, by omega, by omega, by go_num, (hrow.set val _).congr (fun j _ => ?_), hb.setCell (Nat.le_refl _) _⟩
          by_cases e : j = val
          · subst e
            rw [if_pos rfl, if_pos (show j < j + 1 by omega), if_neg (show ¬ j = 0 by omega)]
          · rw [if_neg e]
            by_cases h2 : j < val
            · rw [if_pos h2, if_pos (show j < val + 1 by omega)]
            · rw [if_neg h2, if_neg (show ¬ j < val + 1 by omega)]
        case measure => simp [intOf]; omega
      · clear hmk
        have hve : val = m + 1 := by omega
        go_wp2
        go_ret
        subst hve
        refine ⟨_, rfl, ow_of_row hrow (by rw [hfl.out]) (by unfold maxLen; omega) (fun j hj => by rw [if_pos hj, HT.out j hj]), rfl, hb⟩

noncomputable def bcL (xs : List Int) (a : Int) : List Nat := if fcB xs a = true then lf (nL xs) a.toNat else []
noncomputable def bcR (xs : List Int) (a : Int) : List Int := iL (bcL xs a)
theorem bcR_no {xs : List Int} {a : Int} (h : fcB xs a = false) : bcR xs a = [] := by simp [bcR, bcL, h, iL]
theorem bcR_yes {cs : List Nat} {n : Nat} (h : Cn cs) (hn : n ≤ 20000) (hf : fo cs n < big) : bcR (iL cs) n = iL (lf cs n) := by
  simp [bcR, bcL, fcB_yes h hn hf, nL_iL]
theorem bcR_len (xs : List Int) (a : Int) (h : xs.length ≤ 1099511627776) : (bcR xs a).length ≤ 1099511627776 := by
  unfold bcR bcL
  rw [iL_len]
  split
  · rename_i hb
    have hq : askC xs a = true := by simp only [fcB, Bool.and_eq_true] at hb; exact hb.1
    have hcn : cnsB xs = true := by simp only [askC, Bool.and_eq_true] at hq; exact hq.1
    obtain ⟨cs, rfl, hc⟩ := cn_of hcn
    rw [nL_iL, lf_len cs hc.pos]; have := hc.eight; omega
  · simp
end Go.Proofs.Ytdgadabfahmdmaa
