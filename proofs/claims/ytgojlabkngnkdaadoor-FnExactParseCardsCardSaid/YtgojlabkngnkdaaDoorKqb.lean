/-
  The model's splitting at the commas, by its contract. Condition: a text of at most 2^30 bytes.
  The model's splitting at the points, by its contract. Condition: a text of at most 2^30 bytes.
  The model's splitting at the hashes, by its contract. Condition: a text of at most 2^30 bytes.
  The model's reading of a text of cards, by its contract. Condition: a text of at most 2^20 bytes.
-/
import Derived.Test.YtgojlabkngnkdaaDoorPspC
import Derived.Test.YtgojlabkngnkdaaDoorPspP
import Derived.Test.YtgojlabkngnkdaaDoorPspH
import Derived.Test.YtgojlabkngnkdaaDoorKqa
import Derived.Deep.RegionHeld3
namespace Go.Proofs.YtgojlabkngnkdaaDoor.C
open Go.RowKit

theorem byte_eq {b : UInt8} (h : (b.toNat : Int) = 44) : b = 44 := by
  apply UInt8.toNat_inj.1
  have : (44 : UInt8).toNat = 44 := rfl
  omega

set_option maxHeartbeats 2000000 in
set_option maxRecDepth 20000 in
theorem l1Split_any (l : List UInt8) (w : World) (hl : l.length ≤ 1073741824) :
    Calls Tryd.prog 63 #[.string (bstr l), .int .u8 44] w fun e w' => ∃ u, e = .returned u ∧ Ws w' w.heap.size u ((splitW l).map bstr) ∧ Below w.heap.size w w' := by
  have hsz := bstr_size l
  obtain ⟨s, es⟩ : ∃ s, bstr l = s := ⟨_, rfl⟩
  have ES := Lib.hid es
  rw [es] at hsz ⊢
  clear es
  go_enter Tryd.func63, Tryd.ntmps63
  go_wp2
  go_loopw [5, 6, 7] (fun v f i wr => ∃ (k frm : Nat) (out : List (List UInt8)), k ≤ l.length ∧ frm ≤ k ∧ i = .int .i64 k ∧ f = .int .i64 frm ∧ out.length ≤ k ∧ SplAt l k frm out ∧ Ws wr w.heap.size v (out.map bstr) ∧ Below w.heap.size w wr) (fun _ _ i _ => l.length - (intOf i).toNat)
  case atStart => exact ⟨0, 0, [], Nat.zero_le _, Nat.le_refl _, rfl, rfl, Nat.le_refl _, SplAt.zero l, World.ownsRow_nil _ _ _ _, Below.refl _ _⟩
  case round =>
    obtain ⟨k, frm, out, hk, hf, rfl, rfl, hol, hs, ho, hb⟩ := hrel
    have hz := hb.size
    by_cases hlt : k < l.length
    · have hB : ∀ wx : World, (Instr.index 9 (.string s) (.int .i64 (k : Int))).run Tryd.prog wx = .ok (.int .u8 ((l.getD k 0).toNat : Int)) wx := fun wx => by
        rw [← ES.out]; exact byte_at l k hlt 9 Tryd.underlying9 wx
      have hC : ∀ wx : World, (Instr.slice 9 (.string s) (some (.int .i64 (frm : Int))) (some (.int .i64 (k : Int))) none).run Tryd.prog wx = .ok (.string (bstr ((l.take k).drop frm))) wx := fun wx => by
        rw [← ES.out]; exact cut_at l frm k hf hk 9 Tryd.underlying9 wx
      by_cases hc : l.getD k 0 = 44
      · have HS := Lib.hid (hs.cut hlt hc)
        rw [hc] at hB
        obtain ⟨D, eD⟩ : ∃ D, bstr ((l.take k).drop frm) = D := ⟨_, rfl⟩
        rw [eD] at hC
        have ED := Lib.hid eD
        have HO := Lib.hid (show (out.map bstr).length = out.length by simp)
        clear hs hc eD
        go_wp2_with (at_builtin; refine wpList_append_str rfl _ _ rfl w.heap.size _ (out.map bstr) rfl (ho.alloc _) _ D rfl (by simp) (by rw [HO.out]; omega) (by simp; omega) ?_; intro v' w3 h3 g3)
        have b3 := (hb.alloc hz _).trans ((ho.alloc _).grown (by simp; omega) g3)
        clear ho g3 hb hB hC
        go_roundw
        case rel => exact ⟨k + 1, k + 1, _, by omega, Nat.le_refl _, by go_num, by go_num, by simp; omega, HS.out, by rw [List.map_append, List.map_singleton, ED.out]; exact h3, b3⟩
        case measure => simp only [intOf]; omega
      · have HS := Lib.hid (hs.step hlt hc)
        have hne : ¬ ((l.getD k 0).toNat : Int) = 44 := fun e => hc (byte_eq e)
        obtain ⟨x, ex⟩ : ∃ x : Int, ((l.getD k 0).toNat : Int) = x := ⟨_, rfl⟩
        rw [ex] at hne hB
        clear hs hc ex hC
        go_wp2
        go_roundw
        case rel => exact ⟨k + 1, frm, out, by omega, by omega, by go_num, rfl, by omega, HS.out, ho, hb⟩
        case measure => simp only [intOf]; omega
    · have hkl : k = l.length := by omega
      subst hkl
      have hC : ∀ wx : World, (Instr.slice 9 (.string s) (some (.int .i64 (frm : Int))) none none).run Tryd.prog wx = .ok (.string (bstr (l.drop frm))) wx := fun wx => by
        rw [← ES.out]; exact cut_from l frm hf 9 Tryd.underlying9 wx
      have HS := Lib.hid hs.done
      obtain ⟨D, eD⟩ : ∃ D, bstr (l.drop frm) = D := ⟨_, rfl⟩
      rw [eD] at hC
      have ED := Lib.hid eD
      have HO := Lib.hid (show (out.map bstr).length = out.length by simp)
      clear hs eD
      go_wp2_with (at_builtin; refine wpList_append_str rfl _ _ rfl w.heap.size _ (out.map bstr) rfl (ho.alloc _) _ D rfl (by simp) (by rw [HO.out]; omega) (by simp; omega) ?_; intro v' w3 h3 g3)
      have b3 := (hb.alloc hz _).trans ((ho.alloc _).grown (by simp; omega) g3)
      go_ret
      exact ⟨_, rfl, by rw [HS.out, List.map_append, List.map_singleton, ED.out]; exact h3, b3⟩

end Go.Proofs.YtgojlabkngnkdaaDoor.C

namespace Go.Proofs.YtgojlabkngnkdaaDoor.P
open Go.RowKit

theorem byte_eq {b : UInt8} (h : (b.toNat : Int) = 46) : b = 46 := by
  apply UInt8.toNat_inj.1
  have : (46 : UInt8).toNat = 46 := rfl
  omega

set_option maxHeartbeats 2000000 in
set_option maxRecDepth 20000 in
theorem l1Split_any (l : List UInt8) (w : World) (hl : l.length ≤ 1073741824) :
    Calls Tryd.prog 63 #[.string (bstr l), .int .u8 46] w fun e w' => ∃ u, e = .returned u ∧ Ws w' w.heap.size u ((splitW l).map bstr) ∧ Below w.heap.size w w' := by
  have hsz := bstr_size l
  obtain ⟨s, es⟩ : ∃ s, bstr l = s := ⟨_, rfl⟩
  have ES := Lib.hid es
  rw [es] at hsz ⊢
  clear es
  go_enter Tryd.func63, Tryd.ntmps63
  go_wp2
  go_loopw [5, 6, 7] (fun v f i wr => ∃ (k frm : Nat) (out : List (List UInt8)), k ≤ l.length ∧ frm ≤ k ∧ i = .int .i64 k ∧ f = .int .i64 frm ∧ out.length ≤ k ∧ SplAt l k frm out ∧ Ws wr w.heap.size v (out.map bstr) ∧ Below w.heap.size w wr) (fun _ _ i _ => l.length - (intOf i).toNat)
  case atStart => exact ⟨0, 0, [], Nat.zero_le _, Nat.le_refl _, rfl, rfl, Nat.le_refl _, SplAt.zero l, World.ownsRow_nil _ _ _ _, Below.refl _ _⟩
  case round =>
    obtain ⟨k, frm, out, hk, hf, rfl, rfl, hol, hs, ho, hb⟩ := hrel
    have hz := hb.size
    by_cases hlt : k < l.length
    · have hB : ∀ wx : World, (Instr.index 9 (.string s) (.int .i64 (k : Int))).run Tryd.prog wx = .ok (.int .u8 ((l.getD k 0).toNat : Int)) wx := fun wx => by
        rw [← ES.out]; exact byte_at l k hlt 9 Tryd.underlying9 wx
      have hC : ∀ wx : World, (Instr.slice 9 (.string s) (some (.int .i64 (frm : Int))) (some (.int .i64 (k : Int))) none).run Tryd.prog wx = .ok (.string (bstr ((l.take k).drop frm))) wx := fun wx => by
        rw [← ES.out]; exact cut_at l frm k hf hk 9 Tryd.underlying9 wx
      by_cases hc : l.getD k 0 = 46
      · have HS := Lib.hid (hs.cut hlt hc)
        rw [hc] at hB
        obtain ⟨D, eD⟩ : ∃ D, bstr ((l.take k).drop frm) = D := ⟨_, rfl⟩
        rw [eD] at hC
        have ED := Lib.hid eD
        have HO := Lib.hid (show (out.map bstr).length = out.length by simp)
        clear hs hc eD
        go_wp2_with (at_builtin; refine wpList_append_str rfl _ _ rfl w.heap.size _ (out.map bstr) rfl (ho.alloc _) _ D rfl (by simp) (by rw [HO.out]; omega) (by simp; omega) ?_; intro v' w3 h3 g3)
        have b3 := (hb.alloc hz _).trans ((ho.alloc _).grown (by simp; omega) g3)
        clear ho g3 hb hB hC
        go_roundw
        case rel => exact ⟨k + 1, k + 1, _, by omega, Nat.le_refl _, by go_num, by go_num, by simp; omega, HS.out, by rw [List.map_append, List.map_singleton, ED.out]; exact h3, b3⟩
        case measure => simp only [intOf]; omega
      · have HS := Lib.hid (hs.step hlt hc)
        have hne : ¬ ((l.getD k 0).toNat : Int) = 46 := fun e => hc (byte_eq e)
        obtain ⟨x, ex⟩ : ∃ x : Int, ((l.getD k 0).toNat : Int) = x := ⟨_, rfl⟩
        rw [ex] at hne hB
        clear hs hc ex hC
        go_wp2
        go_roundw
        case rel => exact ⟨k + 1, frm, out, by omega, by omega, by go_num, rfl, by omega, HS.out, ho, hb⟩
        case measure => simp only [intOf]; omega
    · have hkl : k = l.length := by omega
      subst hkl
      have hC : ∀ wx : World, (Instr.slice 9 (.string s) (some (.int .i64 (frm : Int))) none none).run Tryd.prog wx = .ok (.string (bstr (l.drop frm))) wx := fun wx => by
        rw [← ES.out]; exact cut_from l frm hf 9 Tryd.underlying9 wx
      have HS := Lib.hid hs.done
      obtain ⟨D, eD⟩ : ∃ D, bstr (l.drop frm) = D := ⟨_, rfl⟩
      rw [eD] at hC
      have ED := Lib.hid eD
      have HO := Lib.hid (show (out.map bstr).length = out.length by simp)
      clear hs eD
      go_wp2_with (at_builtin; refine wpList_append_str rfl _ _ rfl w.heap.size _ (out.map bstr) rfl (ho.alloc _) _ D rfl (by simp) (by rw [HO.out]; omega) (by simp; omega) ?_; intro v' w3 h3 g3)
      have b3 := (hb.alloc hz _).trans ((ho.alloc _).grown (by simp; omega) g3)
      go_ret
      exact ⟨_, rfl, by rw [HS.out, List.map_append, List.map_singleton, ED.out]; exact h3, b3⟩

end Go.Proofs.YtgojlabkngnkdaaDoor.P

namespace Go.Proofs.YtgojlabkngnkdaaDoor.H
open Go.RowKit

theorem byte_eq {b : UInt8} (h : (b.toNat : Int) = 35) : b = 35 := by
  apply UInt8.toNat_inj.1
  have : (35 : UInt8).toNat = 35 := rfl
  omega

set_option maxHeartbeats 2000000 in
set_option maxRecDepth 20000 in
theorem l1Split_any (l : List UInt8) (w : World) (hl : l.length ≤ 1073741824) :
    Calls Tryd.prog 63 #[.string (bstr l), .int .u8 35] w fun e w' => ∃ u, e = .returned u ∧ Ws w' w.heap.size u ((splitW l).map bstr) ∧ Below w.heap.size w w' := by
  have hsz := bstr_size l
  obtain ⟨s, es⟩ : ∃ s, bstr l = s := ⟨_, rfl⟩
  have ES := Lib.hid es
  rw [es] at hsz ⊢
  clear es
  go_enter Tryd.func63, Tryd.ntmps63
  go_wp2
  go_loopw [5, 6, 7] (fun v f i wr => ∃ (k frm : Nat) (out : List (List UInt8)), k ≤ l.length ∧ frm ≤ k ∧ i = .int .i64 k ∧ f = .int .i64 frm ∧ out.length ≤ k ∧ SplAt l k frm out ∧ Ws wr w.heap.size v (out.map bstr) ∧ Below w.heap.size w wr) (fun _ _ i _ => l.length - (intOf i).toNat)
  case atStart => exact ⟨0, 0, [], Nat.zero_le _, Nat.le_refl _, rfl, rfl, Nat.le_refl _, SplAt.zero l, World.ownsRow_nil _ _ _ _, Below.refl _ _⟩
  case round =>
    obtain ⟨k, frm, out, hk, hf, rfl, rfl, hol, hs, ho, hb⟩ := hrel
    have hz := hb.size
    by_cases hlt : k < l.length
    · have hB : ∀ wx : World, (Instr.index 9 (.string s) (.int .i64 (k : Int))).run Tryd.prog wx = .ok (.int .u8 ((l.getD k 0).toNat : Int)) wx := fun wx => by
        rw [← ES.out]; exact byte_at l k hlt 9 Tryd.underlying9 wx
      have hC : ∀ wx : World, (Instr.slice 9 (.string s) (some (.int .i64 (frm : Int))) (some (.int .i64 (k : Int))) none).run Tryd.prog wx = .ok (.string (bstr ((l.take k).drop frm))) wx := fun wx => by
        rw [← ES.out]; exact cut_at l frm k hf hk 9 Tryd.underlying9 wx
      by_cases hc : l.getD k 0 = 35
      · have HS := Lib.hid (hs.cut hlt hc)
        rw [hc] at hB
        obtain ⟨D, eD⟩ : ∃ D, bstr ((l.take k).drop frm) = D := ⟨_, rfl⟩
        rw [eD] at hC
        have ED := Lib.hid eD
        have HO := Lib.hid (show (out.map bstr).length = out.length by simp)
        clear hs hc eD
        go_wp2_with (at_builtin; refine wpList_append_str rfl _ _ rfl w.heap.size _ (out.map bstr) rfl (ho.alloc _) _ D rfl (by simp) (by rw [HO.out]; omega) (by simp; omega) ?_; intro v' w3 h3 g3)
        have b3 := (hb.alloc hz _).trans ((ho.alloc _).grown (by simp; omega) g3)
        clear ho g3 hb hB hC
        go_roundw
        case rel => exact ⟨k + 1, k + 1, _, by omega, Nat.le_refl _, by go_num, by go_num, by simp; omega, HS.out, by rw [List.map_append, List.map_singleton, ED.out]; exact h3, b3⟩
        case measure => simp only [intOf]; omega
      · have HS := Lib.hid (hs.step hlt hc)
        have hne : ¬ ((l.getD k 0).toNat : Int) = 35 := fun e => hc (byte_eq e)
        obtain ⟨x, ex⟩ : ∃ x : Int, ((l.getD k 0).toNat : Int) = x := ⟨_, rfl⟩
        rw [ex] at hne hB
        clear hs hc ex hC
        go_wp2
        go_roundw
        case rel => exact ⟨k + 1, frm, out, by omega, by omega, by go_num, rfl, by omega, HS.out, ho, hb⟩
        case measure => simp only [intOf]; omega
    · have hkl : k = l.length := by omega
      subst hkl
      have hC : ∀ wx : World, (Instr.slice 9 (.string s) (some (.int .i64 (frm : Int))) none none).run Tryd.prog wx = .ok (.string (bstr (l.drop frm))) wx := fun wx => by
        rw [← ES.out]; exact cut_from l frm hf 9 Tryd.underlying9 wx
      have HS := Lib.hid hs.done
      obtain ⟨D, eD⟩ : ∃ D, bstr (l.drop frm) = D := ⟨_, rfl⟩
      rw [eD] at hC
      have ED := Lib.hid eD
      have HO := Lib.hid (show (out.map bstr).length = out.length by simp)
      clear hs eD
      go_wp2_with (at_builtin; refine wpList_append_str rfl _ _ rfl w.heap.size _ (out.map bstr) rfl (ho.alloc _) _ D rfl (by simp) (by rw [HO.out]; omega) (by simp; omega) ?_; intro v' w3 h3 g3)
      have b3 := (hb.alloc hz _).trans ((ho.alloc _).grown (by simp; omega) g3)
      go_ret
      exact ⟨_, rfl, by rw [HS.out, List.map_append, List.map_singleton, ED.out]; exact h3, b3⟩

end Go.Proofs.YtgojlabkngnkdaaDoor.H

namespace Go.Proofs.YtgojlabkngnkdaaDoor
open Go.RowKit

theorem box2_snd {w : World} {b : Nat} {u v y : Value} {t : TypeId} (h : w.heap[b]? = some (.cells #[u, v] t (0, 0))) : (w.setCell ⟨b, 1, none⟩ y).heap[b]? = some (.cells #[u, y] t (0, 0)) := by
  simp [World.setCell, Array.getElem?_modify, h]
theorem cell_far2 {w : World} {g k i : Nat} {x u v : Value} (h : w.cell? ⟨g, i, none⟩ = some x) (hn : g ≠ k) : ((w.setCell ⟨k, 0, none⟩ u).setCell ⟨k, 1, none⟩ v).cell? ⟨g, i, none⟩ = some x := by
  rw [World.cell?_setCell_other _ _ _ _ (by intro e; injection e with e; omega), World.cell?_setCell_other _ _ _ _ (by intro e; injection e with e; omega)]; exact h
theorem ret_ca {n : Int} {u : Value} {a b : Bool} (h : a = b) : Ending.returned (.tuple #[.agg #[.int .i64 n, u], .bool a]) = .returned (.tuple #[.agg #[.int .i64 n, u], .bool b]) := by rw [h]
theorem rowW_len (w : List UInt8) : (rowW w).length ≤ w.length + 1 := by
  unfold rowW
  split
  · simp
  · rw [List.length_map]; exact P.splitW_len w
theorem ckL_len {l : List UInt8} (hl : l.length ≤ 1048576) : (ckL l).length ≤ 1048577 ∧ ∀ j, j < (ckL l).length → (rowL (ckL l) j).length ≤ 1048577 := by
  have hb : (bhW l).length ≤ l.length := by
    unfold bhW
    rw [List.getD_eq_getElem?_getD]
    cases e : (H.splitW l)[1]? with
    | none => simp
    | some x => exact H.splitW_mem_len l x (List.mem_of_getElem? e)
  unfold ckL
  split
  · exact ⟨by simp, fun j hj => by simp at hj⟩
  · have := C.splitW_len (bhW l)
    refine ⟨by rw [List.length_map]; omega, fun j hj => ?_⟩
    rw [List.length_map] at hj
    have hw := List.getElem?_eq_getElem hj
    have hm := C.splitW_mem_len (bhW l) _ (List.mem_of_getElem? hw)
    unfold rowL
    rw [List.getD_eq_getElem?_getD, List.getElem?_map, hw]
    have := rowW_len ((C.splitW (bhW l))[j])
    simp only [Option.map_some, Option.getD_some]
    omega
set_option maxHeartbeats 16000000 in
set_option maxRecDepth 20000 in
theorem caParse_any (l : List UInt8) (w : World) (hl : l.length ≤ 1048576) :
    Calls Tryd.prog 34 #[.string (bstr l)] w fun e w' => ∃ n p m c, e = .returned (.tuple #[.agg #[.int .i64 n, .slice p m c], .bool (ckB l)]) ∧ (ckB l = true → n = ckN l ∧ Owa w' w.heap.size w'.heap.size (.slice p m c) (ckL l)) ∧ Below w.heap.size w w' := by
  have hsz := bstr_size l
  obtain ⟨W, eW⟩ : ∃ W, w.alloc (.cells #[.int .i64 0, .slice none 0 0] 28) = W := ⟨_, rfl⟩
  have hb0 : Below w.heap.size w W := by rw [← eW]; exact (Below.refl _ _).alloc (Nat.le_refl _) _
  have ZW : W.heap.size = w.heap.size + 1 := by rw [← eW]; simp
  have HR := Lib.hid (show W.heap[w.heap.size]? = some (.cells #[.int .i64 0, .slice none 0 0] 28 (0, 0)) by rw [← eW]; exact heap_alloc_new w _)
  have SP := Lib.hid (H.l1Split_any l W (by omega))
  obtain ⟨s, es⟩ : ∃ s, bstr l = s := ⟨_, rfl⟩
  have ES := Lib.hid es
  rw [es] at hsz SP ⊢
  clear es
  have hm0 : 0 < ((H.splitW l).map bstr).length := by
    rw [List.length_map]
    have : (H.splitW l).length ≠ 0 := fun e => H.splitW_ne l (List.length_eq_zero_iff.1 e)
    omega
  go_enter Tryd.func34, Tryd.ntmps34
  go_wp2_with fail
  clear eW
  refine SP.out.mono ?_
  rintro e w2 ⟨u2, rfl, ow2, b2⟩
  clear SP
  obtain ⟨gw, cw2, ow, rfl, hgw, HOW, HWC⟩ := ow2.obj hm0
  rw [List.length_map]
  have hb2 := nxt hb0 b2
  have hR := (b2.block _ (by omega)).trans HR.out
  have z2 := b2.size
  have lw := box_lt HOW
  clear b2 ow2 HR hm0 hb0
  by_cases h8 : (8000 : Int) < (l.length : Int)
  · have N := Lib.hid (pc_no (l := l) fun n Ls hg ht => by
      have := txtC_short hg
      rw [ht] at this
      omega).1
    obtain ⟨r0, r1, f0, f1⟩ := cells2_of hR
    clear HWC
    go_wp2_with fail
    obtain ⟨fs, hfs⟩ := Tryd.cardU
    refine bodyPost_ret (v := .tuple #[.agg #[.int .i64 0, .slice none 0 0], .bool false]) (results_twob rfl _ _ w.heap.size _ _ fs rfl ?_ ?_ hfs Tryd.cardI _ rfl) rfl ⟨0, _, _, _, ret_ca N.out.symm, (fun h => by rw [N.out] at h; cases h), (hb2.setCell (p := ⟨w.heap.size, 0, none⟩) (Nat.le_refl _) _).setCell (p := ⟨w.heap.size, 1, none⟩) (Nat.le_refl _) _⟩
    · simp [World.cell?_setCell_other, World.cell?_setCell_same, go_sem, r0]
    · simp [World.cell?_setCell_other, World.cell?_setCell_same, go_sem, r1]
  by_cases h2 : (H.splitW l).length = 2
  · obtain ⟨p0, p1, e2⟩ : ∃ p0 p1, H.splitW l = [p0, p1] := by
      match hq : H.splitW l, h2 with
      | [p0, p1], _ => exact ⟨p0, p1, rfl⟩
    have hpl : p0.length ≤ 1048576 ∧ p1.length ≤ 1048576 := by
      have q := H.splitW_mem_len l
      rw [e2] at q
      have := q p0 (by simp); have := q p1 (by simp)
      omega
    have EN0 : Hid (ckN l = readW p0) := Lib.hid (by unfold ckN; rw [e2]; rfl)
    have EL : Hid (ckL l = if p1 = [] then [] else (C.splitW p1).map rowW) := Lib.hid (by unfold ckL bhW; rw [e2]; rfl)
    rw [e2] at HWC ⊢
    have Q0 := fun w => l1Read_any p0 w (by omega)
    have v0 := HWC w2 HOW 0 (bstr p0) rfl
    have HWC2 := fun W' h => HWC W' h 1 (bstr p1) rfl
    have hs1 := bstr_size p1
    have hl1 : p1.length ≤ 1048576 := hpl.2
    generalize readW p0 = N0 at *
    generalize bstr p0 = D0 at *
    obtain ⟨W3, eW3⟩ : ∃ x, w2.alloc (.cells #[.int .i64 N0, .slice none 0 0] 28) = x := ⟨_, rfl⟩
    have b3 : Below w2.heap.size w2 W3 := by rw [← eW3]; exact (Below.refl _ _).alloc (Nat.le_refl _) _
    have zW3 : W3.heap.size = w2.heap.size + 1 := by rw [← eW3]; simp
    have hC3 : W3.heap[w2.heap.size]? = some (.cells #[.int .i64 N0, .slice none 0 0] 28 (0, 0)) := by rw [← eW3]; exact heap_alloc_new w2 _
    have SP2 := C.l1Split_any p1 W3 (by omega)
    have v1 := HWC2 W3 ((b3.block _ lw).trans HOW)
    obtain ⟨D1, eD1⟩ : ∃ D, bstr p1 = D := ⟨_, rfl⟩
    rw [eD1] at v1 SP2 hs1
    have hR3 := (b3.block _ (by omega)).trans hR
    have hb3 := nxt hb2 b3
    have EW3 := Lib.hid eW3
    rw [← eW3] at v1
    clear eW3
    clear e2 HWC HWC2 hpl b3 eD1 hR HOW
    by_cases hp : p1 = []
    · have EL2 : Hid (ckL l = []) := Lib.hid (by rw [EL.out, if_pos hp])
      have hz1 : D1.size = 0 := by rw [hs1, hp]; rfl
      have h1z : ¬ (0 : Int) < ((D1.size : Nat) : Int) := by omega
      clear SP2 hp hs1 EL h1z
      go_wp2_with fail
      refine (Q0 _).mono ?_
      rintro e wz ⟨rfl, hwz⟩
      subst hwz
      clear v0 Q0
      go_wp2_with fail
      rw [EW3.out]
      clear v1 EW3
      obtain ⟨wr, hwr⟩ : ∃ x, x = W3 := ⟨_, rfl⟩
      subst hwr
      have hR := hR3
      have hC := hC3
      have hb := hb3
      have HO : Hid (Owa wr wr.heap.size wr.heap.size (.slice none 0 0) (ckL l)) := Lib.hid (by rw [EL2.out]; exact Owa.nil _ _ _)
      have HLT : Hid (w.heap.size < wr.heap.size) := Lib.hid (by omega)
      clear hR3 hC3 hb3
      have SA := fun (W' : World) (h : Below wr.heap.size wr W') => And.intro (cells2_of ((h.block _ (box_lt hR)).trans hR)) (cells2_of ((h.block _ (box_lt hC)).trans hC))
      have HSA := Lib.hid SA
      have hkl := ckL_len (l := l) hl
      have PG0 := fun (W' : World) (h : Below wr.heap.size wr W') => caGood_any N0 _ (ckL l) W' (HO.out.svv.below h (Nat.le_refl _)) (by omega) (fun j hj => by have := hkl.2 j hj; omega)
      have TT1 := fun (W' : World) (h : Below wr.heap.size wr W') (hg : caB N0 (ckL l) = true) => caText_any N0 _ (ckL l) W' (HO.out.svv.below h (Nat.le_refl _)) (caB_g hg)
      obtain ⟨⟨-, -, -, -⟩, ga0, ga1, -, -⟩ := SA wr.drew (Below.refl _ _).drew
      clear SA hkl
      rcases pc_cases l h2 with ⟨hg, hp⟩ | ⟨hg, hp, ht⟩ | ⟨hg, hp, ht⟩
      · rw [EN0.out] at hg
        rw [hg] at PG0
        have PG := fun W' h => Lib.hid (PG0 W' h)
        have N := Lib.hid hp
        clear PG0 TT1 hg hp h2
        go_upto_region 18 with (fail)
        refine wp_region_held_drew (S := fun w' => w'.cell? ⟨w2.heap.size, 0, none⟩ = some (.int .i64 N0) ∧ w'.cell? ⟨w2.heap.size, 1, none⟩ = some (.slice none 0 0)) (by kernel_rfl) ⟨ga0, ga1⟩ (fun hH => ?_)
        refine wpAnyH_take (i := 0) (v := ?v1) rfl (by kernel_rfl) (by kernel_rfl) (by kernel_rfl) (fun _ _ _ h => h) (Or.inl ⟨by rfl, ?hy1⟩) hH ?rest1
        case hy1 => (intro w hSw; (try dsimp only at hSw); go_simp <;> with_reducible rfl)
        try simp only [Act.put]
        refine wpAnyH_take (i := 1) (v := ?v2) rfl (by kernel_rfl) (by kernel_rfl) (by kernel_rfl) (fun _ _ _ h => h) (Or.inl ⟨by rfl, ?hy2⟩) hH ?rest2
        case hy2 => (intro w hSw; (try dsimp only at hSw); go_simp <;> with_reducible rfl)
        try simp only [Act.put]
        refine wpAnyH_ready (rs := [2]) (by kernel_rfl) (by simp) (AllReadyH.cons rfl (fun K hK => ?_) AllReadyH.nil)
        go_simp
        go_at_call 26
        refine ((PG _ (Below.refl _ _).drew).out).mono ?_
        rintro e w7 ⟨rfl, b7⟩
        have B7 : Below wr.heap.size wr w7 := (Below.refl _ _).drew.trans b7
        obtain ⟨⟨r0, r1, r2, r3⟩, h0, h1, -, -⟩ := HSA.out w7 B7
        go_wp2_with fail
        refine hK.out _ _ ⟨h0, h1⟩ (fun hH => ?_)
        clear hK K
        try simp only [Act.put]
        refine wpAnyH_take (i := 3) (v := ?v3) rfl (by kernel_rfl) (by kernel_rfl) (by kernel_rfl) (fun _ _ _ h => h) (Or.inl ⟨by rfl, ?hy3⟩) hH ?rest3
        case hy3 => (intro w hSw; (try dsimp only at hSw); go_simp <;> with_reducible rfl)
        try simp only [Act.put]
        refine wpAnyH_take (i := 4) (v := undef) rfl (by kernel_rfl) (by kernel_rfl) (by kernel_rfl) (fun _ _ _ h => h) (Or.inr ⟨by rfl, rfl⟩) hH ?_
        try simp only [Act.put]
        refine wpAnyH_take (i := 5) (v := undef) rfl (by kernel_rfl) (by kernel_rfl) (by kernel_rfl) (fun _ _ _ h => h) (Or.inr ⟨by rfl, rfl⟩) hH ?_
        try simp only [Act.put]
        refine wpAnyH_take (i := 6) (v := undef) rfl (by kernel_rfl) (by kernel_rfl) (by kernel_rfl) (fun _ _ _ h => h) (Or.inr ⟨by rfl, rfl⟩) hH ?_
        try simp only [Act.put]
        refine wpAnyH_take (i := 7) (v := undef) rfl (by kernel_rfl) (by kernel_rfl) (by kernel_rfl) (fun _ _ _ h => h) (Or.inr ⟨by rfl, rfl⟩) hH ?_
        try simp only [Act.put]
        refine wpAnyH_take (i := 8) (v := ?v4) rfl (by kernel_rfl) (by kernel_rfl) (by kernel_rfl) (fun _ _ _ h => h) (Or.inl ⟨by rfl, ?hy4⟩) hH ?rest4
        case hy4 => (intro w hSw; (try dsimp only at hSw); go_simp <;> with_reducible rfl)
        try simp only [Act.put]
        refine wpAnyH_ready (rs := [9]) (by kernel_rfl) (by simp) (AllReadyH.cons rfl (fun K hK => ?_) AllReadyH.nil)
        go_simp
        refine hK.out _ _ ⟨cell_far2 h0 (by omega), cell_far2 h1 (by omega)⟩ (fun hH => ?_)
        clear hK K
        try simp only [Act.put]
        refine wpAnyH_ready (rs := [10]) (by kernel_rfl) (by simp) (AllReadyH.cons rfl (fun K hK => ?_) AllReadyH.nil)
        go_simp
        refine hK.out _ _ hH (fun hH => ?_)
        clear hK K
        try simp only [Act.put]
        refine wpAnyH_done (by kernel_rfl) ?_ _
        go_wp2_with fail
        obtain ⟨fs, hfs⟩ := Tryd.cardU
        refine bodyPost_ret (v := .tuple #[.agg #[.int .i64 N0, .slice none 0 0], .bool false]) (results_twob rfl _ _ w.heap.size _ _ fs rfl ?_ ?_ hfs Tryd.cardI _ rfl) rfl ⟨N0, _, _, _, ret_ca N.out.symm, (fun h => by rw [N.out] at h; cases h), ((nxt hb B7).setCell (p := ⟨w.heap.size, 0, none⟩) (Nat.le_refl _) _).setCell (p := ⟨w.heap.size, 1, none⟩) (Nat.le_refl _) _⟩
        · simp [World.cell?_setCell_other, World.cell?_setCell_same, go_sem, r0]
        · simp [World.cell?_setCell_other, World.cell?_setCell_same, go_sem, r1]
      · rw [EN0.out] at hg ht
        have TT0 := fun W' h => TT1 W' h hg
        rw [hg] at PG0
        have PG := fun W' h => Lib.hid (PG0 W' h)
        have N := Lib.hid hp
        have hq : ((bstr (txtC N0 (ckL l))).toList == s.toList) = true := by rw [ht, ES.out]; simp
        generalize bstr (txtC N0 (ckL l)) = D at *
        have TT := fun W' h => Lib.hid (TT0 W' h)
        clear PG0 TT0 TT1 hg hp ht h2
        go_upto_region 18 with (fail)
        refine wp_region_held_drew (S := fun w' => w'.cell? ⟨w2.heap.size, 0, none⟩ = some (.int .i64 N0) ∧ w'.cell? ⟨w2.heap.size, 1, none⟩ = some (.slice none 0 0)) (by kernel_rfl) ⟨ga0, ga1⟩ (fun hH => ?_)
        refine wpAnyH_take (i := 0) (v := ?v5) rfl (by kernel_rfl) (by kernel_rfl) (by kernel_rfl) (fun _ _ _ h => h) (Or.inl ⟨by rfl, ?hy5⟩) hH ?rest5
        case hy5 => (intro w hSw; (try dsimp only at hSw); go_simp <;> with_reducible rfl)
        try simp only [Act.put]
        refine wpAnyH_take (i := 1) (v := ?v6) rfl (by kernel_rfl) (by kernel_rfl) (by kernel_rfl) (fun _ _ _ h => h) (Or.inl ⟨by rfl, ?hy6⟩) hH ?rest6
        case hy6 => (intro w hSw; (try dsimp only at hSw); go_simp <;> with_reducible rfl)
        try simp only [Act.put]
        refine wpAnyH_ready (rs := [2]) (by kernel_rfl) (by simp) (AllReadyH.cons rfl (fun K hK => ?_) AllReadyH.nil)
        go_simp
        go_at_call 26
        refine ((PG _ (Below.refl _ _).drew).out).mono ?_
        rintro e w7 ⟨rfl, b7⟩
        have B7 : Below wr.heap.size wr w7 := (Below.refl _ _).drew.trans b7
        obtain ⟨⟨r0, r1, r2, r3⟩, h0, h1, -, -⟩ := HSA.out w7 B7
        go_wp2_with fail
        refine hK.out _ _ ⟨h0, h1⟩ (fun hH => ?_)
        clear hK K
        try simp only [Act.put]
        refine wpAnyH_take (i := 3) (v := ?v7) rfl (by kernel_rfl) (by kernel_rfl) (by kernel_rfl) (fun _ _ _ h => h) (Or.inl ⟨by rfl, ?hy7⟩) hH ?rest7
        case hy7 => (intro w hSw; (try dsimp only at hSw); go_simp <;> with_reducible rfl)
        try simp only [Act.put]
        refine wpAnyH_take (i := 4) (v := ?v8) rfl (by kernel_rfl) (by kernel_rfl) (by kernel_rfl) (fun _ _ _ h => h) (Or.inl ⟨by rfl, ?hy8⟩) hH ?rest8
        case hy8 => (intro w hSw; (try dsimp only at hSw); go_simp <;> with_reducible rfl)
        try simp only [Act.put]
        refine wpAnyH_take (i := 6) (v := ?v9) rfl (by kernel_rfl) (by kernel_rfl) (by kernel_rfl) (fun _ _ _ h => h) (Or.inl ⟨by rfl, ?hy9⟩) hH ?rest9
        case hy9 => (intro w hSw; (try dsimp only at hSw); go_simp <;> with_reducible rfl)
        try simp only [Act.put]
        refine wpAnyH_ready (rs := [5]) (by kernel_rfl) (by simp) (AllReadyH.cons rfl (fun K hK => ?_) AllReadyH.nil)
        go_simp
        go_at_call 27
        refine ((TT _ B7).out).mono ?_
        rintro e w8 ⟨rfl, b8⟩
        have B8 := nxt B7 b8
        clear r0 r1 r2 r3
        obtain ⟨⟨r0, r1, r2, r3⟩, i0, i1, -, -⟩ := HSA.out w8 B8
        go_wp2_with fail
        refine hK.out _ _ ⟨i0, i1⟩ (fun hH => ?_)
        clear hK K
        try simp only [Act.put]
        refine wpAnyH_take (i := 7) (v := ?v10) rfl (by kernel_rfl) (by kernel_rfl) (by kernel_rfl) (fun _ _ _ h => h) (Or.inl ⟨by rfl, ?hy10⟩) hH ?rest10
        case hy10 => (intro w hSw; (try dsimp only at hSw); go_simp <;> with_reducible rfl)
        try simp only [Act.put]
        refine wpAnyH_take (i := 8) (v := ?v11) rfl (by kernel_rfl) (by kernel_rfl) (by kernel_rfl) (fun _ _ _ h => h) (Or.inl ⟨by rfl, ?hy11⟩) hH ?rest11
        case hy11 => (intro w hSw; (try dsimp only at hSw); go_simp <;> with_reducible rfl)
        try simp only [Act.put]
        refine wpAnyH_ready (rs := [9]) (by kernel_rfl) (by simp) (AllReadyH.cons rfl (fun K hK => ?_) AllReadyH.nil)
        go_simp
        refine hK.out _ _ ⟨cell_far2 i0 (by omega), cell_far2 i1 (by omega)⟩ (fun hH => ?_)
        clear hK K
        try simp only [Act.put]
        refine wpAnyH_ready (rs := [10]) (by kernel_rfl) (by simp) (AllReadyH.cons rfl (fun K hK => ?_) AllReadyH.nil)
        go_simp
        refine hK.out _ _ hH (fun hH => ?_)
        clear hK K
        try simp only [Act.put]
        refine wpAnyH_done (by kernel_rfl) ?_ _
        go_wp2_with fail
        obtain ⟨fs, hfs⟩ := Tryd.cardU
        refine bodyPost_ret (v := .tuple #[.agg #[.int .i64 N0, .slice none 0 0], .bool true]) (results_twob rfl _ _ w.heap.size _ _ fs rfl ?_ ?_ hfs Tryd.cardI _ rfl) rfl ⟨N0, _, _, _, ret_ca N.out.symm, (fun _ => ⟨EN0.out.symm, ((HO.out.below B8 (Nat.le_refl _)).abv (((Abv.refl _ _).setCell HLT.out 0 _).setCell HLT.out 1 _)).mono (Nat.le_of_lt HLT.out) (by have := B8.size; simp [World.setCell]; omega)⟩), ((nxt hb B8).setCell (p := ⟨w.heap.size, 0, none⟩) (Nat.le_refl _) _).setCell (p := ⟨w.heap.size, 1, none⟩) (Nat.le_refl _) _⟩
        · simp [World.cell?_setCell_other, World.cell?_setCell_same, go_sem, r0]
        · simp [World.cell?_setCell_other, World.cell?_setCell_same, go_sem, r1]
      · rw [EN0.out] at hg ht
        have TT0 := fun W' h => TT1 W' h hg
        rw [hg] at PG0
        have PG := fun W' h => Lib.hid (PG0 W' h)
        have N := Lib.hid hp
        have hq : ((bstr (txtC N0 (ckL l))).toList == s.toList) = false := by rw [← ES.out, bstr_list, bstr_list, beq_eq_false_iff_ne]; exact ht
        generalize bstr (txtC N0 (ckL l)) = D at *
        have TT := fun W' h => Lib.hid (TT0 W' h)
        clear PG0 TT0 TT1 hg hp ht h2
        go_upto_region 18 with (fail)
        refine wp_region_held_drew (S := fun w' => w'.cell? ⟨w2.heap.size, 0, none⟩ = some (.int .i64 N0) ∧ w'.cell? ⟨w2.heap.size, 1, none⟩ = some (.slice none 0 0)) (by kernel_rfl) ⟨ga0, ga1⟩ (fun hH => ?_)
        refine wpAnyH_take (i := 0) (v := ?v12) rfl (by kernel_rfl) (by kernel_rfl) (by kernel_rfl) (fun _ _ _ h => h) (Or.inl ⟨by rfl, ?hy12⟩) hH ?rest12
        case hy12 => (intro w hSw; (try dsimp only at hSw); go_simp <;> with_reducible rfl)
        try simp only [Act.put]
        refine wpAnyH_take (i := 1) (v := ?v13) rfl (by kernel_rfl) (by kernel_rfl) (by kernel_rfl) (fun _ _ _ h => h) (Or.inl ⟨by rfl, ?hy13⟩) hH ?rest13
        case hy13 => (intro w hSw; (try dsimp only at hSw); go_simp <;> with_reducible rfl)
        try simp only [Act.put]
        refine wpAnyH_ready (rs := [2]) (by kernel_rfl) (by simp) (AllReadyH.cons rfl (fun K hK => ?_) AllReadyH.nil)
        go_simp
        go_at_call 26
        refine ((PG _ (Below.refl _ _).drew).out).mono ?_
        rintro e w7 ⟨rfl, b7⟩
        have B7 : Below wr.heap.size wr w7 := (Below.refl _ _).drew.trans b7
        obtain ⟨⟨r0, r1, r2, r3⟩, h0, h1, -, -⟩ := HSA.out w7 B7
        go_wp2_with fail
        refine hK.out _ _ ⟨h0, h1⟩ (fun hH => ?_)
        clear hK K
        try simp only [Act.put]
        refine wpAnyH_take (i := 3) (v := ?v14) rfl (by kernel_rfl) (by kernel_rfl) (by kernel_rfl) (fun _ _ _ h => h) (Or.inl ⟨by rfl, ?hy14⟩) hH ?rest14
        case hy14 => (intro w hSw; (try dsimp only at hSw); go_simp <;> with_reducible rfl)
        try simp only [Act.put]
        refine wpAnyH_take (i := 4) (v := ?v15) rfl (by kernel_rfl) (by kernel_rfl) (by kernel_rfl) (fun _ _ _ h => h) (Or.inl ⟨by rfl, ?hy15⟩) hH ?rest15
        case hy15 => (intro w hSw; (try dsimp only at hSw); go_simp <;> with_reducible rfl)
        try simp only [Act.put]
        refine wpAnyH_take (i := 6) (v := ?v16) rfl (by kernel_rfl) (by kernel_rfl) (by kernel_rfl) (fun _ _ _ h => h) (Or.inl ⟨by rfl, ?hy16⟩) hH ?rest16
        case hy16 => (intro w hSw; (try dsimp only at hSw); go_simp <;> with_reducible rfl)
        try simp only [Act.put]
        refine wpAnyH_ready (rs := [5]) (by kernel_rfl) (by simp) (AllReadyH.cons rfl (fun K hK => ?_) AllReadyH.nil)
        go_simp
        go_at_call 27
        refine ((TT _ B7).out).mono ?_
        rintro e w8 ⟨rfl, b8⟩
        have B8 := nxt B7 b8
        clear r0 r1 r2 r3
        obtain ⟨⟨r0, r1, r2, r3⟩, i0, i1, -, -⟩ := HSA.out w8 B8
        go_wp2_with fail
        refine hK.out _ _ ⟨i0, i1⟩ (fun hH => ?_)
        clear hK K
        try simp only [Act.put]
        refine wpAnyH_take (i := 7) (v := ?v17) rfl (by kernel_rfl) (by kernel_rfl) (by kernel_rfl) (fun _ _ _ h => h) (Or.inl ⟨by rfl, ?hy17⟩) hH ?rest17
        case hy17 => (intro w hSw; (try dsimp only at hSw); go_simp <;> with_reducible rfl)
        try simp only [Act.put]
        refine wpAnyH_take (i := 8) (v := ?v18) rfl (by kernel_rfl) (by kernel_rfl) (by kernel_rfl) (fun _ _ _ h => h) (Or.inl ⟨by rfl, ?hy18⟩) hH ?rest18
        case hy18 => (intro w hSw; (try dsimp only at hSw); go_simp <;> with_reducible rfl)
        try simp only [Act.put]
        refine wpAnyH_ready (rs := [9]) (by kernel_rfl) (by simp) (AllReadyH.cons rfl (fun K hK => ?_) AllReadyH.nil)
        go_simp
        refine hK.out _ _ ⟨cell_far2 i0 (by omega), cell_far2 i1 (by omega)⟩ (fun hH => ?_)
        clear hK K
        try simp only [Act.put]
        refine wpAnyH_ready (rs := [10]) (by kernel_rfl) (by simp) (AllReadyH.cons rfl (fun K hK => ?_) AllReadyH.nil)
        go_simp
        refine hK.out _ _ hH (fun hH => ?_)
        clear hK K
        try simp only [Act.put]
        refine wpAnyH_done (by kernel_rfl) ?_ _
        go_wp2_with fail
        obtain ⟨fs, hfs⟩ := Tryd.cardU
        refine bodyPost_ret (v := .tuple #[.agg #[.int .i64 N0, .slice none 0 0], .bool false]) (results_twob rfl _ _ w.heap.size _ _ fs rfl ?_ ?_ hfs Tryd.cardI _ rfl) rfl ⟨N0, _, _, _, ret_ca N.out.symm, (fun h => by rw [N.out] at h; cases h), ((nxt hb B8).setCell (p := ⟨w.heap.size, 0, none⟩) (Nat.le_refl _) _).setCell (p := ⟨w.heap.size, 1, none⟩) (Nat.le_refl _) _⟩
        · simp [World.cell?_setCell_other, World.cell?_setCell_same, go_sem, r0]
        · simp [World.cell?_setCell_other, World.cell?_setCell_same, go_sem, r1]
    · have EL2 : Hid (ckL l = (C.splitW p1).map rowW) := Lib.hid (by rw [EL.out, if_neg hp])
      have hz1 : (0 : Int) < ((D1.size : Nat) : Int) := by
        have : p1.length ≠ 0 := fun e => hp (List.length_eq_zero_iff.1 e)
        omega
      obtain ⟨n, en⟩ : ∃ n, (C.splitW p1).length = n := ⟨_, rfl⟩
      have EN := Lib.hid en
      have hn2 : n ≤ 1048577 := by have := C.splitW_len p1; omega
      have hm1 : 0 < ((C.splitW p1).map bstr).length := by
        rw [List.length_map]
        have : (C.splitW p1).length ≠ 0 := fun e => C.splitW_ne p1 (List.length_eq_zero_iff.1 e)
        omega
      have HSP := Lib.hid SP2
      clear SP2 hp hs1 EL en
      go_wp2_with fail
      refine (Q0 _).mono ?_
      rintro e wz ⟨rfl, hwz⟩
      subst hwz
      clear v0 Q0
      go_wp2_with fail
      rw [EW3.out]
      clear v1 hz1 EW3
      refine HSP.out.mono ?_
      rintro e w5 ⟨u5, rfl, ow5, b5⟩
      clear HSP
      obtain ⟨gv, cv5, ov, rfl, hgv, HOV, HVC⟩ := ow5.obj hm1
      rw [List.length_map, EN.out]
      have hb5 := nxt hb3 b5
      have hR5 := (b5.block _ (by omega)).trans hR3
      have hC5 := (b5.block _ (by omega)).trans hC3
      have z5 := b5.size
      have lv := box_lt HOV
      have HVC := Lib.hid HVC
      clear b5 ow5 hR3 hC3 hb3 hm1
      go_wp2_with fail
      go_loopw [37] (fun i wr => ∃ (k : Nat) (x : Value), k ≤ n ∧ i = .int .i64 k ∧ wr.heap[w.heap.size]? = some (.cells #[.int .i64 0, .slice none 0 0] 28 (0, 0)) ∧ wr.heap[w2.heap.size]? = some (.cells #[.int .i64 N0, x] 28 (0, 0)) ∧ wr.heap[gv]? = some ov ∧ Hid (Owa wr w5.heap.size wr.heap.size x (((C.splitW p1).take k).map rowW)) ∧ w5.heap.size ≤ wr.heap.size ∧ Below w.heap.size w wr) (fun i _ => n - (intOf i).toNat)
      case atStart => exact ⟨0, _, Nat.zero_le _, rfl, hR5, hC5, HOV, Lib.hid (Owa.nil _ _ _), Nat.le_refl _, hb5⟩
      case round =>
        clear hR5 hC5 HOV hb5
        obtain ⟨k, x, hk, rfl, hR, hC, hW, HO, hz, hb⟩ := hrel
        by_cases hlt : k < n
        · have hw : (C.splitW p1)[k]? = some ((C.splitW p1)[k]'(by rw [EN.out]; exact hlt)) := List.getElem?_eq_getElem _
          obtain ⟨wd, ewd⟩ : ∃ wd, (C.splitW p1)[k]'(by rw [EN.out]; exact hlt) = wd := ⟨_, rfl⟩
          rw [ewd] at hw
          have hwl : wd.length ≤ 1048576 := by have := C.splitW_mem_len p1 wd (List.mem_of_getElem? hw); omega
          have hcell := HVC.out wr hW k (bstr wd) (by rw [List.getElem?_map, hw]; rfl)
          have hwb := bstr_list wd
          have SN0 := P.l1Split_any wd wr (by omega)
          obtain ⟨sw, esw⟩ : ∃ sw, bstr wd = sw := ⟨_, rfl⟩
          rw [esw] at hcell SN0 hwb
          have SN := Lib.hid SN0
          have HTK : Hid (((C.splitW p1).take (k + 1)).map rowW = ((C.splitW p1).take k).map rowW ++ [rowW wd]) := Lib.hid (by rw [List.take_add_one, hw]; simp)
          have hcsl : (((C.splitW p1).take k).map rowW).length ≤ 1048577 := by rw [List.length_map, List.length_take]; omega
          generalize ((C.splitW p1).take k).map rowW = cs at *
          obtain ⟨wo, ewo⟩ : ∃ wo, wo = wr := ⟨_, rfl⟩
          subst ewo
          have HRr := Lib.hid hR
          have HCr := Lib.hid hC
          have HWr := Lib.hid hW
          obtain ⟨px, cx, rfl⟩ := HO.out.form
          obtain ⟨t0, t1, -, -⟩ := cells2_of hC
          clear SN0 hw ewd esw hR hC hW
          by_cases hd : wd = [45]
          · have hq : (sw.toList == [45]) = true := by rw [hwb, hd]; rfl
            have HRW : Hid (rowW wd = []) := Lib.hid (by unfold rowW; rw [if_pos hd])
            have t2 : (wo.alloc (.cells #[.slice none 0 0] 55)).cell? ⟨w2.heap.size, 1, none⟩ = some (.slice px cs.length cx) := (World.cell?_alloc_past _ _ _ (by omega)).trans t1
            clear hd hwb SN
            go_wp2_with (at_builtin; refine wpList_append_row1 rfl _ _ rfl w5.heap.size wo.heap.size _ cs rfl (HO.out.below ((Below.refl _ _).alloc (Nat.le_refl _) _) (Nat.le_refl _)) wo.heap.size (.slice none 0 0) [] rfl (by simp) (World.ownsRow_nil _ _ _ _) (fun k hk => by cases hk) (by omega) (by simp; omega) ?_; intro v8 w8 o8 b8 g8; have B8 : Below w5.heap.size wo w8 := ((Below.refl wo.heap.size wo).mono (by omega)).trans ((((Below.refl wo.heap.size wo).alloc (Nat.le_refl _) _).mono (by omega)).trans b8); have k8 := (B8.block w2.heap.size (by omega)).trans HCr.out; obtain ⟨m0, m1, m2, m3⟩ := cells2_of k8; have O8 := Lib.hid o8; obtain ⟨p8, q8, rfl⟩ := o8.form; clear o8 b8 g8)
            have O9 : Hid (Owa w8 w5.heap.size w8.heap.size (.slice p8 (cs.length + 1) q8) (cs ++ [[]])) := Lib.hid (by have z := O8.out; rw [List.length_append] at z; exact z)
            have z8 := B8.size
            go_roundw
            case rel => exact ⟨k + 1, _, by omega, by go_num, box_far ((B8.block w.heap.size (by omega)).trans HRr.out) (by omega) _, box2_snd k8, box_far ((B8.block gv (by omega)).trans HWr.out) (by omega) _, Lib.hid (by rw [HTK.out, HRW.out]; exact (Owa.abv O9.out ((Abv.refl _ _).setCell (by omega) _ _)).mono (Nat.le_refl _) (by simp [World.setCell])), by simp [World.setCell]; omega, (hb.trans (B8.mono (by omega))).setCell (by show w.heap.size ≤ w2.heap.size; omega) _⟩
            case measure => simp [intOf]; omega
          · have hq : (sw.toList == [45]) = false := by rw [hwb, beq_eq_false_iff_ne]; exact hd
            have HRW : Hid (rowW wd = (P.splitW wd).map readW) := Lib.hid (by unfold rowW; rw [if_neg hd])
            obtain ⟨n6, en6⟩ : ∃ n, (P.splitW wd).length = n := ⟨_, rfl⟩
            have EN6 := Lib.hid en6
            have hn6 : n6 ≤ 1048577 := by have := P.splitW_len wd; omega
            have hm6 : 0 < ((P.splitW wd).map bstr).length := by
              rw [List.length_map]
              have : (P.splitW wd).length ≠ 0 := fun e => P.splitW_ne wd (List.length_eq_zero_iff.1 e)
              omega
            clear hd hwb en6
            go_wp2_with fail
            clear hcell hq
            refine SN.out.mono ?_
            rintro e w6 ⟨u6, rfl, ow6, b6⟩
            clear SN
            obtain ⟨gy, cy6, oy, rfl, hgy, HOY, HYC⟩ := ow6.obj hm6
            rw [List.length_map, EN6.out]
            have z6 := b6.size
            have ly := box_lt HOY
            have HYC := Lib.hid HYC
            have HOYr := Lib.hid HOY
            have B6 := Lib.hid b6
            clear b6 ow6 hm6 HOY t0 t1
            go_wp2_with fail
            go_loopw [8, 46] (fun v j wq => ∃ (i : Nat), i ≤ n6 ∧ j = .int .i64 i ∧ Hid (Ow wq w6.heap.size v (((P.splitW wd).take i).map readW)) ∧ Below w6.heap.size w6 wq) (fun _ j _ => n6 - (intOf j).toNat)
            case atStart => exact ⟨0, Nat.zero_le _, rfl, Lib.hid (ow_nil _ _), Below.refl _ _⟩
            case round =>
              obtain ⟨i, hi, rfl, HL, hq⟩ := hrel
              by_cases hil : i < n6
              · have hw : (P.splitW wd)[i]? = some ((P.splitW wd)[i]'(by rw [EN6.out]; exact hil)) := List.getElem?_eq_getElem _
                obtain ⟨wx, ewx⟩ : ∃ wx, (P.splitW wd)[i]'(by rw [EN6.out]; exact hil) = wx := ⟨_, rfl⟩
                rw [ewx] at hw
                have hwl2 : wx.length ≤ 1048576 := by have := P.splitW_mem_len wd wx (List.mem_of_getElem? hw); omega
                have hcell := HYC.out wr ((hq.block _ ly).trans HOYr.out) i (bstr wx) (by rw [List.getElem?_map, hw]; rfl)
                have Q1 := fun w => l1Read_any wx w (by omega)
                have HTI : Hid (((P.splitW wd).take (i + 1)).map readW = ((P.splitW wd).take i).map readW ++ [readW wx]) := Lib.hid (by rw [List.take_add_one, hw]; simp)
                have hysl : (((P.splitW wd).take i).map readW).length ≤ 1048577 := by rw [List.length_map, List.length_take]; omega
                generalize ((P.splitW wd).take i).map readW = ys at *
                generalize readW wx = R at *
                generalize bstr wx = DX at *
                have zq := hq.size
                clear hw ewx hwl2
                go_wp2_with (first
                  | (go_at_call 64; refine (Q1 _).mono ?_; rintro e wz ⟨rfl, hwz⟩; subst hwz)
                  | (at_builtin; refine wpList_append_src rfl _ _ rfl w6.heap.size _ ys rfl (HL.out.below ((Below.refl _ _).alloc (Nat.le_refl _) _) (Nat.le_refl _)) _ [R] rfl (src_one _ R) (by simp; omega) (by simp; omega) ?_; intro v8 w8 o8 g8; have B8 : Below w6.heap.size w6 w8 := (hq.trans (((Below.refl wr.heap.size wr).alloc (Nat.le_refl _) _).mono zq)).trans ((Below.refl _ _).grown g8 (by simp; omega) (fun k hk => (World.ownsRow.lt HL.out k hk).1)); have O8 := Lib.hid o8; clear o8 g8))
                go_roundw
                case rel => exact ⟨i + 1, by omega, by go_num, by rw [HTI.out]; exact O8, B8⟩
                case measure => simp [intOf]; omega
              · obtain rfl : i = n6 := by omega
                have HV : Hid (Ow wr w6.heap.size _ (rowW wd)) := Lib.hid (by rw [HRW.out]; have z := HL.out; rw [← EN6.out, List.take_length] at z; exact z)
                have zq := hq.size
                have HBq : Hid (Below wo.heap.size wo wr) := Lib.hid (nxt B6.out hq)
                obtain ⟨pv, cv, rfl⟩ := HV.out.sv.form
                obtain ⟨t0, t1, -, -⟩ := cells2_of ((HBq.out.block w2.heap.size (by omega)).trans HCr.out)
                have t2 : (wr.alloc (.cells #[.slice pv (rowW wd).length cv] 55)).cell? ⟨w2.heap.size, 1, none⟩ = some (.slice px cs.length cx) := (World.cell?_alloc_past _ _ _ (by omega)).trans t1
                generalize rowW wd = V at *
                clear HL hq
                go_wp2_with (at_builtin; refine wpList_append_row1 rfl _ _ rfl w5.heap.size wo.heap.size _ cs rfl ((HO.out.below HBq.out (Nat.le_refl _)).below ((Below.refl _ _).alloc (Nat.le_refl _) _) (Nat.le_refl _)) wr.heap.size (.slice pv V.length cv) V rfl (by simp) ((HV.out.below ((Below.refl _ _).alloc (Nat.le_refl _) _) (Nat.le_refl _)).mono (by omega)) (fun k hk => by have := (World.ownsRow.lt HV.out k hk).1; omega) (by omega) (by simp; omega) ?_; intro v8 w8 o8 b8 g8; have B8 : Below w5.heap.size wo w8 := (HBq.out.mono (by omega)).trans ((((Below.refl wr.heap.size wr).alloc (Nat.le_refl _) _).mono (by omega)).trans b8); have k8 := (B8.block w2.heap.size (by omega)).trans HCr.out; obtain ⟨m0, m1, m2, m3⟩ := cells2_of k8; have O8 := Lib.hid o8; obtain ⟨p8, q8, rfl⟩ := o8.form; clear o8 b8 g8)
                have O9 : Hid (Owa w8 w5.heap.size w8.heap.size (.slice p8 (cs.length + 1) q8) (cs ++ [V])) := Lib.hid (by have z := O8.out; rw [List.length_append] at z; exact z)
                have z8 := B8.size
                go_roundw
                case rel => exact ⟨k + 1, _, by omega, by go_num, box_far ((B8.block w.heap.size (by omega)).trans HRr.out) (by omega) _, box2_snd k8, box_far ((B8.block gv (by omega)).trans HWr.out) (by omega) _, Lib.hid (by rw [HTK.out]; exact (Owa.abv O9.out ((Abv.refl _ _).setCell (by omega) _ _)).mono (Nat.le_refl _) (by simp [World.setCell])), by simp [World.setCell]; omega, (hb.trans (B8.mono (by omega))).setCell (by show w.heap.size ≤ w2.heap.size; omega) _⟩
                case measure => simp [intOf]; omega
        · obtain rfl : k = n := by omega
          have HO : Hid (Owa wr w5.heap.size wr.heap.size x (ckL l)) := Lib.hid (by rw [EL2.out]; have z := HO.out; rw [← EN.out, List.take_length] at z; exact z)
          have HLT : Hid (w.heap.size < w5.heap.size) := Lib.hid (by omega)
          clear hW HVC EL2
          obtain ⟨px, cx, hx⟩ := HO.out.form
          subst hx
          obtain ⟨cx0, hx0⟩ : ∃ m, (ckL l).length = m := ⟨_, rfl⟩
          have SA := fun (W' : World) (h : Below wr.heap.size wr W') => And.intro (cells2_of ((h.block _ (box_lt hR)).trans hR)) (cells2_of ((h.block _ (box_lt hC)).trans hC))
          have HSA := Lib.hid SA
          have hkl := ckL_len (l := l) hl
          have PG0 := fun (W' : World) (h : Below wr.heap.size wr W') => caGood_any N0 _ (ckL l) W' (HO.out.svv.below h (Nat.le_refl _)) (by omega) (fun j hj => by have := hkl.2 j hj; omega)
          have TT1 := fun (W' : World) (h : Below wr.heap.size wr W') (hg : caB N0 (ckL l) = true) => caText_any N0 _ (ckL l) W' (HO.out.svv.below h (Nat.le_refl _)) (caB_g hg)
          rw [hx0] at PG0 TT1 SA HSA hC HO
          obtain ⟨⟨-, -, -, -⟩, ga0, ga1, -, -⟩ := SA wr.drew (Below.refl _ _).drew
          clear SA hkl
          rcases pc_cases l h2 with ⟨hg, hp⟩ | ⟨hg, hp, ht⟩ | ⟨hg, hp, ht⟩
          · rw [EN0.out] at hg
            rw [hg] at PG0
            have PG := fun W' h => Lib.hid (PG0 W' h)
            have N := Lib.hid hp
            clear PG0 TT1 hg hp h2
            go_upto_region 18 with (fail)
            refine wp_region_held_drew (S := fun w' => w'.cell? ⟨w2.heap.size, 0, none⟩ = some (.int .i64 N0) ∧ w'.cell? ⟨w2.heap.size, 1, none⟩ = some (.slice px cx0 cx)) (by kernel_rfl) ⟨ga0, ga1⟩ (fun hH => ?_)
            refine wpAnyH_take (i := 0) (v := ?v19) rfl (by kernel_rfl) (by kernel_rfl) (by kernel_rfl) (fun _ _ _ h => h) (Or.inl ⟨by rfl, ?hy19⟩) hH ?rest19
            case hy19 => (intro w hSw; (try dsimp only at hSw); go_simp <;> with_reducible rfl)
            try simp only [Act.put]
            refine wpAnyH_take (i := 1) (v := ?v20) rfl (by kernel_rfl) (by kernel_rfl) (by kernel_rfl) (fun _ _ _ h => h) (Or.inl ⟨by rfl, ?hy20⟩) hH ?rest20
            case hy20 => (intro w hSw; (try dsimp only at hSw); go_simp <;> with_reducible rfl)
            try simp only [Act.put]
            refine wpAnyH_ready (rs := [2]) (by kernel_rfl) (by simp) (AllReadyH.cons rfl (fun K hK => ?_) AllReadyH.nil)
            go_simp
            go_at_call 26
            refine ((PG _ (Below.refl _ _).drew).out).mono ?_
            rintro e w7 ⟨rfl, b7⟩
            have B7 : Below wr.heap.size wr w7 := (Below.refl _ _).drew.trans b7
            obtain ⟨⟨r0, r1, r2, r3⟩, h0, h1, -, -⟩ := HSA.out w7 B7
            go_wp2_with fail
            refine hK.out _ _ ⟨h0, h1⟩ (fun hH => ?_)
            clear hK K
            try simp only [Act.put]
            refine wpAnyH_take (i := 3) (v := ?v21) rfl (by kernel_rfl) (by kernel_rfl) (by kernel_rfl) (fun _ _ _ h => h) (Or.inl ⟨by rfl, ?hy21⟩) hH ?rest21
            case hy21 => (intro w hSw; (try dsimp only at hSw); go_simp <;> with_reducible rfl)
            try simp only [Act.put]
            refine wpAnyH_take (i := 4) (v := undef) rfl (by kernel_rfl) (by kernel_rfl) (by kernel_rfl) (fun _ _ _ h => h) (Or.inr ⟨by rfl, rfl⟩) hH ?_
            try simp only [Act.put]
            refine wpAnyH_take (i := 5) (v := undef) rfl (by kernel_rfl) (by kernel_rfl) (by kernel_rfl) (fun _ _ _ h => h) (Or.inr ⟨by rfl, rfl⟩) hH ?_
            try simp only [Act.put]
            refine wpAnyH_take (i := 6) (v := undef) rfl (by kernel_rfl) (by kernel_rfl) (by kernel_rfl) (fun _ _ _ h => h) (Or.inr ⟨by rfl, rfl⟩) hH ?_
            try simp only [Act.put]
            refine wpAnyH_take (i := 7) (v := undef) rfl (by kernel_rfl) (by kernel_rfl) (by kernel_rfl) (fun _ _ _ h => h) (Or.inr ⟨by rfl, rfl⟩) hH ?_
            try simp only [Act.put]
            refine wpAnyH_take (i := 8) (v := ?v22) rfl (by kernel_rfl) (by kernel_rfl) (by kernel_rfl) (fun _ _ _ h => h) (Or.inl ⟨by rfl, ?hy22⟩) hH ?rest22
            case hy22 => (intro w hSw; (try dsimp only at hSw); go_simp <;> with_reducible rfl)
            try simp only [Act.put]
            refine wpAnyH_ready (rs := [9]) (by kernel_rfl) (by simp) (AllReadyH.cons rfl (fun K hK => ?_) AllReadyH.nil)
            go_simp
            refine hK.out _ _ ⟨cell_far2 h0 (by omega), cell_far2 h1 (by omega)⟩ (fun hH => ?_)
            clear hK K
            try simp only [Act.put]
            refine wpAnyH_ready (rs := [10]) (by kernel_rfl) (by simp) (AllReadyH.cons rfl (fun K hK => ?_) AllReadyH.nil)
            go_simp
            refine hK.out _ _ hH (fun hH => ?_)
            clear hK K
            try simp only [Act.put]
            refine wpAnyH_done (by kernel_rfl) ?_ _
            go_wp2_with fail
            obtain ⟨fs, hfs⟩ := Tryd.cardU
            refine bodyPost_ret (v := .tuple #[.agg #[.int .i64 N0, .slice px cx0 cx], .bool false]) (results_twob rfl _ _ w.heap.size _ _ fs rfl ?_ ?_ hfs Tryd.cardI _ rfl) rfl ⟨N0, _, _, _, ret_ca N.out.symm, (fun h => by rw [N.out] at h; cases h), ((nxt hb B7).setCell (p := ⟨w.heap.size, 0, none⟩) (Nat.le_refl _) _).setCell (p := ⟨w.heap.size, 1, none⟩) (Nat.le_refl _) _⟩
            · simp [World.cell?_setCell_other, World.cell?_setCell_same, go_sem, r0]
            · simp [World.cell?_setCell_other, World.cell?_setCell_same, go_sem, r1]
          · rw [EN0.out] at hg ht
            have TT0 := fun W' h => TT1 W' h hg
            rw [hg] at PG0
            have PG := fun W' h => Lib.hid (PG0 W' h)
            have N := Lib.hid hp
            have hq : ((bstr (txtC N0 (ckL l))).toList == s.toList) = true := by rw [ht, ES.out]; simp
            generalize bstr (txtC N0 (ckL l)) = D at *
            have TT := fun W' h => Lib.hid (TT0 W' h)
            clear PG0 TT0 TT1 hg hp ht h2
            go_upto_region 18 with (fail)
            refine wp_region_held_drew (S := fun w' => w'.cell? ⟨w2.heap.size, 0, none⟩ = some (.int .i64 N0) ∧ w'.cell? ⟨w2.heap.size, 1, none⟩ = some (.slice px cx0 cx)) (by kernel_rfl) ⟨ga0, ga1⟩ (fun hH => ?_)
            refine wpAnyH_take (i := 0) (v := ?v23) rfl (by kernel_rfl) (by kernel_rfl) (by kernel_rfl) (fun _ _ _ h => h) (Or.inl ⟨by rfl, ?hy23⟩) hH ?rest23
            case hy23 => (intro w hSw; (try dsimp only at hSw); go_simp <;> with_reducible rfl)
            try simp only [Act.put]
            refine wpAnyH_take (i := 1) (v := ?v24) rfl (by kernel_rfl) (by kernel_rfl) (by kernel_rfl) (fun _ _ _ h => h) (Or.inl ⟨by rfl, ?hy24⟩) hH ?rest24
            case hy24 => (intro w hSw; (try dsimp only at hSw); go_simp <;> with_reducible rfl)
            try simp only [Act.put]
            refine wpAnyH_ready (rs := [2]) (by kernel_rfl) (by simp) (AllReadyH.cons rfl (fun K hK => ?_) AllReadyH.nil)
            go_simp
            go_at_call 26
            refine ((PG _ (Below.refl _ _).drew).out).mono ?_
            rintro e w7 ⟨rfl, b7⟩
            have B7 : Below wr.heap.size wr w7 := (Below.refl _ _).drew.trans b7
            obtain ⟨⟨r0, r1, r2, r3⟩, h0, h1, -, -⟩ := HSA.out w7 B7
            go_wp2_with fail
            refine hK.out _ _ ⟨h0, h1⟩ (fun hH => ?_)
            clear hK K
            try simp only [Act.put]
            refine wpAnyH_take (i := 3) (v := ?v25) rfl (by kernel_rfl) (by kernel_rfl) (by kernel_rfl) (fun _ _ _ h => h) (Or.inl ⟨by rfl, ?hy25⟩) hH ?rest25
            case hy25 => (intro w hSw; (try dsimp only at hSw); go_simp <;> with_reducible rfl)
            try simp only [Act.put]
            refine wpAnyH_take (i := 4) (v := ?v26) rfl (by kernel_rfl) (by kernel_rfl) (by kernel_rfl) (fun _ _ _ h => h) (Or.inl ⟨by rfl, ?hy26⟩) hH ?rest26
            case hy26 => (intro w hSw; (try dsimp only at hSw); go_simp <;> with_reducible rfl)
            try simp only [Act.put]
            refine wpAnyH_take (i := 6) (v := ?v27) rfl (by kernel_rfl) (by kernel_rfl) (by kernel_rfl) (fun _ _ _ h => h) (Or.inl ⟨by rfl, ?hy27⟩) hH ?rest27
            case hy27 => (intro w hSw; (try dsimp only at hSw); go_simp <;> with_reducible rfl)
            try simp only [Act.put]
            refine wpAnyH_ready (rs := [5]) (by kernel_rfl) (by simp) (AllReadyH.cons rfl (fun K hK => ?_) AllReadyH.nil)
            go_simp
            go_at_call 27
            refine ((TT _ B7).out).mono ?_
            rintro e w8 ⟨rfl, b8⟩
            have B8 := nxt B7 b8
            clear r0 r1 r2 r3
            obtain ⟨⟨r0, r1, r2, r3⟩, i0, i1, -, -⟩ := HSA.out w8 B8
            go_wp2_with fail
            refine hK.out _ _ ⟨i0, i1⟩ (fun hH => ?_)
            clear hK K
            try simp only [Act.put]
            refine wpAnyH_take (i := 7) (v := ?v28) rfl (by kernel_rfl) (by kernel_rfl) (by kernel_rfl) (fun _ _ _ h => h) (Or.inl ⟨by rfl, ?hy28⟩) hH ?rest28
            case hy28 => (intro w hSw; (try dsimp only at hSw); go_simp <;> with_reducible rfl)
            try simp only [Act.put]
            refine wpAnyH_take (i := 8) (v := ?v29) rfl (by kernel_rfl) (by kernel_rfl) (by kernel_rfl) (fun _ _ _ h => h) (Or.inl ⟨by rfl, ?hy29⟩) hH ?rest29
            case hy29 => (intro w hSw; (try dsimp only at hSw); go_simp <;> with_reducible rfl)
            try simp only [Act.put]
            refine wpAnyH_ready (rs := [9]) (by kernel_rfl) (by simp) (AllReadyH.cons rfl (fun K hK => ?_) AllReadyH.nil)
            go_simp
            refine hK.out _ _ ⟨cell_far2 i0 (by omega), cell_far2 i1 (by omega)⟩ (fun hH => ?_)
            clear hK K
            try simp only [Act.put]
            refine wpAnyH_ready (rs := [10]) (by kernel_rfl) (by simp) (AllReadyH.cons rfl (fun K hK => ?_) AllReadyH.nil)
            go_simp
            refine hK.out _ _ hH (fun hH => ?_)
            clear hK K
            try simp only [Act.put]
            refine wpAnyH_done (by kernel_rfl) ?_ _
            go_wp2_with fail
            obtain ⟨fs, hfs⟩ := Tryd.cardU
            refine bodyPost_ret (v := .tuple #[.agg #[.int .i64 N0, .slice px cx0 cx], .bool true]) (results_twob rfl _ _ w.heap.size _ _ fs rfl ?_ ?_ hfs Tryd.cardI _ rfl) rfl ⟨N0, _, _, _, ret_ca N.out.symm, (fun _ => ⟨EN0.out.symm, ((HO.out.below B8 (Nat.le_refl _)).abv (((Abv.refl _ _).setCell HLT.out 0 _).setCell HLT.out 1 _)).mono (Nat.le_of_lt HLT.out) (by have := B8.size; simp [World.setCell]; omega)⟩), ((nxt hb B8).setCell (p := ⟨w.heap.size, 0, none⟩) (Nat.le_refl _) _).setCell (p := ⟨w.heap.size, 1, none⟩) (Nat.le_refl _) _⟩
            · simp [World.cell?_setCell_other, World.cell?_setCell_same, go_sem, r0]
            · simp [World.cell?_setCell_other, World.cell?_setCell_same, go_sem, r1]
          · rw [EN0.out] at hg ht
            have TT0 := fun W' h => TT1 W' h hg
            rw [hg] at PG0
            have PG := fun W' h => Lib.hid (PG0 W' h)
            have N := Lib.hid hp
            have hq : ((bstr (txtC N0 (ckL l))).toList == s.toList) = false := by rw [← ES.out, bstr_list, bstr_list, beq_eq_false_iff_ne]; exact ht
            generalize bstr (txtC N0 (ckL l)) = D at *
            have TT := fun W' h => Lib.hid (TT0 W' h)
            clear PG0 TT0 TT1 hg hp ht h2
            go_upto_region 18 with (fail)
            refine wp_region_held_drew (S := fun w' => w'.cell? ⟨w2.heap.size, 0, none⟩ = some (.int .i64 N0) ∧ w'.cell? ⟨w2.heap.size, 1, none⟩ = some (.slice px cx0 cx)) (by kernel_rfl) ⟨ga0, ga1⟩ (fun hH => ?_)
            refine wpAnyH_take (i := 0) (v := ?v30) rfl (by kernel_rfl) (by kernel_rfl) (by kernel_rfl) (fun _ _ _ h => h) (Or.inl ⟨by rfl, ?hy30⟩) hH ?rest30
            case hy30 => (intro w hSw; (try dsimp only at hSw); go_simp <;> with_reducible rfl)
            try simp only [Act.put]
            refine wpAnyH_take (i := 1) (v := ?v31) rfl (by kernel_rfl) (by kernel_rfl) (by kernel_rfl) (fun _ _ _ h => h) (Or.inl ⟨by rfl, ?hy31⟩) hH ?rest31
            case hy31 => (intro w hSw; (try dsimp only at hSw); go_simp <;> with_reducible rfl)
            try simp only [Act.put]
            refine wpAnyH_ready (rs := [2]) (by kernel_rfl) (by simp) (AllReadyH.cons rfl (fun K hK => ?_) AllReadyH.nil)
            go_simp
            go_at_call 26
            refine ((PG _ (Below.refl _ _).drew).out).mono ?_
            rintro e w7 ⟨rfl, b7⟩
            have B7 : Below wr.heap.size wr w7 := (Below.refl _ _).drew.trans b7
            obtain ⟨⟨r0, r1, r2, r3⟩, h0, h1, -, -⟩ := HSA.out w7 B7
            go_wp2_with fail
            refine hK.out _ _ ⟨h0, h1⟩ (fun hH => ?_)
            clear hK K
            try simp only [Act.put]
            refine wpAnyH_take (i := 3) (v := ?v32) rfl (by kernel_rfl) (by kernel_rfl) (by kernel_rfl) (fun _ _ _ h => h) (Or.inl ⟨by rfl, ?hy32⟩) hH ?rest32
            case hy32 => (intro w hSw; (try dsimp only at hSw); go_simp <;> with_reducible rfl)
            try simp only [Act.put]
            refine wpAnyH_take (i := 4) (v := ?v33) rfl (by kernel_rfl) (by kernel_rfl) (by kernel_rfl) (fun _ _ _ h => h) (Or.inl ⟨by rfl, ?hy33⟩) hH ?rest33
            case hy33 => (intro w hSw; (try dsimp only at hSw); go_simp <;> with_reducible rfl)
            try simp only [Act.put]
            refine wpAnyH_take (i := 6) (v := ?v34) rfl (by kernel_rfl) (by kernel_rfl) (by kernel_rfl) (fun _ _ _ h => h) (Or.inl ⟨by rfl, ?hy34⟩) hH ?rest34
            case hy34 => (intro w hSw; (try dsimp only at hSw); go_simp <;> with_reducible rfl)
            try simp only [Act.put]
            refine wpAnyH_ready (rs := [5]) (by kernel_rfl) (by simp) (AllReadyH.cons rfl (fun K hK => ?_) AllReadyH.nil)
            go_simp
            go_at_call 27
            refine ((TT _ B7).out).mono ?_
            rintro e w8 ⟨rfl, b8⟩
            have B8 := nxt B7 b8
            clear r0 r1 r2 r3
            obtain ⟨⟨r0, r1, r2, r3⟩, i0, i1, -, -⟩ := HSA.out w8 B8
            go_wp2_with fail
            refine hK.out _ _ ⟨i0, i1⟩ (fun hH => ?_)
            clear hK K
            try simp only [Act.put]
            refine wpAnyH_take (i := 7) (v := ?v35) rfl (by kernel_rfl) (by kernel_rfl) (by kernel_rfl) (fun _ _ _ h => h) (Or.inl ⟨by rfl, ?hy35⟩) hH ?rest35
            case hy35 => (intro w hSw; (try dsimp only at hSw); go_simp <;> with_reducible rfl)
            try simp only [Act.put]
            refine wpAnyH_take (i := 8) (v := ?v36) rfl (by kernel_rfl) (by kernel_rfl) (by kernel_rfl) (fun _ _ _ h => h) (Or.inl ⟨by rfl, ?hy36⟩) hH ?rest36
            case hy36 => (intro w hSw; (try dsimp only at hSw); go_simp <;> with_reducible rfl)
            try simp only [Act.put]
            refine wpAnyH_ready (rs := [9]) (by kernel_rfl) (by simp) (AllReadyH.cons rfl (fun K hK => ?_) AllReadyH.nil)
            go_simp
            refine hK.out _ _ ⟨cell_far2 i0 (by omega), cell_far2 i1 (by omega)⟩ (fun hH => ?_)
            clear hK K
            try simp only [Act.put]
            refine wpAnyH_ready (rs := [10]) (by kernel_rfl) (by simp) (AllReadyH.cons rfl (fun K hK => ?_) AllReadyH.nil)
            go_simp
            refine hK.out _ _ hH (fun hH => ?_)
            clear hK K
            try simp only [Act.put]
            refine wpAnyH_done (by kernel_rfl) ?_ _
            go_wp2_with fail
            obtain ⟨fs, hfs⟩ := Tryd.cardU
            refine bodyPost_ret (v := .tuple #[.agg #[.int .i64 N0, .slice px cx0 cx], .bool false]) (results_twob rfl _ _ w.heap.size _ _ fs rfl ?_ ?_ hfs Tryd.cardI _ rfl) rfl ⟨N0, _, _, _, ret_ca N.out.symm, (fun h => by rw [N.out] at h; cases h), ((nxt hb B8).setCell (p := ⟨w.heap.size, 0, none⟩) (Nat.le_refl _) _).setCell (p := ⟨w.heap.size, 1, none⟩) (Nat.le_refl _) _⟩
            · simp [World.cell?_setCell_other, World.cell?_setCell_same, go_sem, r0]
            · simp [World.cell?_setCell_other, World.cell?_setCell_same, go_sem, r1]
  · have N := Lib.hid (pc_two h2).1
    have h2b : ((((H.splitW l).length : Nat) : Int) != 2) = true := by rw [bne_iff_ne]; omega
    clear h2
    obtain ⟨r0, r1, f0, f1⟩ := cells2_of hR
    clear HWC
    go_wp2_with fail
    obtain ⟨fs, hfs⟩ := Tryd.cardU
    refine bodyPost_ret (v := .tuple #[.agg #[.int .i64 0, .slice none 0 0], .bool false]) (results_twob rfl _ _ w.heap.size _ _ fs rfl ?_ ?_ hfs Tryd.cardI _ rfl) rfl ⟨0, _, _, _, ret_ca N.out.symm, (fun h => by rw [N.out] at h; cases h), (hb2.setCell (p := ⟨w.heap.size, 0, none⟩) (Nat.le_refl _) _).setCell (p := ⟨w.heap.size, 1, none⟩) (Nat.le_refl _) _⟩
    · simp [World.cell?_setCell_other, World.cell?_setCell_same, go_sem, r0]
    · simp [World.cell?_setCell_other, World.cell?_setCell_same, go_sem, r1]

set_option maxHeartbeats 4000000 in
theorem specParseCards_any (l : List UInt8) (w : World) (hl : l.length ≤ 1048576) :
    Calls Tryd.prog 12 #[.string (bstr l)] w fun e w' => ∃ u, e = .returned (.tuple #[.agg #[.int .i64 (pcN l), u], .bool (ckB l)]) ∧ Svv w' u (pcL l) ∧ Below w.heap.size w w' := by
  obtain ⟨W, eW⟩ : ∃ W, w.alloc (.cells #[.int .i64 0, .slice none 0 0] 28) = W := ⟨_, rfl⟩
  have hb0 : Below w.heap.size w W := by rw [← eW]; exact (Below.refl _ _).alloc (Nat.le_refl _) _
  have ZW : W.heap.size = w.heap.size + 1 := by rw [← eW]; simp
  have HR := Lib.hid (show W.heap[w.heap.size]? = some (.cells #[.int .i64 0, .slice none 0 0] 28 (0, 0)) by rw [← eW]; exact heap_alloc_new w _)
  have PP := Lib.hid (caParse_any l W hl)
  generalize bstr l = s at *
  go_enter Tryd.func12, Tryd.ntmps12
  go_wp2_with fail
  clear eW
  refine PP.out.mono ?_
  rintro e w1 ⟨n, p, m, c, rfl, hck, b1⟩
  obtain ⟨W1, eW1⟩ : ∃ W1, w1.alloc (.cells #[.int .i64 n, .slice p m c] 28) = W1 := ⟨_, rfl⟩
  have b2 : Below w1.heap.size w1 W1 := by rw [← eW1]; exact (Below.refl _ _).alloc (Nat.le_refl _) _
  have d0 : W1.cell? ⟨w1.heap.size, 0, none⟩ = some (.int .i64 n) := by rw [← eW1]; exact card_n w1 n _
  have d1 : W1.cell? ⟨w1.heap.size, 1, none⟩ = some (.slice p m c) := by rw [← eW1]; exact card_v w1 n _
  have EW := Lib.hid eW1
  have B2 := nxt hb0 (nxt b1 b2)
  obtain ⟨r0, r1, f0, f1⟩ := cells2_of (((nxt b1 b2).block _ (by omega)).trans HR.out)
  have HC := Lib.hid hck
  have b2H := Lib.hid b2
  rw [← eW1] at d0 d1 r0 r1 f0 f1
  clear eW1 b2 hck
  cases hg : ckB l with
  | false =>
    have N := Lib.hid hg
    have NN : Hid (pcN l = 0 ∧ pcL l = []) := Lib.hid ⟨by unfold pcN; rw [hg]; rfl, by unfold pcL; rw [hg]; rfl⟩
    clear hg
    go_wp2_with fail
    rw [EW.out] at *
    obtain ⟨fs, hfs⟩ := Tryd.cardU
    rw [NN.out.1, NN.out.2]
    refine bodyPost_ret (v := .tuple #[.agg #[.int .i64 0, .slice none 0 0], .bool false]) (results_twob rfl _ _ w.heap.size _ _ fs rfl ?_ ?_ hfs Tryd.cardI _ rfl) rfl ⟨_, ret_ca N.out.symm, svv_nil _, (B2.setCell (p := ⟨w.heap.size, 0, none⟩) (Nat.le_refl _) _).setCell (p := ⟨w.heap.size, 1, none⟩) (Nat.le_refl _) _⟩
    · simp [World.cell?_setCell_other, World.cell?_setCell_same, go_sem, r0]
    · simp [World.cell?_setCell_other, World.cell?_setCell_same, go_sem, r1]
  | true =>
    have NN : Hid (pcN l = n ∧ pcL l = ckL l) := Lib.hid ⟨by unfold pcN; rw [if_pos hg]; exact (HC.out hg).1.symm, by unfold pcL; rw [if_pos hg]⟩
    have HS := Lib.hid ((HC.out hg).2)
    have N := Lib.hid hg
    clear hg
    go_wp2_with fail
    rw [EW.out] at *
    obtain ⟨fs, hfs⟩ := Tryd.cardU
    rw [NN.out.1, NN.out.2]
    refine bodyPost_ret (v := .tuple #[.agg #[.int .i64 n, .slice p m c], .bool true]) (results_twob rfl _ _ w.heap.size _ _ fs rfl ?_ ?_ hfs Tryd.cardI _ rfl) rfl ⟨_, ret_ca N.out.symm, ((HS.out.below b2H.out (Nat.le_refl _)).abv (((Abv.refl _ _).setCell (g := w.heap.size) (by omega) 0 _).setCell (g := w.heap.size) (by omega) 1 _)).svv, (B2.setCell (p := ⟨w.heap.size, 0, none⟩) (Nat.le_refl _) _).setCell (p := ⟨w.heap.size, 1, none⟩) (Nat.le_refl _) _⟩
    · simp [World.cell?_setCell_other, World.cell?_setCell_same, go_sem, r0]
    · simp [World.cell?_setCell_other, World.cell?_setCell_same, go_sem, r1]
end Go.Proofs.YtgojlabkngnkdaaDoor
