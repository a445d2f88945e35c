/-
  The model's splitting at the points, by its contract. Condition: a text of at most 2^30 bytes.
-/
import Derived.Test.YtgojlabkngnkdaaDoorPspP
namespace Go.Proofs.YtgojlabkngnkdaaDoor.P
open Go.RowKit

theorem byte_eq {b : UInt8} (h : (b.toNat : Int) = 46) : b = 46 := by
  apply UInt8.toNat_inj.1
  have : (46 : UInt8).toNat = 46 := rfl
  omega

set_option maxHeartbeats 2000000 in
set_option maxRecDepth 20000 in
theorem l1Split_any (l : List UInt8) (w : World) (hl : l.length ≤ 1073741824) :
    Calls Tryd.prog 63 #[.string (bstr l), .int .u8 46] w fun e w' => ∃ u, e = .returned u ∧ Ws w' w.heap.size u ((splitW l).map bstr) ∧ Below w.heap.size w w' := by
  have hsz := bstr_size l
  obtain ⟨s, es⟩ : ∃ s, bstr l = s := ⟨_, rfl⟩
  have ES := Lib.hid es
  rw [es] at hsz ⊢
  clear es
  go_enter Tryd.func63, Tryd.ntmps63
  go_wp2
  go_loopw [5, 6, 7] (fun v f i wr => ∃ (k frm : Nat) (out : List (List UInt8)), k ≤ l.length ∧ frm ≤ k ∧ i = .int .i64 k ∧ f = .int .i64 frm ∧ out.length ≤ k ∧ SplAt l k frm out ∧ Ws wr w.heap.size v (out.map bstr) ∧ Below w.heap.size w wr) (fun _ _ i _ => l.length - (intOf i).toNat)
  case atStart => exact ⟨0, 0, [], Nat.zero_le _, Nat.le_refl _, rfl, rfl, Nat.le_refl _, SplAt.zero l, World.ownsRow_nil _ _ _ _, Below.refl _ _⟩
  case round =>
    obtain ⟨k, frm, out, hk, hf, rfl, rfl, hol, hs, ho, hb⟩ := hrel
    have hz := hb.size
    by_cases hlt : k < l.length
    · have hB : ∀ wx : World, (Instr.index 9 (.string s) (.int .i64 (k : Int))).run Tryd.prog wx = .ok (.int .u8 ((l.getD k 0).toNat : Int)) wx := fun wx => by
        rw [← ES.out]; exact byte_at l k hlt 9 Tryd.underlying9 wx
      have hC : ∀ wx : World, (Instr.slice 9 (.string s) (some (.int .i64 (frm : Int))) (some (.int .i64 (k : Int))) none).run Tryd.prog wx = .ok (.string (bstr ((l.take k).drop frm))) wx := fun wx => by
        rw [← ES.out]; exact cut_at l frm k hf hk 9 Tryd.underlying9 wx
      by_cases hc : l.getD k 0 = 46
      · have HS := Lib.hid (hs.cut hlt hc)
        rw [hc] at hB
        obtain ⟨D, eD⟩ : ∃ D, bstr ((l.take k).drop frm) = D := ⟨_, rfl⟩
        rw [eD] at hC
        have ED := Lib.hid eD
        have HO := Lib.hid (show (out.map bstr).length = out.length by simp)
        clear hs hc eD
        go_wp2_with (at_builtin; refine wpList_append_str rfl _ _ rfl w.heap.size _ (out.map bstr) rfl (ho.alloc _) _ D rfl (by simp) (by rw [HO.out]; omega) (by simp; omega) ?_; intro v' w3 h3 g3)
        have b3 := (hb.alloc hz _).trans ((ho.alloc _).grown (by simp; omega) g3)
        clear ho g3 hb hB hC
        go_roundw
        case rel => exact ⟨k + 1, k + 1, _, by omega, Nat.le_refl _, by go_num, by go_num, by simp; omega, HS.out, by rw [List.map_append, List.map_singleton, ED.out]; exact h3, b3⟩
        case measure => simp only [intOf]; omega
      · have HS := Lib.hid (hs.step hlt hc)
        have hne : ¬ ((l.getD k 0).toNat : Int) = 46 := fun e => hc (byte_eq e)
        obtain ⟨x, ex⟩ : ∃ x : Int, ((l.getD k 0).toNat : Int) = x := ⟨_, rfl⟩
        rw [ex] at hne hB
        clear hs hc ex hC
        go_wp2
        go_roundw
        case rel => exact ⟨k + 1, frm, out, by omega, by omega, by go_num, rfl, by omega, HS.out, ho, hb⟩
        case measure => simp only [intOf]; omega
    · have hkl : k = l.length := by omega
      subst hkl
      have hC : ∀ wx : World, (Instr.slice 9 (.string s) (some (.int .i64 (frm : Int))) none none).run Tryd.prog wx = .ok (.string (bstr (l.drop frm))) wx := fun wx => by
        rw [← ES.out]; exact cut_from l frm hf 9 Tryd.underlying9 wx
      have HS := Lib.hid hs.done
      obtain ⟨D, eD⟩ : ∃ D, bstr (l.drop frm) = D := ⟨_, rfl⟩
      rw [eD] at hC
      have ED := Lib.hid eD
      have HO := Lib.hid (show (out.map bstr).length = out.length by simp)
      clear hs eD
      go_wp2_with (at_builtin; refine wpList_append_str rfl _ _ rfl w.heap.size _ (out.map bstr) rfl (ho.alloc _) _ D rfl (by simp) (by rw [HO.out]; omega) (by simp; omega) ?_; intro v' w3 h3 g3)
      have b3 := (hb.alloc hz _).trans ((ho.alloc _).grown (by simp; omega) g3)
      go_ret
      exact ⟨_, rfl, by rw [HS.out, List.map_append, List.map_singleton, ED.out]; exact h3, b3⟩

end Go.Proofs.YtgojlabkngnkdaaDoor.P
