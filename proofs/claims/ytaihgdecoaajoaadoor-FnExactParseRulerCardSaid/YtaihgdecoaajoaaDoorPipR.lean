/-
  ParseRuler, by its contract: the program answers what the model's way to read a text answers. Conditions: a text of at most 2^20 bytes; the library's variables hold what they held at the start.
-/
import Derived.Test.YtaihgdecoaajoaaDoorPrsR
namespace Go.Proofs.YtaihgdecoaajoaaDoor.R
open Go.RowKit

theorem sp_ne {w : World} {B : Nat} {v : Value} {ys : List Int} (h : Ow w B v ys) (hp : 0 < ys.length) : Sp w v ys := by
  obtain ⟨b, hb⟩ : ∃ b, OwnAt v b := by
    rcases h.2 with ⟨_, hn⟩ | ⟨g, cap, cur, rfl, _⟩
    · exfalso
      simp at hn
      rw [hn] at hp; simp at hp
    · exact ⟨g, by simp [OwnAt, Value.ownBlock]⟩
  exact h.sp hb

set_option maxHeartbeats 4000000 in
set_option maxRecDepth 20000 in
theorem implParse_any (l : List UInt8) (w : World) (hl : l.length ≤ 1048576) (hE : Env w) :
    Calls Tryd.prog 12 #[.string (bstr l)] w fun e w' => ∃ u, e = .returned (.tuple #[u, .bool (parB l)]) ∧ Ow w' w.heap.size u (parR l) ∧ Below w.heap.size w w' := by
  have HPN := Lib.hid (parseN_any l w hl hE)
  have hsl := splitW_len l
  have hn0 : (splitW l).length ≠ 0 := fun e => splitW_ne l (List.length_eq_zero_iff.1 e)
  clear hE
  go_enter Tryd.func12, Tryd.ntmps12
  go_wp2_with fail
  refine (HPN.out).mono ?_
  rintro e w1 ⟨b1, ⟨V, u, rfl, ho, hV, ht⟩ | ⟨rfl, hno⟩⟩
  · have hVl := hV.1
    have hsp := sp_ne ho (by omega)
    by_cases hg : rulB V = true
    · have HP := Lib.hid (at_same (rulB_iff.1 hg) ht)
      have HG := Lib.hid hg
      clear hV ht hg
      go_wp2_with fail
      refine (implIsRuler_any _ V _ hsp (by omega)).mono ?_
      rintro e w2 ⟨rfl, b2⟩
      have hg := HG.out
      have B2 := nxt b1 b2
      have o2 := ho.below b2 (Nat.le_refl _)
      clear b2 ho hsp
      go_wp2_with fail
      go_ret2
      exact ⟨_, ret_lb rfl HP.out.1.symm, by rw [HP.out.2]; exact o2, B2⟩
    · have HP := Lib.hid (at_bad hV (fun h => hg (rulB_iff.2 h)))
      have HG : Hid (rulB V = false) := Lib.hid (by simpa using hg)
      clear hV ht hg
      go_wp2_with fail
      refine (implIsRuler_any _ V _ hsp (by omega)).mono ?_
      rintro e w2 ⟨rfl, b2⟩
      have hg := HG.out
      have B2 := nxt b1 b2
      clear b2 ho hsp
      go_wp2_with fail
      go_ret2
      exact ⟨_, ret_lb rfl HP.out.1.symm, by rw [HP.out.2]; exact ow_nil _ _, B2⟩
  · have HP := Lib.hid (at_none hno)
    clear hno
    go_wp2_with fail
    go_ret2
    exact ⟨_, ret_lb rfl HP.out.1.symm, by rw [HP.out.2]; exact ow_nil _ _, b1⟩

end Go.Proofs.YtaihgdecoaajoaaDoor.R
