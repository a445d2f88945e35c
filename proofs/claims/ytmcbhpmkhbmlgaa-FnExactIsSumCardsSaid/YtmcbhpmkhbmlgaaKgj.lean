/-
  The sum of first numbers in the model, by contract. Condition: there are cards and answers.
-/
import Derived.Test.YtmcbhpmkhbmlgaaKgh
namespace Go.Proofs.Ytmcbhpmkhbmlgaa
open Go.RowKit

theorem fsK_skip {Ls : List (List Int)} {a : List UInt8} {k : Nat} {s : Int} (h : fsK Ls a k = some s) (hy : ¬ a.getD k 0 = 121) : fsK Ls a (k + 1) = some s := by simp only [fsK, h]; rw [if_neg hy]
theorem fsK_add {Ls : List (List Int)} {a : List UInt8} {k : Nat} {s : Int} (h : fsK Ls a k = some s) (hy : a.getD k 0 = 121) (hn : (Ls.getD k []).length ≠ 0) : fsK Ls a (k + 1) = some (s + (Ls.getD k []).getD 0 0) := by
  simp only [fsK, h]
  rw [if_pos hy]
  cases e : Ls.getD k [] with
  | nil => rw [e] at hn; simp at hn
  | cons x t => simp
theorem fsK_empty {Ls : List (List Int)} {a : List UInt8} {k : Nat} {s : Int} (h : fsK Ls a k = some s) (hy : a.getD k 0 = 121) (hn : (Ls.getD k []).length = 0) : fsK Ls a (k + 1) = none := by
  simp only [fsK, h]
  rw [if_pos hy, List.length_eq_zero_iff.1 hn]
theorem fsK_stay {Ls : List (List Int)} {a : List UInt8} {k : Nat} (h : fsK Ls a k = none) : ∀ d, fsK Ls a (k + d) = none := by
  intro d
  induction d with
  | zero => exact h
  | succ d ih => rw [← Nat.add_assoc]; simp only [fsK, ih]
def fsV (Ls : List (List Int)) (a : List UInt8) : Int := (fsK Ls a Ls.length).getD 0
def fsS (Ls : List (List Int)) (a : List UInt8) : Bool := (fsK Ls a Ls.length).isSome
theorem fs_none {Ls : List (List Int)} {a : List UInt8} {k : Nat} (hk : k < Ls.length) (h : fsK Ls a (k + 1) = none) : fsV Ls a = 0 ∧ fsS Ls a = false := by
  have := fsK_stay h (Ls.length - (k + 1))
  rw [show k + 1 + (Ls.length - (k + 1)) = Ls.length by omega] at this
  simp [fsV, fsS, this]
theorem fs_some {Ls : List (List Int)} {a : List UInt8} {s : Int} (h : fsK Ls a Ls.length = some s) : fsV Ls a = s ∧ fsS Ls a = true := by simp [fsV, fsS, h]

set_option maxHeartbeats 2000000 in
set_option maxRecDepth 20000 in
theorem caFirsts_any (n : Int) (v : Value) (Ls : List (List Int)) (a : List UInt8) (w : World) (h : Svv w v Ls) (g : CaG n Ls) (ha : a.length = Ls.length) :
    Calls Try.prog 54 #[.agg #[.int .i64 n, v], .string (bstr a)] w fun e w' => e = .returned (.tuple #[.int .i64 (fsV Ls a), .bool (fsS Ls a)]) ∧ Below w.heap.size w w' := by
  obtain ⟨p, cap, rfl⟩ := svv_form h
  have hhi := g.hi
  have hl12 := g.len
  have G := Lib.hid g
  have hA := Lib.hid ha
  obtain ⟨s, es⟩ : ∃ s, bstr a = s := ⟨_, rfl⟩
  have ES := Lib.hid es
  rw [es]
  have hb0 : Below w.heap.size w (w.alloc (.cells #[.int .i64 n, .slice p Ls.length cap] 36)) := (Below.refl _ w).alloc (Nat.le_refl _) _
  have H := Lib.hid (h.below hb0 (Nat.le_refl _))
  clear h g es ha
  go_enter Try.func54, Try.ntmps54
  go_wp2
  go_loop [6, 12] (fun t i => ∃ (k : Nat) (y : Int), k ≤ Ls.length ∧ i = .int .i64 k ∧ t = .int .i64 y ∧ 0 ≤ y ∧ y ≤ 127 * k ∧ Hid (fsK Ls a k = some y)) (fun _ i => Ls.length - (intOf i).toNat)
  case atStart => exact ⟨0, 0, Nat.zero_le _, rfl, rfl, by omega, by omega, Lib.hid rfl⟩
  case round =>
    obtain ⟨k, y, hk, rfl, rfl, hy0, hy1, HF⟩ := hrel
    by_cases hlt : k < Ls.length
    · obtain ⟨b, off, rfl, hbl, hr⟩ := svv_row H.out (by omega)
      obtain ⟨u, hcell, hs⟩ := hr k hlt
      obtain ⟨pu, cu, rfl, hu⟩ := hs
      have hB : ∀ wx : World, (Instr.index 9 (.string s) (.int .i64 (k : Int))).run Try.prog wx = .ok (.int .u8 ((a.getD k 0).toNat : Int)) wx := fun wx => by
        rw [← ES.out]; exact byte_at a k (by rw [hA.out]; exact hlt) 9 Try.underlying9 wx
      have hris := G.out.ris k hlt
      by_cases hc : a.getD k 0 = 121
      · rw [hc] at hB
        by_cases hz : (rowL Ls k).length = 0
        · have HN := Lib.hid (fs_none hlt (fsK_empty HF.out hc hz))
          have dz : (((rowL Ls k).length : Int) == 0) = true := by rw [hz]; rfl
          clear hr hu hc hris hz
          go_wp2
          go_ret2
          exact ⟨ret_ib HN.out.1.symm HN.out.2.symm, hb0⟩
        · have HN := Lib.hid (fsK_add HF.out hc hz)
          have dz : (((rowL Ls k).length : Int) == 0) = false := by rw [beq_eq_false_iff_ne]; omega
          obtain ⟨bu, ou, rfl, hbu, hcu⟩ := hu (by omega)
          have hx := hcu 0 (by omega)
          rw [Nat.add_zero] at hx
          have hbd := hris.1 0 (by show 0 < (rowL Ls k).length; omega)
          have hpos : (0 : Int) < (rowL Ls k).length := by omega
          change 0 ≤ (rowL Ls k).getD 0 0 ∧ (rowL Ls k).getD 0 0 ≤ n - 1 at hbd
          have HN : Hid (fsK Ls a (k + 1) = some (y + (rowL Ls k).getD 0 0)) := HN
          obtain ⟨x, ex⟩ : ∃ x, (rowL Ls k).getD 0 0 = x := ⟨_, rfl⟩
          rw [ex] at hx HN hbd
          obtain ⟨hbd0, hbd1⟩ := hbd
          clear hr hu hc hris hz ex hcu
          go_wp2
          go_round
          case rel => exact ⟨k + 1, y + x, by omega, by go_num, by go_num, by omega, by omega, HN⟩
          case measure => simp only [intOf]; omega
      · have HN := Lib.hid (fsK_skip HF.out hc)
        have hne : ¬ ((a.getD k 0).toNat : Int) = 121 := fun e => hc (UInt8.toNat_inj.1 (by have : (121 : UInt8).toNat = 121 := rfl; omega))
        obtain ⟨x, ex⟩ : ∃ x : Int, ((a.getD k 0).toNat : Int) = x := ⟨_, rfl⟩
        rw [ex] at hB hne
        clear hr hu hc hris ex
        go_wp2
        go_round
        case rel => exact ⟨k + 1, y, by omega, by go_num, rfl, by omega, by omega, HN⟩
        case measure => simp only [intOf]; omega
    · have hke : k = Ls.length := by omega
      subst hke
      have HN := Lib.hid (fs_some HF.out)
      go_wp2
      go_ret2
      exact ⟨ret_ib HN.out.1.symm HN.out.2.symm, hb0⟩

end Go.Proofs.Ytmcbhpmkhbmlgaa
