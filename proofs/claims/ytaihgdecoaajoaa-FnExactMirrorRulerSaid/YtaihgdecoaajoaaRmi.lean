/-
  MirrorRuler in the model, by its contract. Condition: slices of at most 2^40 numbers.
-/
import Derived.Test.YtaihgdecoaajoaaRwm
namespace Go.Proofs.Ytaihgdecoaajoaa
open Go.RowKit

/-- The first k marks, told from the other end. -/
def mrK (ms : List Int) (k : Nat) : List Int := (List.range k).map fun j => lastM ms - ms.getD (ms.length - 1 - j) 0
theorem mrK_next (ms : List Int) (k : Nat) : mrK ms (k + 1) = mrK ms k ++ [lastM ms - ms.getD (ms.length - 1 - k) 0] := by
  unfold mrK; rw [List.range_succ, List.map_append]; rfl
theorem mrK_len (ms : List Int) (k : Nat) : (mrK ms k).length = k := by simp [mrK]
noncomputable def mrR (ms : List Int) : List Int := if rulB ms = true then mrK ms ms.length else []
theorem mrR_len (ms : List Int) (hl : ms.length ≤ 1099511627776) : (mrR ms).length ≤ 1099511627776 := by
  unfold mrR
  split
  · rw [mrK_len]; exact hl
  · simp

set_option maxHeartbeats 8000000 in
set_option maxRecDepth 20000 in
theorem specMirrorRuler_any (v : Value) (ms : List Int) (w : World) (h : Sp w v ms) (hl : ms.length ≤ 1099511627776) :
    Calls Try.prog 36 #[v] w fun e w' => ∃ u, e = .returned (.tuple #[u, .bool (rulB ms)]) ∧ Ow w' w.heap.size u (mrR ms) ∧ Below w.heap.size w w' := by
  have HS := Lib.hid h.sv
  by_cases hg : rulB ms = true
  · have S := rulB_iff.1 hg
    have HT := Lib.hid S
    have HP := Lib.hid h
    have RG := Lib.hid (ruGood_any v ms w HS.out hl)
    rw [hg] at RG
    have Q := Lib.hid (show mrR ms = mrK ms ms.length by simp [mrR, hg])
    rw [hg]
    have hlb := S.last_bd
    have h2 := S.two
    obtain ⟨b, off, cap, rfl, hcap, hcm, hbl, hc⟩ := h
    obtain ⟨n, hn⟩ : ∃ n, ms.length = n + 1 := ⟨ms.length - 1, by omega⟩
    have hcell0 : w.cell? ⟨b, off + n, none⟩ = some (.int .i64 (lastM ms)) := by
      have := hc n (by omega)
      rw [this]; unfold lastM; rw [hn]; rfl
    have HC := Lib.hid hc
    have HN := Lib.hid hn
    have NX := fun k => Lib.hid (mrK_next ms k)
    have ML := fun k => mrK_len ms k
    obtain ⟨l, el⟩ : ∃ l, lastM ms = l := ⟨_, rfl⟩
    have HL := Lib.hid el
    rw [el] at hcell0 hlb NX
    obtain ⟨hl1, hl2, hl3⟩ := hlb
    have hn2 : n ≤ 60 := by omega
    rw [hn] at RG Q NX ⊢
    clear S hc hcm hcap el HS HP
    go_enter Try.func36, Try.ntmps36
    go_wp2_with fail
    refine RG.out.mono ?_
    rintro e w1 ⟨rfl, b1⟩
    clear RG
    go_wp2
    go_loopw [4, 6] (fun t i wr => ∃ k : Nat, k ≤ n + 1 ∧ i = .int .i64 ((n : Int) - k) ∧ Ow wr w.heap.size t (mrK ms k) ∧ Below w.heap.size w wr) (fun _ i _ => (intOf i + 1).toNat)
    case atStart => exact ⟨0, Nat.zero_le _, by simp, World.ownsRow_nil _ _ _ _, b1⟩
    case round =>
      obtain ⟨k, hk, rfl, ho, hb⟩ := hrel
      have hz := hb.size
      have hml := ML k
      by_cases hkn : k < n + 1
      · obtain ⟨j, hj⟩ : ∃ j, n = j + k := ⟨n - k, by omega⟩
        have hjk : (n : Int) - k = (j : Int) := by omega
        have hjl : n + 1 - 1 - k = j := by omega
        have NX := NX k
        rw [hjl] at NX
        have hcL := (hb.cell (p := ⟨b, off + n, none⟩) hbl).trans hcell0
        have hcj := (hb.cell (p := ⟨b, off + j, none⟩) hbl).trans (HC.out j (by rw [HN.out]; omega))
        obtain ⟨x, ex⟩ : ∃ x, ms.getD j 0 = x := ⟨_, rfl⟩
        rw [ex] at hcj NX
        have hxb : 0 ≤ x ∧ x ≤ 60 := by
          have := (rulB_iff.1 hg).ris.1 j (by rw [HN.out]; omega)
          rw [ex] at this; exact this
        obtain ⟨hx0, hx1⟩ := hxb
        have hw : IntKind.i64.wrap (l - x) = l - x := IntWalk.i64_in _ (by omega)
        have i1 : (j : Int) < (n : Int) + 1 := by omega
        have i0 : (0 : Int) ≤ (j : Int) := by omega
        have m1 : (n : Int) < (n : Int) + 1 := by omega
        have m0 : (0 : Int) ≤ (n : Int) := by omega
        have hjk2 : (n : Int) - ((k + 1 : Nat) : Int) = (j : Int) - 1 := by omega
        rw [hjk]
        have hjm : (j : Int) < 61 := by omega
        have HJ := Lib.hid hj
        have HJ2 := Lib.hid hjk2
        clear ex hjk hjl ML hj hjk2
        have hbd := hb.drew
        have hod := ho.below ((Below.refl wr.heap.size wr).drew) (Nat.le_refl _)
        go_wp2
        go_region_law (refine step_append_src rfl (.tmp 18) (.tmp 28) rfl w.heap.size _ (mrK ms k) rfl (by first | exact hod.alloc _ | exact ho.alloc _) _ [l - x] rfl (by exact src_one _ _) (by simp only [List.length_cons, List.length_nil]; omega) (by simp; omega) ?_; intro v' w3 h3 g3; have b3 : Below w.heap.size w w3 := (by first | exact (hbd.alloc (by simpa using hz) _).trans ((hod.alloc _).grown (by simp; omega) g3) | exact (hb.alloc hz _).trans ((ho.alloc _).grown (by simp; omega) g3)))
        all_goals
          go_wp2
          go_roundw
          case rel => exact ⟨k + 1, by omega, by rw [HJ2.out], by rw [NX.out]; exact h3, b3⟩
          case measure => simp only [intOf]; omega
      · have hke : k = n + 1 := by omega
        subst hke
        have e1 : (n : Int) - ((n + 1 : Nat) : Int) = -1 := by omega
        rw [e1]
        go_wp2
        go_ret2
        exact ⟨_, rfl, by rw [Q.out]; exact ho, hb⟩
  · have hg : rulB ms = false := by simpa using hg
    have Q := Lib.hid (show mrR ms = [] by simp [mrR, hg])
    rw [hg]
    have RG := Lib.hid (ruGood_any v ms w HS.out hl)
    rw [hg] at RG
    clear h
    go_enter Try.func36, Try.ntmps36
    go_wp2_with fail
    refine RG.out.mono ?_
    rintro e w1 ⟨rfl, b1⟩
    go_wp2_with fail
    go_ret2
    exact ⟨_, rfl, by rw [Q.out]; exact World.ownsRow_nil _ _ _ _, b1⟩

end Go.Proofs.Ytaihgdecoaajoaa
