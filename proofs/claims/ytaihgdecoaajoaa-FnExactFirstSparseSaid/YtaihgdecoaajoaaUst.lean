/-
  FewestMarks, FirstComplete and CountComplete, FirstSparse and ShortestSparse in the program, by their contracts. No condition.
-/
import Derived.Test.YtaihgdecoaajoaaUss
namespace Go.Proofs.Ytaihgdecoaajoaa
open Go.RowKit

set_option maxHeartbeats 4000000 in
set_option maxRecDepth 20000 in
theorem implFewestMarks_any (a1 : Int) (w : World) :
    Calls Try.prog 47 #[.int .i64 a1] w fun e w' => e = .returned (.tuple #[.int .i64 (fmR a1), .bool (inB a1 1 20)]) ∧ Below w.heap.size w w' := by
  have SC := Lib.hid (searchComplete_any a1 w)
  have E1 : Hid (fmR a1 = ((cmA a1).1.length : Int)) := Lib.hid rfl
  have E2 : Hid (fcR a1 = (cmA a1).1) := Lib.hid rfl
  have E3 : Hid (ccR a1 = (cmA a1).2) := Lib.hid rfl
  obtain ⟨⟨L, c⟩, eR⟩ : ∃ R, cmA a1 = R := ⟨_, rfl⟩
  rw [eR] at SC E1 E2 E3
  dsimp only at SC E1 E2 E3
  obtain ⟨B, eB⟩ : ∃ B, inB a1 1 20 = B := ⟨_, rfl⟩
  rw [eB] at SC ⊢
  clear eR eB
  go_enter Try.func47, Try.ntmps47
  go_wp2_with fail
  refine SC.out.mono ?_
  rintro e w2 ⟨u, rfl, o2, b2⟩
  clear SC
  rcases o2.form with ⟨hu, e3⟩ | ⟨g, cap, hu, _, _⟩
  all_goals
    have O := o2.alloc (.cells #[u, .int .i64 c] 57)
    have b3 := b2.alloc b2.size (.cells #[u, .int .i64 c] 57)
    have HO := Lib.hid O
    subst hu
    clear o2 O
    go_wp2
    go_ret2
    exact ⟨ibu_ret (by first | (rw [E1.out]; done) | (rw [E1.out, e3]; done) | (rw [E1.out, e3]; rfl)) rfl, b3⟩

set_option maxHeartbeats 4000000 in
set_option maxRecDepth 20000 in
theorem implFirstComplete_any (a1 : Int) (w : World) :
    Calls Try.prog 49 #[.int .i64 a1] w fun e w' => ∃ u, e = .returned (.tuple #[u, .bool (inB a1 1 20)]) ∧ Ow w' w.heap.size u (fcR a1) ∧ Below w.heap.size w w' := by
  have SC := Lib.hid (searchComplete_any a1 w)
  have E1 : Hid (fmR a1 = ((cmA a1).1.length : Int)) := Lib.hid rfl
  have E2 : Hid (fcR a1 = (cmA a1).1) := Lib.hid rfl
  have E3 : Hid (ccR a1 = (cmA a1).2) := Lib.hid rfl
  obtain ⟨⟨L, c⟩, eR⟩ : ∃ R, cmA a1 = R := ⟨_, rfl⟩
  rw [eR] at SC E1 E2 E3
  dsimp only at SC E1 E2 E3
  obtain ⟨B, eB⟩ : ∃ B, inB a1 1 20 = B := ⟨_, rfl⟩
  rw [eB] at SC ⊢
  clear eR eB
  go_enter Try.func49, Try.ntmps49
  go_wp2_with fail
  refine SC.out.mono ?_
  rintro e w2 ⟨u, rfl, o2, b2⟩
  clear SC
  rcases o2.form with ⟨hu, e3⟩ | ⟨g, cap, hu, _, _⟩
  all_goals
    have O := o2.alloc (.cells #[u, .int .i64 c] 57)
    have b3 := b2.alloc b2.size (.cells #[u, .int .i64 c] 57)
    have HO := Lib.hid O
    subst hu
    clear o2 O
    go_wp2
    go_ret2
    exact ⟨_, rfl, by rw [E2.out]; exact HO.out, b3⟩

set_option maxHeartbeats 4000000 in
set_option maxRecDepth 20000 in
theorem implCountComplete_any (a1 : Int) (w : World) :
    Calls Try.prog 51 #[.int .i64 a1] w fun e w' => e = .returned (.tuple #[.int .i64 (ccR a1), .bool (inB a1 1 20)]) ∧ Below w.heap.size w w' := by
  have SC := Lib.hid (searchComplete_any a1 w)
  have E1 : Hid (fmR a1 = ((cmA a1).1.length : Int)) := Lib.hid rfl
  have E2 : Hid (fcR a1 = (cmA a1).1) := Lib.hid rfl
  have E3 : Hid (ccR a1 = (cmA a1).2) := Lib.hid rfl
  obtain ⟨⟨L, c⟩, eR⟩ : ∃ R, cmA a1 = R := ⟨_, rfl⟩
  rw [eR] at SC E1 E2 E3
  dsimp only at SC E1 E2 E3
  obtain ⟨B, eB⟩ : ∃ B, inB a1 1 20 = B := ⟨_, rfl⟩
  rw [eB] at SC ⊢
  clear eR eB
  go_enter Try.func51, Try.ntmps51
  go_wp2_with fail
  refine SC.out.mono ?_
  rintro e w2 ⟨u, rfl, o2, b2⟩
  clear SC
  rcases o2.form with ⟨hu, e3⟩ | ⟨g, cap, hu, _, _⟩
  all_goals
    have O := o2.alloc (.cells #[u, .int .i64 c] 57)
    have b3 := b2.alloc b2.size (.cells #[u, .int .i64 c] 57)
    have HO := Lib.hid O
    subst hu
    clear o2 O
    go_wp2
    go_ret2
    exact ⟨ibu_ret (by rw [E3.out]) rfl, b3⟩

set_option maxHeartbeats 8000000 in
set_option maxRecDepth 20000 in
theorem implFirstSparse_any (a1 : Int) (w : World) :
    Calls Try.prog 55 #[.int .i64 a1] w fun e w' => ∃ u, e = .returned (.tuple #[u, .bool (inB a1 2 6)]) ∧ Ow w' w.heap.size u (fsR a1) ∧ Below w.heap.size w w' := by
  by_cases hi : inB a1 2 6 = true
  · have hib := inB_iff.1 hi
    have dd := inB_yes hi
    obtain ⟨m, rfl⟩ : ∃ n : Nat, a1 = n := ⟨a1.toNat, by omega⟩
    obtain ⟨d, rfl⟩ : ∃ d, m = d + 2 := ⟨m - 2, by omega⟩
    have hd : d ≤ 4 := by omega
    have GB := golL_bd (m := d + 2) (by omega) (by omega)
    have GP := gol_pos (m := d + 2) (by omega) (by omega)
    rw [show d + 2 - 2 = d by omega] at GP
    obtain ⟨G, eG⟩ : ∃ G, golL (d + 2) = G := ⟨_, rfl⟩
    rw [eG] at GB GP
    have GPH := Lib.hid GP
    have SL : Hid (∀ l, 1 ≤ l → 0 < (rs false l d [0]).2 → (∀ e, e < l → 1 ≤ e → (rs false e d [0]).2 ≤ 0) → shL (d + 2) = l) := Lib.hid fun l a b c => shL_eq a (by rw [show d + 2 - 2 = d by omega]; exact b) (by rw [show d + 2 - 2 = d by omega]; exact c)
    have Q : Hid (fsR ((d + 2 : Nat) : Int) = (rs false (shL (d + 2)) d [0]).1) := Lib.hid (by unfold fsR; rw [if_pos hi, Int.toNat_natCast, show d + 2 - 2 = d by omega])
    obtain ⟨dd1, dd2⟩ := dd
    rw [hi]
    have HI := Lib.hid hi
    rw [Q.out]
    rw [show ((d + 2 : Nat) : Int) = (d : Int) + 2 from rfl] at dd1 dd2 ⊢
    obtain ⟨hG1, hG17, -⟩ := GB
    clear hi hib eG GP
    go_enter Try.func55, Try.ntmps55
    go_wp2
    go_loopw [4] (fun x wr => ∃ l : Nat, 1 ≤ l ∧ l ≤ G ∧ x = .int .i64 l ∧ Hid (∀ e, e < l → 1 ≤ e → (rs false e d [0]).2 ≤ 0) ∧ Below w.heap.size w wr) (fun x _ => G + 1 - (intOf x).toNat)
    case atStart => exact ⟨1, by omega, hG1, rfl, Lib.hid (fun e he h => by omega), Below.refl _ _⟩
    case round =>
      obtain ⟨l, hl1, hl, rfl, HN, hb⟩ := hrel
      have hz := hb.size
      have NX : Hid ((rs false l d [0]).2 ≤ 0 → l + 1 ≤ G ∧ ∀ e, e < l + 1 → 1 ≤ e → (rs false e d [0]).2 ≤ 0) := Lib.hid (fun g => by
        refine ⟨?_, fun e he h1 => ?_⟩
        · by_cases e : l = G
          · subst e; exact absurd GPH.out (Int.not_lt.2 g)
          · omega
        · by_cases ee : e = l
          · subst ee; exact g
          · exact HN.out e (by omega) h1)
      have EQ : Hid (0 < (rs false l d [0]).2 → shL (d + 2) = l) := Lib.hid (fun g => SL.out l hl1 g HN.out)
      have RS := Lib.hid (search_false l d hl1 (by omega) (by omega) wr)
      obtain ⟨⟨L, c⟩, eR⟩ : ∃ R, rs false l d [0] = R := ⟨_, rfl⟩
      rw [eR] at RS NX EQ
      dsimp only at RS NX EQ
      have ER := Lib.hid eR
      clear eR
      go_wp2_with fail
      refine RS.out.mono ?_
      rintro e w2 ⟨u, rfl, o2, b2⟩
      have b2 := nxt hb b2
      have o2 := o2.mono hz
      clear RS
      rcases o2.form with ⟨hu, e3⟩ | ⟨g, cap, hu, _, _⟩
      all_goals
        have O := Lib.hid (o2.alloc (.cells #[u, .int .i64 c] 57))
        have b3 := b2.alloc b2.size (.cells #[u, .int .i64 c] 57)
        subst hu
        clear o2
        by_cases hc : 0 < c
        · have EE := Lib.hid (EQ.out hc)
          have dc : decide (0 < c) = true := by simpa using hc
          clear NX EQ
          go_wp2_with fail
          go_ret2
          exact ⟨_, rfl, by rw [EE.out, ER.out]; exact O.out, b3⟩
        · have N := Lib.hid (NX.out (by omega))
          have hm1 := N.out.1
          have dc : decide (0 < c) = false := by simpa using hc
          clear NX EQ O
          go_wp2_with fail
          go_roundw
          case rel => exact ⟨l + 1, by omega, hm1, by go_num, Lib.hid N.out.2, b3⟩
          case measure => simp [intOf]; omega
  · have hi : inB a1 2 6 = false := by simpa using hi
    have Q : Hid (fsR a1 = []) := Lib.hid (by simp [fsR, hi])
    rw [hi, Q.out]
    rcases inB_no hi with h1 | h1
    · clear Q hi
      go_enter Try.func55, Try.ntmps55
      go_wp2
      go_ret2
      exact ⟨_, rfl, ow_nilR _ _, Below.refl _ _⟩
    · have d1 : decide (a1 < 2) = false := by rw [decide_eq_false_iff_not]; omega
      clear Q hi
      go_enter Try.func55, Try.ntmps55
      go_wp2
      go_ret2
      exact ⟨_, rfl, ow_nilR _ _, Below.refl _ _⟩

set_option maxHeartbeats 4000000 in
set_option maxRecDepth 20000 in
theorem implShortestSparse_any (a1 : Int) (w : World) :
    Calls Try.prog 53 #[.int .i64 a1] w fun e w' => e = .returned (.tuple #[.int .i64 (ssR a1), .bool (inB a1 2 6)]) ∧ Below w.heap.size w w' := by
  have FS := Lib.hid (implFirstSparse_any a1 w)
  by_cases hi : inB a1 2 6 = true
  · have hib := inB_iff.1 hi
    have CN := (sh_fnd (m := a1.toNat) (by omega) (by omega)).1.cnt
    have Q : Hid (ssR a1 = lastM (fsR a1)) := Lib.hid (by simp [ssR, hi])
    have QL : (fsR a1).length = a1.toNat := by unfold fsR; rw [if_pos hi]; exact CN
    obtain ⟨L, eL⟩ : ∃ L, fsR a1 = L := ⟨_, rfl⟩
    rw [eL] at FS Q QL
    rw [hi] at FS ⊢
    clear hi eL CN
    go_enter Try.func53, Try.ntmps53
    go_wp2_with fail
    refine FS.out.mono ?_
    rintro e w2 ⟨u, rfl, o2, b2⟩
    have RL := Lib.hid (rulerLength_any u L w2 o2.sv (by omega) (by omega))
    clear FS
    go_wp2_with fail
    refine RL.out.mono ?_
    rintro e w3 ⟨rfl, rfl⟩
    go_wp2_with fail
    go_ret2
    exact ⟨ibu_ret Q.out.symm rfl, b2⟩
  · have hi : inB a1 2 6 = false := by simpa using hi
    have Q : Hid (ssR a1 = 0) := Lib.hid (by simp [ssR, hi])
    rw [hi] at FS ⊢
    clear hi
    go_enter Try.func53, Try.ntmps53
    go_wp2_with fail
    refine FS.out.mono ?_
    rintro e w2 ⟨u, rfl, o2, b2⟩
    clear FS
    go_wp2_with fail
    go_ret2
    exact ⟨ibu_ret Q.out.symm rfl, b2⟩
end Go.Proofs.Ytaihgdecoaajoaa
