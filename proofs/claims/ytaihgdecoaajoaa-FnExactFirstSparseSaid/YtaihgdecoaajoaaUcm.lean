/-
  The model's searches for the first complete and the shortest sparse ruler, by their contracts. Conditions: a length of 1..20; 2..6 marks.
-/
import Derived.Test.YtaihgdecoaajoaaRsr
import Derived.Test.YtaihgdecoaajoaaUpv
namespace Go.Proofs.Ytaihgdecoaajoaa
open Go.RowKit

theorem ow_one (w : World) (n : Int) : Ow (w.alloc (.cells #[.int .i64 n] 3)) w.heap.size (.slice (some ⟨w.heap.size, 0, none⟩) 1 1) [n] :=
  ⟨by simp, .inr ⟨w.heap.size, 1, #[.int .i64 n], rfl, Nat.le_refl _, heap_alloc_new w _, Nat.le_refl _, by unfold maxLen; omega, rfl, rfl⟩⟩
theorem cmD_eq {len m : Nat} (h : 0 < (rs true len m [0]).2) (g : ∀ e, e < m → (rs true len e [0]).2 ≤ 0) : cmD len = m := lstD_eq h fun e he => Int.not_lt.2 (g e he)
theorem shL_eq {m l : Nat} (h1 : 1 ≤ l) (h : 0 < (rs false l (m - 2) [0]).2) (g : ∀ e, e < l → 1 ≤ e → (rs false e (m - 2) [0]).2 ≤ 0) : shL m = l :=
  lstD_eq (P := fun l => 1 ≤ l ∧ 0 < (rs false l (m - 2) [0]).2) ⟨h1, h⟩ fun e he hh => Int.not_lt.2 (g e he hh.1) hh.2
theorem nat_quo {a : Int} {P : Nat} (h : a = (P : Int)) : Int.tdiv a 2 = ((P / 2 : Nat) : Int) := by
  subst h; rw [Int.tdiv_eq_ediv_of_nonneg (by omega)]; rfl

set_option maxHeartbeats 8000000 in
set_option maxRecDepth 20000 in
theorem ruComplete_any (len : Nat) (h1 : 1 ≤ len) (h2 : len ≤ 20) (w : World) :
    Calls Try.prog 80 #[.int .i64 len] w fun e w' => ∃ u, e = .returned (.tuple #[u, .int .i64 (rs true len (cmD len) [0]).2]) ∧ Ow w' w.heap.size u (rs true len (cmD len) [0]).1 ∧ Below w.heap.size w w' := by
  have BZ := Lib.hid (beg_zero h1 h2)
  have CP := Lib.hid (cm_pos h1)
  go_enter Try.func80, Try.ntmps80
  go_wp2
  go_loopw [4] (fun x wr => ∃ m : Nat, m < len ∧ x = .int .i64 m ∧ Hid (∀ e, e < m → (rs true len e [0]).2 ≤ 0) ∧ Below w.heap.size w wr) (fun x _ => len - (intOf x).toNat)
  case atStart => exact ⟨0, by omega, rfl, Lib.hid (fun e he => by omega), Below.refl _ _⟩
  case round =>
    obtain ⟨m, hm, rfl, HN, hb⟩ := hrel
    have hz := hb.size
    have NX : Hid ((rs true len m [0]).2 ≤ 0 → m + 1 < len ∧ ∀ e, e < m + 1 → (rs true len e [0]).2 ≤ 0) := Lib.hid (fun g => by
      refine ⟨?_, fun e he => ?_⟩
      · by_cases e : m = len - 1
        · rw [e] at g; exact absurd CP.out (Int.not_lt.2 g)
        · omega
      · by_cases ee : e = m
        · subst ee; exact g
        · exact HN.out e (by omega))
    have EQ : Hid (0 < (rs true len m [0]).2 → cmD len = m) := Lib.hid (fun g => cmD_eq g HN.out)
    have FN : Hid ((m + 2) * (m + 1) / 2 < len → (rs true len m [0]).2 ≤ 0) := Lib.hid fun g => Int.not_lt.1 (few_none (len := len) (m := m) h1 h2 g)
    have hP : (m + 2) * (m + 1) ≤ 462 := Nat.le_trans (Nat.mul_le_mul (show m + 2 ≤ 22 by omega) (show m + 1 ≤ 21 by omega)) (by decide)
    obtain ⟨P, eP⟩ : ∃ P : Nat, (m + 2) * (m + 1) = P := ⟨_, rfl⟩
    rw [eP] at FN hP
    have hmul : ((m : Int) + 2) * ((m : Int) + 1) = (P : Int) := by rw [← eP, Int.natCast_mul]; rfl
    have bP : -9223372036854775808 ≤ (P : Int) ∧ (P : Int) ≤ 9223372036854775807 := by omega
    obtain ⟨q, eq⟩ : ∃ q : Nat, P / 2 = q := ⟨_, rfl⟩
    have hqb : q ≤ 462 := by rw [← eq]; exact Nat.le_trans (Nat.div_le_self _ _) hP
    rw [eq] at FN
    have bq : -9223372036854775808 ≤ (q : Int) ∧ (q : Int) ≤ 9223372036854775807 := by omega
    have RS := fun W v C hv hC => Lib.hid (rs_any true len m (by omega) [0] v W C hv hC BZ.out)
    by_cases hlt : q < len
    · have d1 : decide ((q : Int) < (len : Int)) = true := by rw [decide_eq_true_eq]; omega
      have N := Lib.hid (NX.out (FN.out hlt))
      have hm1 := N.out.1
      have hw1 : IntKind.i64.wrap (((m : Int) + 2) * ((m : Int) + 1)) = (P : Int) := by rw [hmul]; exact IntWalk.i64_in _ bP
      have hq : Int.tdiv (P : Int) 2 = (q : Int) := by rw [← eq]; exact nat_quo rfl
      have hw2 : wrap64 (q : Int) = (q : Int) := IntWalk.wrap64_in _ bq
      clear eP hmul eq bP bq
      go_wp2
      clear hw1 hq hw2
      go_roundw
      case rel => exact ⟨m + 1, hm1, by go_num, Lib.hid N.out.2, hb⟩
      case measure => simp [intOf]; omega
    · have d1 : decide ((q : Int) < (len : Int)) = false := by rw [decide_eq_false_iff_not]; omega
      have RS := RS _ _ _ (ow_one wr 0) (by simp)
      have hb0 := hb.alloc hz (.cells #[.int .i64 0] 3)
      have hw1 : IntKind.i64.wrap (((m : Int) + 2) * ((m : Int) + 1)) = (P : Int) := by rw [hmul]; exact IntWalk.i64_in _ bP
      have hq : Int.tdiv (P : Int) 2 = (q : Int) := by rw [← eq]; exact nat_quo rfl
      have hw2 : wrap64 (q : Int) = (q : Int) := IntWalk.wrap64_in _ bq
      have NN := (rs_nrm true len m [0]).1
      obtain ⟨⟨L, c⟩, eR⟩ : ∃ R, rs true len m [0] = R := ⟨_, rfl⟩
      rw [eR] at RS NX EQ NN
      dsimp only at RS NX EQ NN
      have ER := Lib.hid eR
      clear eP hmul eq bP bq eR FN
      go_wp2_with fail
      refine RS.out.mono ?_
      rintro e w3 ⟨u, rfl, o3, b3⟩
      have o3 := o3.mono hz
      have b3 := hb0.trans (b3.mono hb0.size)
      clear RS hw1 hq hw2
      by_cases hc : 0 < c
      · have E := Lib.hid (EQ.out hc)
        have dc : decide (0 < c) = true := by simpa using hc
        go_wp2_with fail
        go_ret2
        exact ⟨_, by rw [E.out, ER.out]; rfl, by rw [E.out, ER.out]; exact o3, b3⟩
      · have N := Lib.hid (NX.out (by omega))
        have hm1 := N.out.1
        have dc : decide (0 < c) = false := by simpa using hc
        go_wp2_with fail
        go_roundw
        case rel => exact ⟨m + 1, hm1, by go_num, Lib.hid N.out.2, b3⟩
        case measure => simp [intOf]; omega

set_option maxHeartbeats 8000000 in
set_option maxRecDepth 20000 in
theorem ruShort_any (m s : Nat) (h2 : 2 ≤ m) (h6 : m ≤ 6) (hs : m * (m - 1) / 2 = s) (w : World)
    (hq : Int.tdiv ((m : Int) * ((m : Int) - 1)) 2 = (s : Int)) (hw : IntKind.i64.wrap ((m : Int) * ((m : Int) - 1)) = (m : Int) * ((m : Int) - 1)) :
    Calls Try.prog 82 #[.int .i64 m] w fun e w' => ∃ u, e = .returned u ∧ Ow w' w.heap.size u (rs false (shL m) (m - 2) [0]).1 ∧ Below w.heap.size w w' := by
  have GB := golL_bd h2 h6
  have GP := Lib.hid (gol_pos h2 h6)
  rw [hs] at GB
  have SN : Hid (∀ e, e < s → 1 ≤ e → (rs false e (m - 2) [0]).2 ≤ 0) := Lib.hid fun e he h1 => Int.not_lt.1 (short_none h1 (by omega) h2 (by rw [hs]; exact he))
  have hs1 : 1 ≤ s := by
    have : 2 * 1 ≤ m * (m - 1) := Nat.mul_le_mul h2 (by omega)
    omega
  obtain ⟨G, eG⟩ : ∃ G, golL m = G := ⟨_, rfl⟩
  rw [eG] at GB GP
  obtain ⟨d, hd⟩ : ∃ d, m = d + 2 := ⟨m - 2, by omega⟩
  have hm2 : m - 2 = d := by omega
  have SL : Hid (∀ l, 1 ≤ l → 0 < (rs false l d [0]).2 → (∀ e, e < l → 1 ≤ e → (rs false e d [0]).2 ≤ 0) → shL m = l) := Lib.hid fun l a b c => shL_eq a (by rw [hm2]; exact b) (by rw [hm2]; exact c)
  rw [hm2] at GP SN ⊢
  have hsb : -9223372036854775808 ≤ (s : Int) ∧ (s : Int) ≤ 9223372036854775807 := by omega
  have hwm : IntKind.i64.wrap ((m : Int) - 1) = (m : Int) - 1 := IntWalk.i64_in _ (by omega)
  have hwd : (m : Int) - 2 = (d : Int) := by omega
  have hws : wrap64 (s : Int) = (s : Int) := IntWalk.wrap64_in _ hsb
  clear eG hsb hm2 hs hd
  go_enter Try.func82, Try.ntmps82
  go_wp2
  clear hws hq hw hwm
  go_loopw [3] (fun x wr => ∃ l : Nat, s ≤ l ∧ l ≤ G ∧ x = .int .i64 l ∧ Hid (∀ e, e < l → 1 ≤ e → (rs false e d [0]).2 ≤ 0) ∧ Below w.heap.size w wr) (fun x _ => G + 1 - (intOf x).toNat)
  case atStart => exact ⟨s, Nat.le_refl _, GB.2.2, rfl, SN, Below.refl _ _⟩
  case round =>
    obtain ⟨l, hl, hlG, rfl, HN, hb⟩ := hrel
    have hz := hb.size
    have NX : Hid ((rs false l d [0]).2 ≤ 0 → l + 1 ≤ G ∧ ∀ e, e < l + 1 → 1 ≤ e → (rs false e d [0]).2 ≤ 0) := Lib.hid (fun g => by
      refine ⟨?_, fun e he h1 => ?_⟩
      · by_cases e : l = G
        · subst e; exact absurd GP.out (Int.not_lt.2 g)
        · omega
      · by_cases ee : e = l
        · subst ee; exact g
        · exact HN.out e (by omega) h1)
    have EQ : Hid (0 < (rs false l d [0]).2 → shL m = l) := Lib.hid (fun g => SL.out l (by omega) g HN.out)
    have RS := Lib.hid (rs_any false l d (by omega) [0] _ _ _ (ow_one wr 0) (by simp) (beg_zero (by omega) (by omega)))
    have hb0 := hb.alloc hz (.cells #[.int .i64 0] 3)
    have hwd2 : IntKind.i64.wrap ((m : Int) - 2) = (d : Int) := by rw [hwd]; exact IntWalk.i64_in _ (by omega)
    obtain ⟨⟨L, c⟩, eR⟩ : ∃ R, rs false l d [0] = R := ⟨_, rfl⟩
    rw [eR] at RS NX EQ
    dsimp only at RS NX EQ
    have ER := Lib.hid eR
    clear eR SN SL
    go_wp2_with fail
    refine RS.out.mono ?_
    rintro e w3 ⟨u, rfl, o3, b3⟩
    have o3 := o3.mono hz
    have b3 := hb0.trans (b3.mono hb0.size)
    clear RS hwd2
    by_cases hc : 0 < c
    · have E := Lib.hid (EQ.out hc)
      have dc : decide (0 < c) = true := by simpa using hc
      go_wp2_with fail
      go_ret
      exact ⟨_, rfl, by rw [E.out, ER.out]; exact o3, b3⟩
    · have N := Lib.hid (NX.out (by omega))
      have hm1 := N.out.1
      have dc : decide (0 < c) = false := by simpa using hc
      go_wp2_with fail
      go_roundw
      case rel => exact ⟨l + 1, by omega, hm1, by go_num, Lib.hid N.out.2, b3⟩
      case measure => simp [intOf]; omega

theorem ibu_ret {a b : Int} {c d : Bool} (h : a = b) (g : c = d) : Ending.returned (.tuple #[.int .i64 a, .bool c]) = .returned (.tuple #[.int .i64 b, .bool d]) := by rw [h, g]

set_option maxHeartbeats 4000000 in
set_option maxRecDepth 20000 in
theorem specFewestMarks_any (a1 : Int) (w : World) :
    Calls Try.prog 46 #[.int .i64 a1] w fun e w' => e = .returned (.tuple #[.int .i64 (fmR a1), .bool (inB a1 1 20)]) ∧ Below w.heap.size w w' := by
  by_cases hi : inB a1 1 20 = true
  · have hib := inB_iff.1 hi
    obtain ⟨n, rfl⟩ : ∃ n : Nat, a1 = n := ⟨a1.toNat, by omega⟩
    have CA := Lib.hid (show cmA (n : Int) = rs true n (cmD n) [0] by simp [cmA, hi])
    have HI := Lib.hid hi
    have RC := fun W => Lib.hid (ruComplete_any n (by omega) (by omega) W)
    obtain ⟨⟨L, c⟩, eR⟩ : ∃ R, rs true n (cmD n) [0] = R := ⟨_, rfl⟩
    rw [eR] at RC CA
    dsimp only at RC
    clear eR hi
    go_enter Try.func46, Try.ntmps46
    go_wp2_with fail
    refine (l1In_any _ _ _ _).mono ?_
    rw [HI.out]
    rintro e w1 ⟨rfl, rfl⟩
    go_wp2_with fail
    refine (RC _).out.mono ?_
    rintro e w3 ⟨u, rfl, o3, b3⟩
    clear RC
    rcases o3.form with ⟨rfl, e3⟩ | ⟨g, cp, rfl, _, _⟩
    · have E := Lib.hid (show fmR (n : Int) = 0 by unfold fmR; rw [CA.out, e3]; rfl)
      clear o3
      go_wp2_with fail
      go_ret2
      exact ⟨ibu_ret E.out.symm HI.out.symm, b3⟩
    · have E := Lib.hid (show fmR (n : Int) = (L.length : Int) by unfold fmR; rw [CA.out])
      clear o3
      go_wp2_with fail
      go_ret2
      exact ⟨ibu_ret E.out.symm HI.out.symm, b3⟩
  · have hi : inB a1 1 20 = false := by simpa using hi
    have CA := Lib.hid (show cmA a1 = ([], 0) by simp [cmA, hi])
    have HI := Lib.hid hi
    clear hi
    go_enter Try.func46, Try.ntmps46
    go_wp2_with fail
    refine (l1In_any _ _ _ _).mono ?_
    rw [HI.out]
    rintro e w1 ⟨rfl, rfl⟩
    go_wp2_with fail
    go_ret2
    exact ⟨ibu_ret (by unfold fmR; rw [CA.out]; rfl) HI.out.symm, Below.refl _ _⟩

set_option maxHeartbeats 4000000 in
set_option maxRecDepth 20000 in
theorem specFirstComplete_any (a1 : Int) (w : World) :
    Calls Try.prog 48 #[.int .i64 a1] w fun e w' => ∃ u, e = .returned (.tuple #[u, .bool (inB a1 1 20)]) ∧ Ow w' w.heap.size u (fcR a1) ∧ Below w.heap.size w w' := by
  by_cases hi : inB a1 1 20 = true
  · have hib := inB_iff.1 hi
    obtain ⟨n, rfl⟩ : ∃ n : Nat, a1 = n := ⟨a1.toNat, by omega⟩
    have CA := Lib.hid (show cmA (n : Int) = rs true n (cmD n) [0] by simp [cmA, hi])
    have HI := Lib.hid hi
    have RC := fun W => Lib.hid (ruComplete_any n (by omega) (by omega) W)
    obtain ⟨⟨L, c⟩, eR⟩ : ∃ R, rs true n (cmD n) [0] = R := ⟨_, rfl⟩
    rw [eR] at RC CA
    dsimp only at RC
    clear eR hi
    go_enter Try.func48, Try.ntmps48
    go_wp2_with fail
    refine (l1In_any _ _ _ _).mono ?_
    rw [HI.out]
    rintro e w1 ⟨rfl, rfl⟩
    go_wp2_with fail
    refine (RC _).out.mono ?_
    rintro e w3 ⟨u, rfl, o3, b3⟩
    clear RC
    go_wp2_with fail
    go_ret2
    exact ⟨_, ret_lb rfl HI.out.symm, by unfold fcR; rw [CA.out]; exact o3, b3⟩
  · have hi : inB a1 1 20 = false := by simpa using hi
    have CA := Lib.hid (show cmA a1 = ([], 0) by simp [cmA, hi])
    have HI := Lib.hid hi
    clear hi
    go_enter Try.func48, Try.ntmps48
    go_wp2_with fail
    refine (l1In_any _ _ _ _).mono ?_
    rw [HI.out]
    rintro e w1 ⟨rfl, rfl⟩
    go_wp2_with fail
    go_ret2
    exact ⟨_, ret_lb rfl HI.out.symm, by unfold fcR; rw [CA.out]; exact ow_nilR _ _, Below.refl _ _⟩

set_option maxHeartbeats 4000000 in
set_option maxRecDepth 20000 in
theorem specCountComplete_any (a1 : Int) (w : World) :
    Calls Try.prog 50 #[.int .i64 a1] w fun e w' => e = .returned (.tuple #[.int .i64 (ccR a1), .bool (inB a1 1 20)]) ∧ Below w.heap.size w w' := by
  by_cases hi : inB a1 1 20 = true
  · have hib := inB_iff.1 hi
    obtain ⟨n, rfl⟩ : ∃ n : Nat, a1 = n := ⟨a1.toNat, by omega⟩
    have CA := Lib.hid (show cmA (n : Int) = rs true n (cmD n) [0] by simp [cmA, hi])
    have HI := Lib.hid hi
    have RC := fun W => Lib.hid (ruComplete_any n (by omega) (by omega) W)
    obtain ⟨⟨L, c⟩, eR⟩ : ∃ R, rs true n (cmD n) [0] = R := ⟨_, rfl⟩
    rw [eR] at RC CA
    dsimp only at RC
    clear eR hi
    go_enter Try.func50, Try.ntmps50
    go_wp2_with fail
    refine (l1In_any _ _ _ _).mono ?_
    rw [HI.out]
    rintro e w1 ⟨rfl, rfl⟩
    go_wp2_with fail
    refine (RC _).out.mono ?_
    rintro e w3 ⟨u, rfl, o3, b3⟩
    clear RC
    go_wp2_with fail
    go_ret2
    exact ⟨ibu_ret (by unfold ccR; rw [CA.out]) HI.out.symm, b3⟩
  · have hi : inB a1 1 20 = false := by simpa using hi
    have CA := Lib.hid (show cmA a1 = ([], 0) by simp [cmA, hi])
    have HI := Lib.hid hi
    clear hi
    go_enter Try.func50, Try.ntmps50
    go_wp2_with fail
    refine (l1In_any _ _ _ _).mono ?_
    rw [HI.out]
    rintro e w1 ⟨rfl, rfl⟩
    go_wp2_with fail
    go_ret2
    exact ⟨ibu_ret (by unfold ccR; rw [CA.out]) HI.out.symm, Below.refl _ _⟩

/-- The model's search for the shortest sparse ruler, for each number of marks. -/
theorem ruShort_all (m : Nat) (h2 : 2 ≤ m) (h6 : m ≤ 6) (w : World) :
    Calls Try.prog 82 #[.int .i64 m] w fun e w' => ∃ u, e = .returned u ∧ Ow w' w.heap.size u (rs false (shL m) (m - 2) [0]).1 ∧ Below w.heap.size w w' := by
  have h : m = 2 ∨ m = 3 ∨ m = 4 ∨ m = 5 ∨ m = 6 := by omega
  rcases h with rfl | rfl | rfl | rfl | rfl
  · exact ruShort_any 2 1 h2 h6 rfl w rfl (IntWalk.i64_in _ (by omega))
  · exact ruShort_any 3 3 h2 h6 rfl w rfl (IntWalk.i64_in _ (by omega))
  · exact ruShort_any 4 6 h2 h6 rfl w rfl (IntWalk.i64_in _ (by omega))
  · exact ruShort_any 5 10 h2 h6 rfl w rfl (IntWalk.i64_in _ (by omega))
  · exact ruShort_any 6 15 h2 h6 rfl w rfl (IntWalk.i64_in _ (by omega))
/-- What the search finds has as many marks as told. -/
theorem sh_fnd {m : Nat} (h2 : 2 ≤ m) (h6 : m ≤ 6) : Fnd false (shL m) m (rs false (shL m) (m - 2) [0]).1 ∧ 1 ≤ shL m ∧ shL m ≤ 17 ∧ 0 < (rs false (shL m) (m - 2) [0]).2 := by
  have GB := golL_bd h2 h6
  have GP := gol_pos h2 h6
  have hex : ∃ l, (1 ≤ l ∧ 0 < (rs false l (m - 2) [0]).2) ∧ ∀ e, e < l → ¬ (1 ≤ e ∧ 0 < (rs false e (m - 2) [0]).2) := least_ex ⟨GB.1, GP⟩
  obtain ⟨l, hl, hm⟩ := hex
  have e : shL m = l := lstD_eq (P := fun l => 1 ≤ l ∧ 0 < (rs false l (m - 2) [0]).2) hl hm
  have hle : l ≤ golL m := by
    by_cases g : golL m < l
    · exact absurd ⟨GB.1, GP⟩ (hm _ g)
    · omega
  rw [e]
  have F := found hl.1 (by omega) hl.2
  rw [show m - 2 + 2 = m by omega] at F
  exact ⟨F, hl.1, by omega, hl.2⟩
theorem fsR_len (a : Int) : (fsR a).length ≤ 1099511627776 := by
  unfold fsR
  split
  · rename_i h
    have hib := inB_iff.1 h
    have := (sh_fnd (m := a.toNat) (by omega) (by omega)).1.cnt
    omega
  · simp
theorem fcR_len (a : Int) : (fcR a).length ≤ 1099511627776 := by
  unfold fcR cmA
  split
  · rename_i h
    have hib := inB_iff.1 h
    have I := rs_inv (c := true) (len := a.toNat) (cmD a.toNat) [0]
    have Z := rs_nrm true a.toNat (cmD a.toNat) [0]
    by_cases g : 0 < (rs true a.toNat (cmD a.toNat) [0]).2
    · have hb := (found (by omega) (by omega) g).rul.last_bd.2.2
      omega
    · rw [Z.2 (by have := Z.1; omega)]; simp
  · simp

set_option maxHeartbeats 4000000 in
set_option maxRecDepth 20000 in
theorem specFirstSparse_any (a1 : Int) (w : World) :
    Calls Try.prog 54 #[.int .i64 a1] w fun e w' => ∃ u, e = .returned (.tuple #[u, .bool (inB a1 2 6)]) ∧ Ow w' w.heap.size u (fsR a1) ∧ Below w.heap.size w w' := by
  by_cases hi : inB a1 2 6 = true
  · have hib := inB_iff.1 hi
    obtain ⟨n, rfl⟩ : ∃ n : Nat, a1 = n := ⟨a1.toNat, by omega⟩
    have CA := Lib.hid (show fsR (n : Int) = (rs false (shL n) (n - 2) [0]).1 by simp [fsR, hi])
    have HI := Lib.hid hi
    have RC := fun W => Lib.hid (ruShort_all n (by omega) (by omega) W)
    clear hi
    go_enter Try.func54, Try.ntmps54
    go_wp2_with fail
    refine (l1In_any _ _ _ _).mono ?_
    rw [HI.out]
    rintro e w1 ⟨rfl, rfl⟩
    go_wp2_with fail
    refine (RC _).out.mono ?_
    rintro e w3 ⟨u, rfl, o3, b3⟩
    clear RC
    go_wp2_with fail
    go_ret2
    exact ⟨_, ret_lb rfl HI.out.symm, by rw [CA.out]; exact o3, b3⟩
  · have hi : inB a1 2 6 = false := by simpa using hi
    have CA := Lib.hid (show fsR a1 = [] by simp [fsR, hi])
    have HI := Lib.hid hi
    clear hi
    go_enter Try.func54, Try.ntmps54
    go_wp2_with fail
    refine (l1In_any _ _ _ _).mono ?_
    rw [HI.out]
    rintro e w1 ⟨rfl, rfl⟩
    go_wp2_with fail
    go_ret2
    exact ⟨_, ret_lb rfl HI.out.symm, by rw [CA.out]; exact ow_nilR _ _, Below.refl _ _⟩

set_option maxHeartbeats 4000000 in
set_option maxRecDepth 20000 in
theorem specShortestSparse_any (a1 : Int) (w : World) :
    Calls Try.prog 52 #[.int .i64 a1] w fun e w' => e = .returned (.tuple #[.int .i64 (ssR a1), .bool (inB a1 2 6)]) ∧ Below w.heap.size w w' := by
  by_cases hi : inB a1 2 6 = true
  · have hib := inB_iff.1 hi
    obtain ⟨n, rfl⟩ : ∃ n : Nat, a1 = n := ⟨a1.toNat, by omega⟩
    have CA := Lib.hid (show ssR (n : Int) = lastM (rs false (shL n) (n - 2) [0]).1 by simp [ssR, fsR, hi])
    have HI := Lib.hid hi
    have RC := fun W => Lib.hid (ruShort_all n (by omega) (by omega) W)
    have hcnt := (sh_fnd (m := n) (by omega) (by omega)).1.cnt
    obtain ⟨L, eL⟩ : ∃ L, (rs false (shL n) (n - 2) [0]).1 = L := ⟨_, rfl⟩
    rw [eL] at RC CA hcnt
    obtain ⟨d, rfl⟩ : ∃ d, n = d + 1 := ⟨n - 1, by omega⟩
    have hd5 : d ≤ 5 := by omega
    rw [show ((d + 1 : Nat) : Int) = (d : Int) + 1 from rfl] at HI CA ⊢
    clear hi eL
    go_enter Try.func52, Try.ntmps52
    go_wp2_with fail
    refine (l1In_any _ _ _ _).mono ?_
    rw [HI.out]
    rintro e w1 ⟨rfl, rfl⟩
    go_wp2_with fail
    refine (RC _).out.mono ?_
    rintro e w3 ⟨u, rfl, o3, b3⟩
    clear RC
    obtain ⟨g, off, cp, rfl, _, _, _, hc⟩ := o3.sp_ne (fun e => by rw [e] at hcnt; simp at hcnt)
    have hcell : w3.cell? ⟨g, off + d, none⟩ = some (.int .i64 (lastM L)) := by
      rw [hc d (by omega)]; unfold lastM; rw [hcnt]; rfl
    rw [hcnt]
    obtain ⟨x, ex⟩ : ∃ x, lastM L = x := ⟨_, rfl⟩
    rw [ex] at hcell CA
    clear o3 hc ex hcnt
    have hi0 : (0 : Int) ≤ (d : Int) := by omega
    have hi1 : (d : Int) < (d : Int) + 1 := by omega
    go_wp2_with fail
    go_ret2
    exact ⟨ibu_ret CA.out.symm HI.out.symm, b3⟩
  · have hi : inB a1 2 6 = false := by simpa using hi
    have CA := Lib.hid (show ssR a1 = 0 by simp [ssR, hi])
    have HI := Lib.hid hi
    clear hi
    go_enter Try.func52, Try.ntmps52
    go_wp2_with fail
    refine (l1In_any _ _ _ _).mono ?_
    rw [HI.out]
    rintro e w1 ⟨rfl, rfl⟩
    go_wp2_with fail
    go_ret2
    exact ⟨ibu_ret CA.out.symm HI.out.symm, Below.refl _ _⟩
end Go.Proofs.Ytaihgdecoaajoaa
