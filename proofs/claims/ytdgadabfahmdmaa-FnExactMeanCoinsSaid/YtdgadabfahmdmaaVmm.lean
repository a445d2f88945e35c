/-
  MeanCoins in the model and in the program, by their contracts. Condition: slices of at most 2^40 numbers.
-/
import Derived.Test.YtdgadabfahmdmaaVfc
import Derived.Test.YtdgadabfahmdmaaVgg
namespace Go.Proofs.Ytdgadabfahmdmaa
open Go.RowKit

/-- The fewest coins of all amounts below n together. -/
def sF (cs : List Nat) : Nat → Nat
  | 0 => 0
  | n + 1 => sF cs n + fo cs n
theorem sF_bd {cs : List Nat} (hp : Pos cs) : ∀ n, (∀ a, a < n → fo cs a < big) → sF cs n ≤ n * n := by
  intro n
  induction n with
  | zero => intro _; simp [sF]
  | succ n ih =>
    intro h
    have h1 := ih fun a ha => h a (by omega)
    have h2 := fo_le hp n (h n (by omega))
    have e : (n + 1) * (n + 1) = n * n + n + (n + 1) := by rw [Nat.add_mul, Nat.one_mul, Nat.mul_add, Nat.mul_one]
    simp only [sF]
    omega
noncomputable def allP (cs : List Nat) (l : Nat) : Bool := @decide (∀ a, a < l + 1 → fo cs a < big) (Classical.propDecidable _)
theorem allP_no {cs : List Nat} {l k : Nat} (hk : k < l + 1) (h : ¬ fo cs k < big) : allP cs l = false := by
  simp only [allP, decide_eq_false_iff_not]; exact fun g => h (g k hk)
theorem allP_yes {cs : List Nat} {l : Nat} (h : ∀ a, a < l + 1 → fo cs a < big) : allP cs l = true := by
  simp only [allP, decide_eq_true_eq]; exact h
noncomputable def mcB (xs : List Int) (l : Int) : Bool := (cnsB xs && inB l 1 2000) && allP (nL xs) l.toNat
noncomputable def mcN (xs : List Int) (l : Int) : Int := if mcB xs l = true then ((sF (nL xs) (l.toNat + 1) / Nat.gcd (sF (nL xs) (l.toNat + 1)) l.toNat : Nat) : Int) else 0
noncomputable def mcD (xs : List Int) (l : Int) : Int := if mcB xs l = true then ((l.toNat / Nat.gcd (sF (nL xs) (l.toNat + 1)) l.toNat : Nat) : Int) else 0
theorem mcB_no {xs : List Int} {l : Int} (h : cnsB xs = false) : mcB xs l = false := by simp [mcB, h]
theorem mcB_out {xs : List Int} {l : Int} (h : inB l 1 2000 = false) : mcB xs l = false := by simp [mcB, h]
theorem mcN_no {xs : List Int} {l : Int} (h : mcB xs l = false) : mcN xs l = 0 := by simp [mcN, h]
theorem mcD_no {xs : List Int} {l : Int} (h : mcB xs l = false) : mcD xs l = 0 := by simp [mcD, h]
theorem mcB_of {cs : List Nat} {n : Nat} (h : cnsB (iL cs) = true) (hn : inB n 1 2000 = true) : mcB (iL cs) n = allP cs n := by simp [mcB, h, hn, nL_iL]
theorem mcN_of {cs : List Nat} {n : Nat} (h : mcB (iL cs) n = true) : mcN (iL cs) n = (sF cs (n + 1) / Nat.gcd (sF cs (n + 1)) n : Nat) := by simp [mcN, h, nL_iL]
theorem mcD_of {cs : List Nat} {n : Nat} (h : mcB (iL cs) n = true) : mcD (iL cs) n = (n / Nat.gcd (sF cs (n + 1)) n : Nat) := by simp [mcD, h, nL_iL]
theorem ret_iib {a b c d : Int} {p q : Bool} (h : a = b) (g : c = d) (k : p = q) : Ending.returned (.tuple #[.int .i64 a, .int .i64 c, .bool p]) = .returned (.tuple #[.int .i64 b, .int .i64 d, .bool q]) := by rw [h, g, k]

set_option maxHeartbeats 4000000 in
set_option maxRecDepth 20000 in
theorem specMeanCoins_any (v : Value) (xs : List Int) (a : Int) (w : World) (h : Sp w v xs) (hl : xs.length ≤ 1099511627776) :
    Calls Try.prog 50 #[v, .int .i64 a] w fun e w' => e = .returned (.tuple #[.int .i64 (mcN xs a), .int .i64 (mcD xs a), .bool (mcB xs a)]) ∧ Below w.heap.size w w' := by
  have CG := Lib.hid (cnGood_any v xs w h.sv hl)
  by_cases hc : cnsB xs = true
  · by_cases ha : inB a 1 2000 = true
    · obtain ⟨cs, rfl, hc'⟩ := cn_of hc
      have hab := inB_iff.1 ha
      obtain ⟨m, rfl⟩ : ∃ m : Nat, a = m := ⟨a.toNat, by omega⟩
      have CF := fun w' (hb : Below w.heap.size w w') => Lib.hid (cnFew_any v cs m w' ((h.below hb (Nat.le_refl _)).sv) hc'.pos hc'.eight (by omega))
      have MB := Lib.hid (mcB_of hc ha)
      have NO := Lib.hid (fun (h : mcB (iL cs) m = false) => And.intro (mcN_no h) (mcD_no h))
      have YES := Lib.hid (fun (h : mcB (iL cs) m = true) => And.intro (mcN_of h) (mcD_of h))
      have HP := Lib.hid hc'.pos
      have hfl := fewT_len cs m
      have FA := Lib.hid (fewT_at cs m)
      have SB := Lib.hid (fun n h => sF_bd hc'.pos n h)
      have hm1 : 1 ≤ m := by omega
      have hm2 : m ≤ 2000 := by omega
      rw [hc] at CG
      have LI := fun w => Lib.hid (l1In_any (m : Int) 1 2000 w)
      rw [ha] at LI
      clear h hl hc ha hc' hab
      go_enter Try.func50, Try.ntmps50
      go_wp2_with (first | (go_at_call 52; refine CG.out.mono ?_; rintro e w1 ⟨rfl, b1⟩) | (go_at_call 70; refine (LI _).out.mono ?_; rintro e w' ⟨rfl, rfl⟩))
      refine (CF w1 b1).out.mono ?_
      rintro e w2 ⟨u, rfl, ho, hoa, b2⟩
      have b2 := nxt b1 b2
      obtain ⟨p, cap, rfl, hx⟩ := ho.sv
      rw [hfl] at hx ⊢
      obtain ⟨g, o, rfl, hg, hct⟩ := hx (by omega)
      have HCT : Hid (∀ j, j < m + 1 → w2.cell? ⟨g, o + j, none⟩ = some (.int .i64 (fwI cs j))) := Lib.hid (fun j hj => by rw [hct j hj, FA.out j hj])
      clear hct hx ho hoa CF hfl
      go_wp2
      go_loop [7, 24] (fun s q => ∃ k : Nat, k ≤ m + 1 ∧ q = .int .i64 (k : Int) ∧ s = .int .i64 (sF cs k : Nat) ∧ Hid (∀ a, a < k → fo cs a < big)) (fun _ q => m + 1 - (intOf q).toNat)
      case atStart => exact ⟨0, Nat.zero_le _, rfl, rfl, Lib.hid (fun a h => by omega)⟩
      case round =>
        obtain ⟨k, hk, rfl, rfl, HF⟩ := hrel
        have sb := SB.out k HF.out
        have hkk : k * k ≤ 2001 * 2001 := Nat.mul_le_mul (by omega) (by omega)
        by_cases hlt : k < m + 1
        · have hcell := HCT.out k hlt
          have j0 : (0 : Int) ≤ k := by omega
          have j1 : (k : Int) < (m : Int) + 1 := by omega
          by_cases hf : fo cs k < big
          · rw [fwI_yes hf] at hcell
            have hfl2 := fo_le HP.out k hf
            have HF2 : Hid (∀ a, a < k + 1 → fo cs a < big) := Lib.hid (fun a h => by
              by_cases e : a = k
              · subst e; exact hf
              · exact HF.out a (by omega))
            have SS : Hid (sF cs (k + 1) = sF cs k + fo cs k) := Lib.hid rfl
            obtain ⟨s, es⟩ : ∃ s, sF cs k = s := ⟨_, rfl⟩
            obtain ⟨x, ex⟩ : ∃ x, fo cs k = x := ⟨_, rfl⟩
            rw [es] at SS sb ⊢
            rw [ex] at SS hcell hfl2
            have hd : ¬ (x : Int) < 0 := by omega
            have hw : IntKind.i64.wrap ((s : Int) + x) = (s : Int) + x := IntWalk.i64_in _ (by omega)
            clear es ex hf
            go_wp2
            go_round
            case rel => exact ⟨k + 1, by omega, by go_num, by rw [SS.out]; go_num, HF2⟩
            case measure => simp [intOf]; omega
          · rw [fwI_no hf] at hcell
            have M1 : Hid (mcB (iL cs) m = false) := Lib.hid (by rw [MB.out]; exact allP_no hlt hf)
            have N1 := Lib.hid (NO.out M1.out)
            clear hf
            go_wp2
            go_ret3
            exact ⟨ret_iib N1.out.1.symm N1.out.2.symm M1.out.symm, b2⟩
        · have hke : k = m + 1 := by omega
          subst hke
          have M1 : Hid (mcB (iL cs) m = true) := Lib.hid (by rw [MB.out]; exact allP_yes HF.out)
          have N1 := Lib.hid (YES.out M1.out)
          obtain ⟨S, es⟩ : ∃ s, sF cs (m + 1) = s := ⟨_, rfl⟩
          rw [es] at N1 sb ⊢
          have B0 : Below w.heap.size w w2 := b2
          clear es b2
          go_wp2
          go_loopw [10, 11] (fun t i wr => ∃ d n : Nat, i = .int .i64 (n : Int) ∧ t = .int .i64 (d : Int) ∧ n ≤ 1099511627776 ∧ d ≤ 1099511627776 ∧ Hid (Nat.gcd d n = Nat.gcd S m) ∧ Below w.heap.size w wr) (fun _ i _ => (intOf i).toNat)
          case atStart => exact ⟨S, m, rfl, rfl, by omega, by omega, Lib.hid rfl, B0⟩
          case round =>
            clear B0
            obtain ⟨d, n, rfl, rfl, hn, hd, HG, hbw⟩ := hrel
            by_cases h0 : n = 0
            · subst h0
              have e1 := HG.out
              rw [Nat.gcd_zero_right] at e1
              have hd1 : 1 ≤ d := by rw [e1]; exact Nat.gcd_pos_of_pos_right _ (by omega)
              have N2 := N1.out
              rw [← e1] at N2
              have N2 := Lib.hid N2
              have q1 : (S : Int).tdiv (d : Int) = ((S / d : Nat) : Int) := by rw [Int.ofNat_tdiv]
              have q2 : (m : Int).tdiv (d : Int) = ((m / d : Nat) : Int) := by rw [Int.ofNat_tdiv]
              have q3 := Nat.div_le_self S d
              have q4 := Nat.div_le_self m d
              obtain ⟨x, ex⟩ : ∃ x, S / d = x := ⟨_, rfl⟩
              obtain ⟨y, ey⟩ : ∃ x, m / d = x := ⟨_, rfl⟩
              rw [ex] at q1 q3 N2
              rw [ey] at q2 q4 N2
              have w1' : IntKind.i64.wrap (x : Int) = (x : Int) := IntWalk.i64_in _ (by omega)
              have w2' : IntKind.i64.wrap (y : Int) = (y : Int) := IntWalk.i64_in _ (by omega)
              have d2 : ¬ (d : Int) = 0 := by omega
              clear e1 ex ey
              go_wp2
              go_quiet (fail)
              go_wp2
              go_ret3
              exact ⟨ret_iib N2.out.1.symm N2.out.2.symm M1.out.symm, below_drewN hbw _⟩
            · have d1 : (0 : Int) < n := by omega
              have d2 : ¬ (n : Int) = 0 := by omega
              obtain ⟨r, er⟩ : ∃ r, d % n = r := ⟨_, rfl⟩
              have hr : r < n := by rw [← er]; exact Nat.mod_lt _ (by omega)
              have hm : (d : Int).tmod (n : Int) = (r : Int) := by rw [← er, Int.ofNat_tmod]
              have hw : IntKind.i64.wrap (r : Int) = (r : Int) := IntWalk.i64_in _ (by omega)
              have HG2 : Hid (Nat.gcd n r = Nat.gcd S m) := Lib.hid (by rw [← er, gcd_next]; exact HG.out)
              clear er
              go_wp2
              go_quiet (fail)
              go_wp2
              go_roundw
              case rel => exact ⟨n, r, rfl, rfl, by omega, hn, HG2, below_drewN hbw _⟩
              case measure => simp only [intOf]; omega
    · have ha : inB a 1 2000 = false := by simpa using ha
      have M1 := Lib.hid (mcB_out (xs := xs) ha)
      have N1 := Lib.hid (And.intro (mcN_no (mcB_out (xs := xs) ha)) (mcD_no (mcB_out (xs := xs) ha)))
      have LI := fun w => Lib.hid (l1In_any a 1 2000 w)
      rw [hc] at CG
      rw [ha] at LI
      clear h hl hc ha
      go_enter Try.func50, Try.ntmps50
      go_wp2_with (first | (go_at_call 52; refine CG.out.mono ?_; rintro e w1 ⟨rfl, b1⟩) | (go_at_call 70; refine (LI _).out.mono ?_; rintro e w' ⟨rfl, rfl⟩))
      go_ret3
      exact ⟨ret_iib N1.out.1.symm N1.out.2.symm M1.out.symm, b1⟩
  · have hc : cnsB xs = false := by simpa using hc
    have M1 := Lib.hid (mcB_no (l := a) hc)
    have N1 := Lib.hid (And.intro (mcN_no (mcB_no (l := a) hc)) (mcD_no (mcB_no (l := a) hc)))
    rw [hc] at CG
    clear h hl hc
    go_enter Try.func50, Try.ntmps50
    go_wp2_with (go_at_call 52; refine CG.out.mono ?_; rintro e w1 ⟨rfl, b1⟩)
    go_ret3
    exact ⟨ret_iib N1.out.1.symm N1.out.2.symm M1.out.symm, b1⟩

theorem Tp.alloc {w : World} {g n : Nat} {F : Nat → Pd} (h : Tp w g n F) (o : Obj) : Tp (w.alloc o) g n F := h.below ((Below.refl _ _).alloc (Nat.le_refl _) _) (Nat.le_refl _)

set_option maxHeartbeats 4000000 in
set_option maxRecDepth 20000 in
theorem implMeanCoins_any (v : Value) (xs : List Int) (a : Int) (w : World) (h : Sp w v xs) (hl : xs.length ≤ 1099511627776) :
    Calls Try.prog 51 #[v, .int .i64 a] w fun e w' => e = .returned (.tuple #[.int .i64 (mcN xs a), .int .i64 (mcD xs a), .bool (mcB xs a)]) ∧ Below w.heap.size w w' := by
  have AC := Lib.hid (areCoins_any v xs w h.sv hl)
  by_cases hc : cnsB xs = true
  · by_cases ha : inB a 1 2000 = true
    · obtain ⟨cs, rfl, hc'⟩ := cn_of hc
      have hab := inB_iff.1 ha
      obtain ⟨m, rfl⟩ : ∃ m : Nat, a = m := ⟨a.toNat, by omega⟩
      have MB := Lib.hid (mcB_of hc ha)
      have NO := Lib.hid (fun (h : mcB (iL cs) m = false) => And.intro (mcN_no h) (mcD_no h))
      have YES := Lib.hid (fun (h : mcB (iL cs) m = true) => And.intro (mcN_of h) (mcD_of h))
      have HP := Lib.hid hc'.pos
      have SB := Lib.hid (fun n h => sF_bd hc'.pos n h)
      have hm1 : 1 ≤ m := by omega
      have hm2 : m ≤ 2000 := by omega
      have i1 : ¬ (m : Int) < 1 := by omega
      have i2 : ¬ (2000 : Int) < m := by omega
      obtain ⟨b, off, cap, rfl, hx⟩ := id h
      have TP := Lib.hid (tablePaid_any (some ⟨b, off, none⟩) cap cs m w h.sv hc'.pos hc'.eight (by omega) (fun c hcc => by have := hc'.mem c hcc; omega))
      have PN := Lib.hid (fun (a : Nat) (ha : a ≤ m) => pdT_none hc'.pos 0 (a := a) (by unfold big; omega))
      have PF := Lib.hid (fun (a : Nat) (ha : a ≤ m) hf => (pdT_few hc'.pos 0 (a := a) (by unfold big; omega) hf).1)
      have PZ := Lib.hid (fun (a : Nat) => (pdT_ok cs 0 8 hc'.pos (by have := hc'.eight; omega) a).z)
      have FB := Lib.hid (fun a => fo_big hc'.pos a)
      rw [hc] at AC
      clear h hl hc ha hc' hab hx
      go_enter Try.func51, Try.ntmps51
      go_wp2_with fail
      refine AC.out.mono ?_
      rintro e w' ⟨rfl, rfl⟩
      go_wp2_with fail
      refine TP.out.mono ?_
      rintro e w1 ⟨rfl, ht, b1⟩
      clear TP
      go_wp2
      go_loopw [7, 26] (fun s q wr => ∃ k : Nat, k ≤ m + 1 ∧ q = .int .i64 (k : Int) ∧ s = .int .i64 (sF cs k : Nat) ∧ Hid (∀ a, a < k → fo cs a < big) ∧ Tp wr (w.heap.size + 1) (m + 1) (pdT 0 cs) ∧ Below w.heap.size w wr) (fun _ q _ => m + 1 - (intOf q).toNat)
      case atStart => exact ⟨0, Nat.zero_le _, rfl, rfl, Lib.hid (fun a h => by omega), ht, b1⟩
      case round =>
        clear ht b1
        obtain ⟨k, hk, rfl, rfl, HF, ht, hb⟩ := hrel
        have hz := hb.size
        have sb := SB.out k HF.out
        have hkk : k * k ≤ 2001 * 2001 := Nat.mul_le_mul (by omega) (by omega)
        by_cases hlt : k < m + 1
        · obtain ⟨P, eP⟩ : ∃ P, pdT 0 cs k = P := ⟨_, rfl⟩
          obtain ⟨c1, c2, c3⟩ := tp_load ht (j := k) hlt eP
          have pn := PN.out k (by omega)
          have pf := PF.out k (by omega)
          have pz := PZ.out k
          have fb := FB.out k
          rw [eP] at pn pf pz
          have j0 : (0 : Int) ≤ k := by omega
          have j1 : (k : Int) < (m : Int) + 1 := by omega
          clear eP
          by_cases hw : P.w = 0
          · have := pz hw
            subst this
            have hf : ¬ fo cs k < big := by have := pn.1 hw; omega
            have M1 : Hid (mcB (iL cs) m = false) := Lib.hid (by rw [MB.out]; exact allP_no hlt hf)
            have N1 := Lib.hid (NO.out M1.out)
            simp only [Pd.z] at c1 c2 c3
            clear pn pf pz fb hw hf ht
            go_wp2
            go_ret3
            exact ⟨ret_iib N1.out.1.symm N1.out.2.symm M1.out.symm, hb.alloc hz _⟩
          · have hf : fo cs k < big := by
              apply Classical.byContradiction
              intro gg
              exact hw (pn.2 (by omega))
            have e1 := pf hf
            have hfl2 := fo_le HP.out k hf
            have HF2 : Hid (∀ a, a < k + 1 → fo cs a < big) := Lib.hid (fun a h => by
              by_cases e : a = k
              · subst e; exact hf
              · exact HF.out a (by omega))
            have SS : Hid (sF cs (k + 1) = sF cs k + fo cs k) := Lib.hid rfl
            rw [← e1] at SS hfl2
            obtain ⟨x, ex⟩ : ∃ x, P.w = x := ⟨_, rfl⟩
            obtain ⟨y, ey⟩ : ∃ x, P.f = x := ⟨_, rfl⟩
            obtain ⟨z, ez⟩ : ∃ x, P.k = x := ⟨_, rfl⟩
            rw [ex] at c1 hw
            rw [ey] at c2 SS hfl2
            rw [ez] at c3
            obtain ⟨s, es⟩ : ∃ s, sF cs k = s := ⟨_, rfl⟩
            rw [es] at SS sb ⊢
            have d : ((x : Int) == 0) = false := by rw [beq_eq_false_iff_ne]; omega
            have hww : IntKind.i64.wrap ((s : Int) + y) = (s : Int) + y := IntWalk.i64_in _ (by omega)
            have ht2 := ht.alloc (.cells #[.int .i64 (x : Int), .int .i64 (y : Int), .int .i64 (z : Int)] 51)
            clear pn pf pz fb ex ey ez ht e1 hf es
            go_wp2
            go_roundw
            case rel => exact ⟨k + 1, by omega, by go_num, by rw [SS.out]; go_num, HF2, ht2, hb.alloc hz _⟩
            case measure => simp only [intOf]; omega
        · have hke : k = m + 1 := by omega
          subst hke
          have M1 : Hid (mcB (iL cs) m = true) := Lib.hid (by rw [MB.out]; exact allP_yes HF.out)
          have N1 := YES.out M1.out
          obtain ⟨S, es⟩ : ∃ s, sF cs (m + 1) = s := ⟨_, rfl⟩
          rw [es] at N1 sb ⊢
          have hS : S ≤ 1099511627776 := by omega
          have hA := heap_alloc_new wr (.cells #[.int .i64 (S : Int), .int .i64 (m : Int)] 3)
          have SV : Sv (wr.alloc (.cells #[.int .i64 (S : Int), .int .i64 (m : Int)] 3)) (.slice (some ⟨wr.heap.size, 0, none⟩) 2 2) (iL [S, m]) := ⟨_, 2, rfl, fun _ => ⟨_, 0, rfl, by simp, fun j hj => by
            have : j = 0 ∨ j = 1 := by simp [iL] at hj; omega
            rcases this with rfl | rfl <;> (simp only [World.cell?, hA]; rfl)⟩⟩
          have CD := Lib.hid (commonDivisor_any _ [S, m] _ SV (by simp) (fun n hn => by simp at hn; omega))
          have eg : gl [S, m] 0 = Nat.gcd S m := by simp [gl]
          rw [eg] at CD
          have hd1 : 1 ≤ Nat.gcd S m := Nat.gcd_pos_of_pos_right _ (by omega)
          have hd2 : Nat.gcd S m ≤ m := Nat.gcd_le_right _ (by omega)
          obtain ⟨d, ed⟩ : ∃ d, Nat.gcd S m = d := ⟨_, rfl⟩
          rw [ed] at CD N1 hd1 hd2
          have q1 : (S : Int).tdiv (d : Int) = ((S / d : Nat) : Int) := by rw [Int.ofNat_tdiv]
          have q2 : (m : Int).tdiv (d : Int) = ((m / d : Nat) : Int) := by rw [Int.ofNat_tdiv]
          have q3 := Nat.div_le_self S d
          have q4 := Nat.div_le_self m d
          obtain ⟨x, ex⟩ : ∃ x, S / d = x := ⟨_, rfl⟩
          obtain ⟨y, ey⟩ : ∃ x, m / d = x := ⟨_, rfl⟩
          rw [ex] at q1 q3 N1
          rw [ey] at q2 q4 N1
          have N2 := Lib.hid N1
          have w1' : IntKind.i64.wrap (x : Int) = (x : Int) := IntWalk.i64_in _ (by omega)
          have w2' : IntKind.i64.wrap (y : Int) = (y : Int) := IntWalk.i64_in _ (by omega)
          have d2 : ¬ (d : Int) = 0 := by omega
          have hbA := hb.alloc hz (.cells #[.int .i64 (S : Int), .int .i64 (m : Int)] 3)
          clear N1 ex ey es ed eg SV hA ht hb
          go_wp2_with fail
          refine CD.out.mono ?_
          rintro e w3 ⟨rfl, b3⟩
          have b4 := nxt hbA b3
          clear CD b3 hbA
          go_wp2
          go_quiet (fail)
          go_wp2
          go_ret3
          exact ⟨ret_iib N2.out.1.symm N2.out.2.symm M1.out.symm, below_drewN b4 _⟩
    · have ha : inB a 1 2000 = false := by simpa using ha
      have M1 := Lib.hid (mcB_out (xs := xs) ha)
      have N1 := Lib.hid (And.intro (mcN_no (mcB_out (xs := xs) ha)) (mcD_no (mcB_out (xs := xs) ha)))
      rw [hc] at AC
      by_cases h0 : a < 1
      · clear h hl hc ha
        go_enter Try.func51, Try.ntmps51
        go_wp2_with fail
        refine AC.out.mono ?_
        rintro e w' ⟨rfl, rfl⟩
        go_wp2_with fail
        go_ret3
        exact ⟨ret_iib N1.out.1.symm N1.out.2.symm M1.out.symm, Below.refl _ _⟩
      · have h2 : (2000 : Int) < a := by simp [inB] at ha; omega
        clear h hl hc ha
        go_enter Try.func51, Try.ntmps51
        go_wp2_with fail
        refine AC.out.mono ?_
        rintro e w' ⟨rfl, rfl⟩
        go_wp2_with fail
        go_ret3
        exact ⟨ret_iib N1.out.1.symm N1.out.2.symm M1.out.symm, Below.refl _ _⟩
  · have hc : cnsB xs = false := by simpa using hc
    have M1 := Lib.hid (mcB_no (l := a) hc)
    have N1 := Lib.hid (And.intro (mcN_no (mcB_no (l := a) hc)) (mcD_no (mcB_no (l := a) hc)))
    rw [hc] at AC
    clear h hl hc
    go_enter Try.func51, Try.ntmps51
    go_wp2_with fail
    refine AC.out.mono ?_
    rintro e w' ⟨rfl, rfl⟩
    go_wp2_with fail
    go_ret3
    exact ⟨ret_iib N1.out.1.symm N1.out.2.symm M1.out.symm, Below.refl _ _⟩
end Go.Proofs.Ytdgadabfahmdmaa
