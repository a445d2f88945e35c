/-
  GreatestUnpaid and CountUnpaid in the program, by their contracts. Condition: slices of at most 2^40 numbers.
-/
import Derived.Test.YtdgadabfahmdmaaVup
namespace Go.Proofs.Ytdgadabfahmdmaa
open Go.RowKit

theorem Ob.cells {w : World} {B g n cap : Nat} {ys : List Bool} (h : Ob w B (.slice (some ⟨g, 0, none⟩) n cap) ys) : ys.length = n ∧ ∀ j, j < n → w.cell? ⟨g, j, none⟩ = (ys[j]?).map Value.bool := by
  rcases h.form with ⟨e, _⟩ | ⟨g2, cap2, e, _, _, hc⟩
  · cases e
  · simp only [Value.slice.injEq, Option.some.injEq, Addr.mk.injEq, and_true] at e
    obtain ⟨rfl, rfl, rfl⟩ := e
    exact ⟨rfl, hc⟩
theorem ret_ii {a b c d : Int} (h : a = b) (g : c = d) : Ending.returned (.tuple #[.int .i64 a, .int .i64 c]) = .returned (.tuple #[.int .i64 b, .int .i64 d]) := by rw [h, g]

set_option maxHeartbeats 8000000 in
set_option maxRecDepth 20000 in
theorem unpaidBy_any (v : Value) (cs : List Nat) (w : World) (h : Sp w v (iL cs)) (hc : Cn cs) (hg : gl cs 0 = 1) :
    Calls Try.prog 79 #[v] w fun e w' => e = .returned (.tuple #[.int .i64 (lastU (unT cs (farU cs + 1))), .int .i64 ((unT cs (farU cs + 1)).length : Nat)]) ∧ Below w.heap.size w w' := by
  have hfu := farU_bd hc
  have hlen := iL_len cs
  have h1 := hc.one
  have h8 := hc.eight
  have h0b := hc.bd 0 (by omega)
  have HP := Lib.hid hc.pos
  have UI := Lib.hid (un_inv cs)
  have US := Lib.hid (fun A hA hb => un_same hc hg (A := A) hA hb)
  have UF := Lib.hid (fun A hb => un_far hc hg A hb)
  have FB := Lib.hid (fun a => fo_big hc.pos a)
  have hcm := Lib.hid hc.mem
  obtain ⟨b, off, cap, rfl, _, _, hbl, hcl⟩ := h
  rw [hlen] at hcl ⊢
  have HX : Hid (∀ j, j < cs.length → w.cell? ⟨b, off + j, none⟩ = some (.int .i64 ((cs.getD j 0 : Nat) : Int))) := Lib.hid (fun j hj => by rw [← iL_at]; exact hcl j hj)
  have c0 := HX.out 0 (by omega)
  rw [Nat.add_zero] at c0
  obtain ⟨z, ez⟩ : ∃ z, cs.getD 0 0 = z := ⟨_, rfl⟩
  rw [ez] at c0 US h0b
  obtain ⟨n, en⟩ : ∃ n, cs.length = n := ⟨_, rfl⟩
  rw [en] at HX h1 h8 ⊢
  have EN := Lib.hid en
  have j1 : (0 : Int) < n := by omega
  have B1 : Below w.heap.size w (w.alloc (.cells #[] 4)) := (Below.refl _ w).alloc (Nat.le_refl _) _
  have O1 := ob_empty w
  obtain ⟨M, eM⟩ : ∃ M, farU cs + z = M := ⟨_, rfl⟩
  have hM : M ≤ 1001000 := by omega
  clear hcl hc hlen ez en
  go_enter Try.func79, Try.ntmps79
  go_wp2
  go_loopw [2, 3, 4, 5] (fun gr ct ip am wr => ∃ A g cap2 : Nat, am = .int .i64 (A : Int) ∧ gr = .int .i64 (lastU (unT cs A)) ∧ ct = .int .i64 ((unT cs A).length : Nat) ∧ ip = .slice (some ⟨g, 0, none⟩) A cap2 ∧ A ≤ M ∧ Ob wr w.heap.size (.slice (some ⟨g, 0, none⟩) A cap2) (pdL cs A) ∧ Below w.heap.size w wr) (fun _ _ _ am _ => M + 1 - (intOf am).toNat)
  case atStart => exact ⟨0, w.heap.size, 0, rfl, rfl, rfl, rfl, Nat.zero_le _, O1, B1⟩
  case round =>
    clear B1 O1
    obtain ⟨A, g, cap2, rfl, rfl, rfl, rfl, hA, hO, hb⟩ := hrel
    have hz := hb.size
    obtain ⟨u1, u2, _, _⟩ := UI.out A
    have u3 := UF.out A (by omega)
    have hcz := (hb.cell (p := ⟨b, off, none⟩) hbl).trans c0
    have hul := unT_len cs A
    have NXU := Lib.hid (unT_succ cs A)
    obtain ⟨L, eL⟩ : ∃ L, unT cs A = L := ⟨_, rfl⟩
    have UE := Lib.hid (US.out A)
    rw [eL] at u1 u2 u3 hul NXU UE ⊢
    obtain ⟨G, eG⟩ : ∃ G, lastU L = G := ⟨_, rfl⟩
    rw [eG] at u1 u2 u3 UE ⊢
    have EG := Lib.hid eG
    obtain ⟨q, eq⟩ : ∃ q, L.length = q := ⟨_, rfl⟩
    rw [eq] at hul ⊢
    have EQ := Lib.hid eq
    have hw1 : IntKind.i64.wrap (G + (z : Int)) = G + z := IntWalk.i64_in _ (by omega)
    by_cases hle : (A : Int) ≤ G + z
    · obtain ⟨hl2, hcells⟩ := hO.cells
      have HCE := Lib.hid hcells
      have hall := Lib.hid (isb_all HP.out (A := A) (by unfold big; omega))
      have IZ := Lib.hid (isb_zero cs A)
      clear eL eG eq hcells
      go_wp2
      go_loop [6, 23] (fun is i => ∃ k : Nat, k ≤ n ∧ i = .int .i64 (k : Int) ∧ is = .bool (isb cs A k)) (fun _ i => n - (intOf i).toNat)
      case atStart => exact ⟨0, Nat.zero_le _, rfl, by rw [IZ.out]; congr 1; rw [Bool.eq_iff_iff]; simp⟩
      case round =>
        obtain ⟨k, hk, rfl, rfl⟩ := hrel
        by_cases hlt : k < n
        · have hcell := (hb.cell (p := ⟨b, off + k, none⟩) hbl).trans (HX.out k hlt)
          have hm := hcm.out _ (at_mem (cs := cs) (j := k) (by rw [EN.out]; exact hlt))
          have IS := isb_succ cs A k
          obtain ⟨c, ec⟩ : ∃ c, cs.getD k 0 = c := ⟨_, rfl⟩
          rw [ec] at hcell hm IS
          have i0 : (0 : Int) ≤ k := by omega
          have i1 : (k : Int) < n := by omega
          cases hI : isb cs A k with
          | true =>
            rw [hI, Bool.true_or] at IS
            have IS := Lib.hid IS
            clear hI ec
            go_wp2
            go_round
            case rel => exact ⟨k + 1, by omega, by go_num, by rw [IS.out]⟩
            case measure => simp [intOf]; omega
          | false =>
            rw [hI, Bool.false_or] at IS
            by_cases hcA : c ≤ A
            · have hpc := HCE.out (A - c) (by omega)
              rw [pdL_at cs A (A - c) (by omega)] at hpc
              have hpc : wr.cell? ⟨g, A - c, none⟩ = some (.bool (decide (fo cs (A - c) < big))) := hpc
              rw [decide_eq_true hcA, Bool.true_and] at IS
              obtain ⟨t, et⟩ : ∃ t, decide (fo cs (A - c) < big) = t := ⟨_, rfl⟩
              have ET := Lib.hid et
              rw [et] at hpc
              have IS := Lib.hid IS
              have hd : decide ((c : Int) ≤ (A : Int)) = true := by simp only [decide_eq_true_eq]; omega
              have k0 : (0 : Int) ≤ (A : Int) - c := by omega
              have k1 : (A : Int) - c < A := by omega
              have k2 : ((A : Int) - c).toNat = A - c := by omega
              have hw2 : IntKind.i64.wrap ((A : Int) - c) = (A : Int) - c := IntWalk.i64_in _ (by omega)
              clear hI ec et
              go_wp2
              go_round
              case rel => exact ⟨k + 1, by omega, by go_num, by rw [IS.out, ET.out]⟩
              case measure => simp [intOf]; omega
            · rw [decide_eq_false hcA, Bool.false_and] at IS
              have IS := Lib.hid IS
              have hd : decide ((c : Int) ≤ (A : Int)) = false := by simp only [decide_eq_false_iff_not]; omega
              clear hI ec
              go_wp2
              go_round
              case rel => exact ⟨k + 1, by omega, by go_num, by rw [IS.out]⟩
              case measure => simp [intOf]; omega
        · have hke : k = cs.length := by have := EN.out; omega
          subst hke
          rw [hall.out]
          have fb := FB.out A
          have PS := Lib.hid (pdL_succ cs A)
          have hpl := pdL_len cs (A + 1)
          by_cases hf : fo cs A < big
          · rw [if_neg (by omega), List.append_nil] at NXU
            rw [decide_eq_true hf] at PS ⊢
            obtain ⟨P, eP⟩ : ∃ P, pdL cs A = P := ⟨_, rfl⟩
            rw [eP] at hO PS
            have hPl : P.length = A := by rw [← eP]; exact pdL_len cs A
            clear hf fb eP
            go_wp2_with (at_builtin; refine wpList_append_bool rfl _ _ rfl w.heap.size _ P rfl (hO.alloc _) _ true rfl (by simp only [World.cell?, heap_alloc_new]; rfl) (by omega) (by simp; omega) ?_; intro v7 w7 h7 g7)
            have b7 := (hb.alloc hz (.cells #[.bool true] 4)).trans ((hO.alloc (.cells #[.bool true] 4)).grown (by simp; omega) g7)
            rw [← PS.out] at h7
            rcases h7.form with ⟨_, e3⟩ | ⟨g8, c8, rfl, _, _, _⟩
            · rw [e3] at hpl; simp at hpl
            rw [hpl] at h7 ⊢
            clear hO hb g7 PS hpl
            go_wp2
            go_roundw
            case rel => exact ⟨A + 1, by omega, by rw [NXU.out, EG.out], by rw [NXU.out, EQ.out], g8, c8, ⟨rfl, rfl, rfl⟩, by omega, h7⟩
            case measure => simp only [intOf]; omega
          · rw [if_pos (by omega)] at NXU
            rw [decide_eq_false hf] at PS ⊢
            obtain ⟨P, eP⟩ : ∃ P, pdL cs A = P := ⟨_, rfl⟩
            rw [eP] at hO PS
            have hPl : P.length = A := by rw [← eP]; exact pdL_len cs A
            clear hf fb eP
            go_wp2_with (at_builtin; refine wpList_append_bool rfl _ _ rfl w.heap.size _ P rfl (hO.alloc _) _ false rfl (by simp only [World.cell?, heap_alloc_new]; rfl) (by omega) (by simp; omega) ?_; intro v7 w7 h7 g7)
            have b7 := (hb.alloc hz (.cells #[.bool false] 4)).trans ((hO.alloc (.cells #[.bool false] 4)).grown (by simp; omega) g7)
            rw [← PS.out] at h7
            rcases h7.form with ⟨_, e3⟩ | ⟨g8, c8, rfl, _, _, _⟩
            · rw [e3] at hpl; simp at hpl
            rw [hpl] at h7 ⊢
            clear hO hb g7 PS hpl
            go_wp2
            go_roundw
            case rel => exact ⟨A + 1, by omega, by rw [NXU.out, lastU_snoc], by rw [NXU.out, List.length_append, EQ.out]; simp, g8, c8, ⟨rfl, rfl, rfl⟩, by omega, h7⟩
            case measure => simp only [intOf]; omega
    · have UE2 := Lib.hid (UE.out (by omega) (by omega))
      clear eL eG eq hO
      go_wp2
      go_ret2
      exact ⟨ret_ii (by rw [← UE2.out, EG.out]) (by rw [← UE2.out, EQ.out]), hb⟩

set_option maxHeartbeats 2000000 in
theorem implGreatestUnpaid_any (v : Value) (xs : List Int) (w : World) (h : Sp w v xs) (hl : xs.length ≤ 1099511627776) :
    Calls Try.prog 45 #[v] w fun e w' => e = .returned (.tuple #[.int .i64 (upR xs), .bool (upB xs)]) ∧ Below w.heap.size w w' := by
  have AC := Lib.hid (areCoins_any v xs w h.sv hl)
  by_cases hc : cnsB xs = true
  · obtain ⟨cs, rfl, hc'⟩ := cn_of hc
    have CC := Lib.hid (commonDivisor_any v cs w h.sv (by have := hc'.eight; omega) (fun n hn => by have := hc'.mem n hn; omega))
    have HB := Lib.hid (upB_of hc')
    rw [hc] at AC
    by_cases hg : gl cs 0 = 1
    · have HB1 : Hid (upB (iL cs) = true) := Lib.hid (by rw [HB.out]; simpa using hg)
      have HR := Lib.hid (upR_of HB1.out)
      have CU := fun w' (hb : Below w.heap.size w w') => Lib.hid (unpaidBy_any v cs w' (h.below hb (Nat.le_refl _)) hc' hg)
      rw [hg] at CC
      clear h hl hc hc' hg
      go_enter Try.func45, Try.ntmps45
      go_wp2_with fail
      refine AC.out.mono ?_
      rintro e w' ⟨rfl, rfl⟩
      go_wp2_with fail
      refine CC.out.mono ?_
      rintro e w2 ⟨rfl, b2⟩
      go_wp2_with fail
      refine (CU w2 b2).out.mono ?_
      rintro e w3 ⟨rfl, b3⟩
      go_wp2_with fail
      go_ret2
      exact ⟨ret_ib HR.out.symm HB1.out.symm, nxt b2 b3⟩
    · have HB1 : Hid (upB (iL cs) = false) := Lib.hid (by rw [HB.out]; simpa using hg)
      have HR := Lib.hid (upR_no HB1.out)
      obtain ⟨d, ed⟩ : ∃ d, gl cs 0 = d := ⟨_, rfl⟩
      rw [ed] at CC hg
      have dd : ((d : Int) != 1) = true := by rw [bne_iff_ne]; omega
      clear h hl hc hc' hg ed
      go_enter Try.func45, Try.ntmps45
      go_wp2_with fail
      refine AC.out.mono ?_
      rintro e w' ⟨rfl, rfl⟩
      go_wp2_with fail
      refine CC.out.mono ?_
      rintro e w2 ⟨rfl, b2⟩
      go_wp2_with fail
      go_ret2
      exact ⟨ret_ib HR.out.symm HB1.out.symm, b2⟩
  · have hc : cnsB xs = false := by simpa using hc
    have HB := Lib.hid (upB_no hc)
    have HR := Lib.hid (upR_no (upB_no hc))
    rw [hc] at AC
    clear h hl hc
    go_enter Try.func45, Try.ntmps45
    go_wp2_with fail
    refine AC.out.mono ?_
    rintro e w' ⟨rfl, rfl⟩
    go_wp2_with fail
    go_ret2
    exact ⟨ret_ib HR.out.symm HB.out.symm, Below.refl _ _⟩

set_option maxHeartbeats 2000000 in
theorem implCountUnpaid_any (v : Value) (xs : List Int) (w : World) (h : Sp w v xs) (hl : xs.length ≤ 1099511627776) :
    Calls Try.prog 47 #[v] w fun e w' => e = .returned (.tuple #[.int .i64 (ucR xs), .bool (upB xs)]) ∧ Below w.heap.size w w' := by
  have AC := Lib.hid (areCoins_any v xs w h.sv hl)
  by_cases hc : cnsB xs = true
  · obtain ⟨cs, rfl, hc'⟩ := cn_of hc
    have CC := Lib.hid (commonDivisor_any v cs w h.sv (by have := hc'.eight; omega) (fun n hn => by have := hc'.mem n hn; omega))
    have HB := Lib.hid (upB_of hc')
    rw [hc] at AC
    by_cases hg : gl cs 0 = 1
    · have HB1 : Hid (upB (iL cs) = true) := Lib.hid (by rw [HB.out]; simpa using hg)
      have HR := Lib.hid (ucR_of HB1.out)
      have CU := fun w' (hb : Below w.heap.size w w') => Lib.hid (unpaidBy_any v cs w' (h.below hb (Nat.le_refl _)) hc' hg)
      rw [hg] at CC
      clear h hl hc hc' hg
      go_enter Try.func47, Try.ntmps47
      go_wp2_with fail
      refine AC.out.mono ?_
      rintro e w' ⟨rfl, rfl⟩
      go_wp2_with fail
      refine CC.out.mono ?_
      rintro e w2 ⟨rfl, b2⟩
      go_wp2_with fail
      refine (CU w2 b2).out.mono ?_
      rintro e w3 ⟨rfl, b3⟩
      go_wp2_with fail
      go_ret2
      exact ⟨ret_ib HR.out.symm HB1.out.symm, nxt b2 b3⟩
    · have HB1 : Hid (upB (iL cs) = false) := Lib.hid (by rw [HB.out]; simpa using hg)
      have HR := Lib.hid (ucR_no HB1.out)
      obtain ⟨d, ed⟩ : ∃ d, gl cs 0 = d := ⟨_, rfl⟩
      rw [ed] at CC hg
      have dd : ((d : Int) != 1) = true := by rw [bne_iff_ne]; omega
      clear h hl hc hc' hg ed
      go_enter Try.func47, Try.ntmps47
      go_wp2_with fail
      refine AC.out.mono ?_
      rintro e w' ⟨rfl, rfl⟩
      go_wp2_with fail
      refine CC.out.mono ?_
      rintro e w2 ⟨rfl, b2⟩
      go_wp2_with fail
      go_ret2
      exact ⟨ret_ib HR.out.symm HB1.out.symm, b2⟩
  · have hc : cnsB xs = false := by simpa using hc
    have HB := Lib.hid (upB_no hc)
    have HR := Lib.hid (ucR_no (upB_no hc))
    rw [hc] at AC
    clear h hl hc
    go_enter Try.func47, Try.ntmps47
    go_wp2_with fail
    refine AC.out.mono ?_
    rintro e w' ⟨rfl, rfl⟩
    go_wp2_with fail
    go_ret2
    exact ⟨ret_ib HR.out.symm HB.out.symm, Below.refl _ _⟩
end Go.Proofs.Ytdgadabfahmdmaa
