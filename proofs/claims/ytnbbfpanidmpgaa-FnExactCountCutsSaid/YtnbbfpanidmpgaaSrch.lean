/-
  The program's search through all cuts, by its contract. Condition: a chain of at most 63 links.
-/
import Derived.Test.YtnbbfpanidmpgaaMove
import Derived.Test.YtnbbfpanidmpgaaAll
import Derived.Deep.LoopGhost
import Derived.ScopeJumps
namespace Go.Proofs.Ytnbbfpanidmpgaa
open Go.RowKit

/-- The numbers in a row, read off the memory. -/
def readL (w : World) (g n : Nat) : List Int := (List.range n).map fun j => intOf ((w.cell? ⟨g, j, none⟩).getD undef)
theorem readL_eq {w : World} {B g n cap : Nat} {c : List Int} (h : Ow w B (.slice (some ⟨g, 0, none⟩) n cap) c) (hn : c.length = n) : readL w g n = c := by
  apply List.ext_getElem?
  intro k
  unfold readL
  by_cases hk : k < n
  · rw [List.getElem?_map, List.getElem?_range hk]
    have := h.cellAt hn hk
    simp only [Option.map_some, this, Option.getD_some, intOf]
    rw [List.getD_eq_getElem?_getD, List.getElem?_eq_getElem (by omega)]; rfl
  · rw [List.getElem?_eq_none (by simp; omega), List.getElem?_eq_none (by omega)]
theorem ow_cap {w : World} {B g n cap : Nat} {c : List Int} (h : Ow w B (.slice (some ⟨g, 0, none⟩) n cap) c) : c.length ≤ cap := by
  rcases h.2 with ⟨h0, _⟩ | ⟨g', cap', cur, hv, _, _, hnc, _⟩
  · cases h0
  · simp only [Value.slice.injEq] at hv
    obtain ⟨_, _, rfl⟩ := hv
    exact hnc
theorem ap_row {w : World} {C g : Nat} {u : Value} {ys : List Int} (hg : g < C) (h : Ow w C u ys) : Apart u (some g) := by
  cases e : u.ownBlock with
  | none => exact .inl e
  | some k =>
    have := (World.ownsRow.lt h k e).1
    exact .inr (by rw [e]; intro h2; simp only [Option.some.injEq] at h2; omega)
theorem pays_bd {m : Int} (hm : 1 ≤ m ∧ m ≤ 63) {n : Nat} (hn : n ≤ 3) {dn : List (List Int)} {c : List Int} (h : Srch m n dn c) : pays m dn ≤ 262144 := by
  refine Nat.le_trans (pays_le h) ?_
  have h2 : m.toNat + 1 ≤ 64 := by omega
  have h3 : (m.toNat + 1) ^ n ≤ 64 ^ n := Nat.pow_le_pow_left h2 _
  have h4 : (64 : Nat) ^ n ≤ 64 ^ 3 := Nat.pow_le_pow_right (by omega) hn
  have h5 : (64 : Nat) ^ 3 = 262144 := by decide
  omega

theorem ret_vi {u v : Value} {k : IntKind} {a b : Int} (h : u = v) (g : a = b) : Ending.returned (.tuple #[u, .int k a]) = .returned (.tuple #[v, .int k b]) := by rw [h, g]
set_option maxHeartbeats 16000000 in
set_option maxRecDepth 100000 in
theorem searchCuts_any (m : Int) (n : Nat) (hm : 1 ≤ m ∧ m ≤ 63) (hn : n ≤ 3) (hnm : (n : Int) ≤ m) (w : World) :
    Calls Try.prog 74 #[.int .i64 m, .int .i64 (n : Int)] w fun e w' => ∃ u, e = .returned (.tuple #[u, .int .i64 (pays m (combF m.toNat 0 n) : Nat)]) ∧ Ow w' w.heap.size u (frst m (combF m.toNat 0 n)) ∧ Below w.heap.size w w' := by
  have ho0 := ow_empty w
  have hb0 : Below w.heap.size w (w.alloc (.cells #[] 3)) := (Below.refl _ _).alloc (Nat.le_refl _) _
  go_enter Try.func74, Try.ntmps74
  go_wp2
  go_step3
  go_wp2
  go_loopw [8, 13] (fun a i wr => ∃ (k : Nat) (av : Value), av = a ∧ k ≤ n ∧ i = .int .i64 k ∧ (k = 0 → a = .slice (some ⟨w.heap.size, 0, none⟩) 0 0) ∧ Ow wr w.heap.size a (seqC 0 k) ∧ Below w.heap.size w wr) (fun _ i _ => n - (intOf i).toNat)
  case atStart => exact ⟨0, _, rfl, Nat.zero_le _, rfl, fun _ => rfl, ho0, hb0⟩
  case round =>
    clear ho0 hb0
    obtain ⟨k, av, rfl, hk, rfl, h0, ho, hb⟩ := hrel
    have hsz := hb.size
    have hsl := seqC_len k 0
    by_cases hlt : k < n
    · have SN := Lib.hid (seqC_snoc k 0)
      clear h0
      go_wp2_with (at_builtin; refine wpList_append_src rfl _ _ rfl w.heap.size _ (seqC 0 k) rfl (ho.alloc _) _ [(k : Int)] rfl (src_one _ _) (by simp only [List.length_cons, List.length_nil]; omega) (by simp; omega) ?_; intro v3 w3 h3 g3)
      have b3 := (hb.alloc hsz _).trans ((ho.alloc _).grown (by simp; omega) g3)
      clear ho g3 hb
      go_roundw
      case rel => exact ⟨k + 1, _, rfl, by omega, by go_num, fun h => by omega, by rw [SN.out, Int.zero_add]; exact h3, b3⟩
      case measure => simp only [intOf]; omega
    · obtain rfl : n = k := by omega
      obtain ⟨g, cap, rfl, hgw, hgl⟩ : ∃ g cap, av = .slice (some ⟨g, 0, none⟩) n cap ∧ w.heap.size ≤ g ∧ g < wr.heap.size := by
        rcases ho.form with ⟨_, e⟩ | ⟨g, cap, e, h1, h2⟩
        · have hk0 : n = 0 := by rw [e] at hsl; simpa using hsl.symm
          rw [h0 hk0, hk0]
          exact ⟨w.heap.size, 0, rfl, Nat.le_refl _, by
            have hq := ho
            rw [h0 hk0] at hq
            exact (World.ownsRow.lt hq w.heap.size rfl).2⟩
        · rw [seqC_len] at e; exact ⟨g, cap, e, h1, h2⟩
      have hwl := hgl
      have hs0 := Srch.start (m := m) (n := n) hnm
      have HS0 := Lib.hid hs0
      clear h0 hs0 hsl
      go_wp2
      go_step3
      go_wp2
      go_loopg [6, 7] ((geC m (seqC 0 n)).length) (fun gg f p wr => ∃ (dn : List (List Int)) (c : List Int) (fv : Value), fv = f ∧ (geC m c).length ≤ gg ∧ p = .int .i64 (pays m dn : Nat) ∧ Srch m n dn c ∧ Ow wr w.heap.size (.slice (some ⟨g, 0, none⟩) n cap) c ∧ Ow wr w.heap.size fv (frst m dn) ∧ Apart fv (some g) ∧ Below w.heap.size w wr)
      case atStart => exact ⟨[], _, _, rfl, Nat.le_refl _, rfl, HS0.out, ho, ow_nil _ _, .inl rfl, hb⟩
      case round =>
        clear ho hb hgl hwl hsz hk hlt
        obtain ⟨dn, c, fv, rfl, hgc, rfl, hsr, ho, hof, hap, hb⟩ := hrel
        have hclen := hsr.len
        have hcok := hsr.ok (by omega) (by omega)
        have hpb := pays_bd hm hn hsr
        obtain ⟨pp, hpp⟩ : ∃ pp : Nat, pays m dn = pp := ⟨_, rfl⟩
        rw [hpp] at hpb ⊢
        have HPP := Lib.hid hpp
        have HLEN := Lib.hid hclen
        have HCOK := Lib.hid hcok
        have HSR := Lib.hid hsr
        have HGD := Lib.hid hcok.good
        have PF := Lib.hid (rawP_filter m c)
        have PL := Lib.hid (rawP_len (m := m) hcok.2.1)
        have PN := Lib.hid (show (rawP m c).filter posB ≠ [] by rw [rawP_filter]; exact hcok.parts_ne)
        have hsz := hb.size
        have hsv := ho.sv
        have HSV := Lib.hid hsv
        have hsp := ho.sp (b := g) rfl
        have HSP := Lib.hid hsp
        clear hpp hclen hcok hsr hsv hsp
        by_cases hp : payB m c = true
        · have dq : (runP (sortL (partsP m c)) == m) = true := by unfold payB pcsP at hp; simpa using hp
          have HP := Lib.hid hp
          clear hp
          by_cases hp0 : pp = 0
          · have q0 : ((pp : Int) == 0) = true := by rw [beq_iff_eq]; omega
            have PY := Lib.hid (show pays m (dn ++ [c]) = pp + 1 by rw [pays_yes HP.out, HPP.out])
            have FY := Lib.hid (frst_new HP.out (show pays m dn = 0 by rw [HPP.out]; exact hp0))
            clear hp0
            go_wp2_with fail
            refine (partsOf_any _ _ c _ (by have := HSV.out; first | exact ho.sv | exact this) HCOK.out).mono ?_
            rintro e w1 ⟨rfl, b1⟩
            go_wp2_with fail
            refine (pieces_any _ _ _ rfl PL.out PN.out).mono ?_
            rintro e w2 ⟨u2, rfl, o2, b2⟩
            rw [PF.out] at o2
            have b2 := nxt b1 b2
            clear b1
            go_wp2_with fail
            refine (runOf_any _ _ _ o2.sv HGD.out).mono ?_
            rintro e w2' ⟨rfl, rfl⟩
            clear o2
            go_wp2_with fail
            refine (clone_any _ c _ (HSP.out.below b2 (Nat.le_refl _)) (by rw [HLEN.out]; omega)).mono ?_
            rintro e w3 ⟨u3, rfl, o3, b3⟩
            have z2 := b2.size
            have hoW : Ow w3 w.heap.size (.slice (some ⟨g, 0, none⟩) n cap) c := (ho.below b2 (Nat.le_refl _)).below b3 (Nat.le_refl _)
            have hofW : Ow w3 w.heap.size u3 (frst m (dn ++ [c])) := by rw [FY.out]; exact o3.mono (by omega)
            have hgr := (World.ownsRow.lt (ho.below b2 (Nat.le_refl _)) g rfl).2
            have hapW : Apart u3 (some g) := ap_row hgr o3
            have hbW : Below w.heap.size w w3 := hb.trans ((b2.mono hsz).trans (b3.mono (by omega)))
            clear o3 b3 b2 hof hap hb ho hgr dq
            go_wp2_with fail
            clear q0
            go_loopg [10] n (fun gg a wx => ∃ k : Int, k + 1 = gg ∧ k < n ∧ a = .int .i64 k ∧ wx = w3 ∧ ∀ j : Nat, k < j → j < n → m - n + j ≤ c.getD j 0)
            case atStart => exact ⟨(n : Int) - 1, by omega, by omega, rfl, rfl, fun j h1 h2 => by omega⟩
            case round =>
              obtain ⟨k, hk1, hk2, rfl, rfl, hge⟩ := hrel
              have HGE := Lib.hid hge
              clear hge
              by_cases hk0 : 0 ≤ k
              · obtain ⟨i, rfl⟩ : ∃ i : Nat, k = i := ⟨k.toNat, by omega⟩
                have hin : i < n := by omega
                have hcell := hoW.cellAt HLEN.out hin
                have hxb := HCOK.out.2.2.1 i (by rw [HLEN.out]; exact hin)
                have hmb := hm
                obtain ⟨x, ex⟩ : ∃ x, c.getD i 0 = x := ⟨_, rfl⟩
                rw [ex] at hcell hxb
                have EX := Lib.hid ex
                clear ex
                by_cases hlt : x < m - n + i
                · have hnx := HSR.out.next hin (by rw [EX.out]; exact hlt) (fun j h1 h2 => HGE.out j (by omega) h2)
                  have HNX := Lib.hid hnx
                  have hncap := ow_cap hoW
                  rw [HLEN.out] at hncap
                  have hicap : i ≤ cap := by omega
                  have hic2 : (i : Int) ≤ (cap : Int) := by omega
                  have hic3 : (i : Int) ≤ (n : Int) := by omega
                  have hic4 : (0 : Int) ≤ (i : Int) := by omega
                  have hne : ¬ cap = i := by omega
                  have hne2 : ¬ i = cap := by omega
                  clear hnx
                  go_wp2_with fail
                  refine (moveCuts_any w.heap.size g n cap i (n - i) _ c _ hoW HLEN.out (by omega) (by omega) (by omega) (by rw [EX.out]; omega)).mono ?_
                  rintro e w6 ⟨rfl, o6, g6⟩
                  have of6 := hofW.kept g6 hapW
                  have b6 := hbW.grown g6 hbW.size (fun k e => by cases e; exact hgw)
                  have hms := geC_next_len HSR.out HNX.out
                  have HMS := Lib.hid hms
                  clear hms g6 hoW hofW hbW hcell
                  go_wp2
                  go_roundg ((geC m (c.take i ++ seqC (c.getD i 0 + 1) (n - i))).length)
                  case measure => have := HMS.out; omega
                  case rel => exact ⟨_, _, _, rfl, Nat.le_refl _, (by rw [PY.out]; go_num), HNX.out, o6, of6, hapW, b6⟩
                · go_wp2
                  go_roundg i
                  case measure => omega
                  case rel => exact ⟨(i : Int) - 1, by omega, by omega, by first | rfl | (simp; done) | (simp; omega), rfl, fun j h1 h2 => by
                    by_cases e : j = i
                    · subst e; rw [EX.out]; omega
                    · exact HGE.out j (by omega) h2⟩
              · have hend := HSR.out.end (fun j h1 => HGE.out j (by omega) h1)
                have HEND := Lib.hid hend
                have hkm : k = -1 := by omega
                subst hkm
                clear hend
                go_wp2
                first | rw [Exit.noGoto_ret] | skip
                go_ret2
                exact ⟨_, ret_vi rfl (by rw [HEND.out]; rw [PY.out]; omega), by rw [HEND.out]; exact hofW, hbW⟩
          · have q0 : ((pp : Int) == 0) = false := by rw [beq_eq_false_iff_ne]; omega
            have PY := Lib.hid (show pays m (dn ++ [c]) = pp + 1 by rw [pays_yes HP.out, HPP.out])
            have FY := Lib.hid (frst_old c (show pays m dn ≠ 0 by rw [HPP.out]; exact hp0))
            clear hp0
            go_wp2_with fail
            refine (partsOf_any _ _ c _ (by have := HSV.out; first | exact ho.sv | exact this) HCOK.out).mono ?_
            rintro e w1 ⟨rfl, b1⟩
            go_wp2_with fail
            refine (pieces_any _ _ _ rfl PL.out PN.out).mono ?_
            rintro e w2 ⟨u2, rfl, o2, b2⟩
            rw [PF.out] at o2
            have b2 := nxt b1 b2
            clear b1
            go_wp2_with fail
            refine (runOf_any _ _ _ o2.sv HGD.out).mono ?_
            rintro e w2' ⟨rfl, rfl⟩
            clear o2
            have hoW : Ow w2 w.heap.size (.slice (some ⟨g, 0, none⟩) n cap) c := ho.below b2 (Nat.le_refl _)
            have hofW : Ow w2 w.heap.size fv (frst m (dn ++ [c])) := by rw [FY.out]; exact hof.below b2 (Nat.le_refl _)
            have hapW := hap
            have hbW : Below w.heap.size w w2 := hb.trans (b2.mono hsz)
            clear b2 hof hap hb ho
            go_wp2_with fail
            clear q0 dq
            go_loopg [10] n (fun gg a wx => ∃ k : Int, k + 1 = gg ∧ k < n ∧ a = .int .i64 k ∧ wx = w2 ∧ ∀ j : Nat, k < j → j < n → m - n + j ≤ c.getD j 0)
            case atStart => exact ⟨(n : Int) - 1, by omega, by omega, rfl, rfl, fun j h1 h2 => by omega⟩
            case round =>
              obtain ⟨k, hk1, hk2, rfl, rfl, hge⟩ := hrel
              have HGE := Lib.hid hge
              clear hge
              by_cases hk0 : 0 ≤ k
              · obtain ⟨i, rfl⟩ : ∃ i : Nat, k = i := ⟨k.toNat, by omega⟩
                have hin : i < n := by omega
                have hcell := hoW.cellAt HLEN.out hin
                have hxb := HCOK.out.2.2.1 i (by rw [HLEN.out]; exact hin)
                have hmb := hm
                obtain ⟨x, ex⟩ : ∃ x, c.getD i 0 = x := ⟨_, rfl⟩
                rw [ex] at hcell hxb
                have EX := Lib.hid ex
                clear ex
                by_cases hlt : x < m - n + i
                · have hnx := HSR.out.next hin (by rw [EX.out]; exact hlt) (fun j h1 h2 => HGE.out j (by omega) h2)
                  have HNX := Lib.hid hnx
                  have hncap := ow_cap hoW
                  rw [HLEN.out] at hncap
                  have hicap : i ≤ cap := by omega
                  have hic2 : (i : Int) ≤ (cap : Int) := by omega
                  have hic3 : (i : Int) ≤ (n : Int) := by omega
                  have hic4 : (0 : Int) ≤ (i : Int) := by omega
                  have hne : ¬ cap = i := by omega
                  have hne2 : ¬ i = cap := by omega
                  clear hnx
                  go_wp2_with fail
                  refine (moveCuts_any w.heap.size g n cap i (n - i) _ c _ hoW HLEN.out (by omega) (by omega) (by omega) (by rw [EX.out]; omega)).mono ?_
                  rintro e w6 ⟨rfl, o6, g6⟩
                  have of6 := hofW.kept g6 hapW
                  have b6 := hbW.grown g6 hbW.size (fun k e => by cases e; exact hgw)
                  have hms := geC_next_len HSR.out HNX.out
                  have HMS := Lib.hid hms
                  clear hms g6 hoW hofW hbW hcell
                  go_wp2
                  go_roundg ((geC m (c.take i ++ seqC (c.getD i 0 + 1) (n - i))).length)
                  case measure => have := HMS.out; omega
                  case rel => exact ⟨_, _, _, rfl, Nat.le_refl _, (by rw [PY.out]; go_num), HNX.out, o6, of6, hapW, b6⟩
                · go_wp2
                  go_roundg i
                  case measure => omega
                  case rel => exact ⟨(i : Int) - 1, by omega, by omega, by first | rfl | (simp; done) | (simp; omega), rfl, fun j h1 h2 => by
                    by_cases e : j = i
                    · subst e; rw [EX.out]; omega
                    · exact HGE.out j (by omega) h2⟩
              · have hend := HSR.out.end (fun j h1 => HGE.out j (by omega) h1)
                have HEND := Lib.hid hend
                have hkm : k = -1 := by omega
                subst hkm
                clear hend
                go_wp2
                first | rw [Exit.noGoto_ret] | skip
                go_ret2
                exact ⟨_, ret_vi rfl (by rw [HEND.out]; rw [PY.out]; omega), by rw [HEND.out]; exact hofW, hbW⟩
        · have hp : payB m c = false := by simpa using hp
          have dq : (runP (sortL (partsP m c)) == m) = false := by unfold payB pcsP at hp; simpa using hp
          have PY := Lib.hid (show pays m (dn ++ [c]) = pp by rw [pays_no hp, HPP.out])
          have FY := Lib.hid (frst_no (dn := dn) hp)
          clear hp
          go_wp2_with fail
          refine (partsOf_any _ _ c _ (by have := HSV.out; first | exact ho.sv | exact this) HCOK.out).mono ?_
          rintro e w1 ⟨rfl, b1⟩
          go_wp2_with fail
          refine (pieces_any _ _ _ rfl PL.out PN.out).mono ?_
          rintro e w2 ⟨u2, rfl, o2, b2⟩
          rw [PF.out] at o2
          have b2 := nxt b1 b2
          clear b1
          go_wp2_with fail
          refine (runOf_any _ _ _ o2.sv HGD.out).mono ?_
          rintro e w2' ⟨rfl, rfl⟩
          clear o2
          have hoW : Ow w2 w.heap.size (.slice (some ⟨g, 0, none⟩) n cap) c := ho.below b2 (Nat.le_refl _)
          have hofW : Ow w2 w.heap.size fv (frst m (dn ++ [c])) := by rw [FY.out]; exact hof.below b2 (Nat.le_refl _)
          have hapW := hap
          have hbW : Below w.heap.size w w2 := hb.trans (b2.mono hsz)
          clear b2 hof hap hb ho
          go_wp2_with fail
          clear dq
          go_loopg [10] n (fun gg a wx => ∃ k : Int, k + 1 = gg ∧ k < n ∧ a = .int .i64 k ∧ wx = w2 ∧ ∀ j : Nat, k < j → j < n → m - n + j ≤ c.getD j 0)
          case atStart => exact ⟨(n : Int) - 1, by omega, by omega, rfl, rfl, fun j h1 h2 => by omega⟩
          case round =>
            obtain ⟨k, hk1, hk2, rfl, rfl, hge⟩ := hrel
            have HGE := Lib.hid hge
            clear hge
            by_cases hk0 : 0 ≤ k
            · obtain ⟨i, rfl⟩ : ∃ i : Nat, k = i := ⟨k.toNat, by omega⟩
              have hin : i < n := by omega
              have hcell := hoW.cellAt HLEN.out hin
              have hxb := HCOK.out.2.2.1 i (by rw [HLEN.out]; exact hin)
              have hmb := hm
              obtain ⟨x, ex⟩ : ∃ x, c.getD i 0 = x := ⟨_, rfl⟩
              rw [ex] at hcell hxb
              have EX := Lib.hid ex
              clear ex
              by_cases hlt : x < m - n + i
              · have hnx := HSR.out.next hin (by rw [EX.out]; exact hlt) (fun j h1 h2 => HGE.out j (by omega) h2)
                have HNX := Lib.hid hnx
                have hncap := ow_cap hoW
                rw [HLEN.out] at hncap
                have hicap : i ≤ cap := by omega
                have hic2 : (i : Int) ≤ (cap : Int) := by omega
                have hic3 : (i : Int) ≤ (n : Int) := by omega
                have hic4 : (0 : Int) ≤ (i : Int) := by omega
                have hne : ¬ cap = i := by omega
                have hne2 : ¬ i = cap := by omega
                clear hnx
                go_wp2_with fail
                refine (moveCuts_any w.heap.size g n cap i (n - i) _ c _ hoW HLEN.out (by omega) (by omega) (by omega) (by rw [EX.out]; omega)).mono ?_
                rintro e w6 ⟨rfl, o6, g6⟩
                have of6 := hofW.kept g6 hapW
                have b6 := hbW.grown g6 hbW.size (fun k e => by cases e; exact hgw)
                have hms := geC_next_len HSR.out HNX.out
                have HMS := Lib.hid hms
                clear hms g6 hoW hofW hbW hcell
                go_wp2
                go_roundg ((geC m (c.take i ++ seqC (c.getD i 0 + 1) (n - i))).length)
                case measure => have := HMS.out; omega
                case rel => exact ⟨_, _, _, rfl, Nat.le_refl _, (by rw [PY.out]), HNX.out, o6, of6, hapW, b6⟩
              · go_wp2
                go_roundg i
                case measure => omega
                case rel => exact ⟨(i : Int) - 1, by omega, by omega, by first | rfl | (simp; done) | (simp; omega), rfl, fun j h1 h2 => by
                  by_cases e : j = i
                  · subst e; rw [EX.out]; omega
                  · exact HGE.out j (by omega) h2⟩
            · have hend := HSR.out.end (fun j h1 => HGE.out j (by omega) h1)
              have HEND := Lib.hid hend
              have hkm : k = -1 := by omega
              subst hkm
              clear hend
              go_wp2
              first | rw [Exit.noGoto_ret] | skip
              go_ret2
              exact ⟨_, ret_vi rfl (by rw [HEND.out]; rw [PY.out]), by rw [HEND.out]; exact hofW, hbW⟩
end Go.Proofs.Ytnbbfpanidmpgaa
