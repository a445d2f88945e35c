/-
  SurePieces in the model and in the program, by their contracts. Condition: at most 2^40 clues.
-/
import Derived.Test.YtphjiicdodkfbaaYsl
import Derived.Test.YtphjiicdodkfbaaYmx
import Derived.Test.YtphjiicdodkfbaaLpz
import Derived.Test.YtphjiicdodkfbaaVmu
namespace Go.Proofs.Ytphjiicdodkfbaa
open Go.RowKit

def lsT (T : List (List Int)) (n : Int) (k : Nat) : Int := (T.take k).foldl (fun m xs => min m (cntL xs n)) 4
theorem lsT_zero (T : List (List Int)) (n : Int) : lsT T n 0 = 4 := by simp [lsT]
theorem lsT_step {T : List (List Int)} {k : Nat} (h : k < T.length) (n : Int) : lsT T n (k + 1) = min (lsT T n k) (cntL (T.getD k []) n) := by
  unfold lsT
  rw [List.take_add_one, List.getElem?_eq_getElem h, List.foldl_append, List.getD_eq_getElem?_getD, List.getElem?_eq_getElem h]
  rfl
theorem lsT_bd (T : List (List Int)) (n : Int) : ∀ k, 0 ≤ lsT T n k ∧ lsT T n k ≤ 4
  | 0 => by rw [lsT_zero]; omega
  | k + 1 => by
    have ih := lsT_bd T n k
    by_cases h : k < T.length
    · rw [lsT_step h]
      have := (cntL_bd (T.getD k []) n).1
      omega
    · have e : lsT T n (k + 1) = lsT T n k := by unfold lsT; rw [List.take_of_length_le (by omega), List.take_of_length_le (by omega)]
      rw [e]; exact ih
def lsN (T : List (List Int)) (n : Int) : Nat := (lsT T n T.length).toNat
theorem lsN_le (T : List (List Int)) (n : Int) : lsN T n ≤ 4 := by have := lsT_bd T n T.length; unfold lsN; omega
theorem lsN_eq (T : List (List Int)) (n : Int) : lsT T n T.length = (lsN T n : Int) := by have := lsT_bd T n T.length; unfold lsN; omega
def spT (T : List (List Int)) (k : Nat) : List Int := (List.range k).flatMap (fun (j : Nat) => List.replicate (lsN T ((j : Int) + 1)) ((j : Int) + 1))
theorem spT_step (T : List (List Int)) (k : Nat) : spT T k ++ List.replicate (lsN T ((k : Int) + 1)) ((k : Int) + 1) = spT T (k + 1) := by
  unfold spT; rw [List.range_succ, List.flatMap_append]; simp
theorem spT_len (T : List (List Int)) : ∀ k, (spT T k).length ≤ 4 * k
  | 0 => by simp [spT]
  | k + 1 => by
    rw [← spT_step, List.length_append, List.length_replicate]
    have := spT_len T k
    have := lsN_le T ((k : Int) + 1)
    omega
theorem rep_snoc (L : List Int) (n : Int) (q : Nat) : (L ++ List.replicate q n) ++ [n] = L ++ List.replicate (q + 1) n := by
  rw [List.append_assoc, List.replicate_succ']
noncomputable def spR (cs : List Cl) : List Int := if fsB cs = true then spT (slR cs) 6 else []
theorem sp_bd (cs : List Cl) : (spR cs).length ≤ 1099511627776 := by
  unfold spR
  split
  · have := spT_len (slR cs) 6; omega
  · simp
theorem slR_row {cs : List Cl} {j : Nat} (h : j < (slR cs).length) : Good ((slR cs).getD j []) := by
  unfold slR at h ⊢
  split at h
  · next e => rw [if_pos e]; exact (solL_row h).good
  · simp at h

set_option maxHeartbeats 4000000 in
theorem specSurePieces_any (v : Value) (cs : List Cl) (w : World) (h : Cv w v cs) (hl : cs.length ≤ 1099511627776) :
    Calls Try.prog 45 #[.agg #[v]] w fun e w' => ∃ u, e = .returned (.tuple #[u, .bool (fsB cs)]) ∧ Ow w' w.heap.size u (spR cs) ∧ Below w.heap.size w w' := by
  obtain ⟨p, cap, rfl⟩ := h.shape
  obtain ⟨W, eW⟩ : ∃ W, w.alloc (.cells #[.slice p cs.length cap] 39) = W := ⟨_, rfl⟩
  have b1 : Below w.heap.size w W := by rw [← eW]; exact (Below.refl _ _).alloc (Nat.le_refl _) _
  have A : Bx W w.heap.size (.slice p cs.length cap) := by rw [← eW]; exact bx_new _ _ _
  have PG := Lib.hid (pzGood_any _ cs W (h.below b1 (Nat.le_refl _)) hl)
  have HH := Lib.hid h
  have HL := Lib.hid hl
  clear h hl
  cases hB : pzB cs
  · rw [hB] at PG
    have E0 : fsB cs = false := by unfold fsB; rw [slR_no hB]; rfl
    have E1 : spR cs = [] := by unfold spR; rw [E0]; rfl
    rw [E0, E1]
    have cA := A.cell
    go_enter Try.func45, Try.ntmps45
    go_wp2_with fail
    clear eW cA
    refine PG.out.mono ?_
    rintro e w1 ⟨rfl, b⟩
    have t := nxt b1 b
    clear b PG
    go_wp2_with fail
    go_ret2
    exact ⟨_, rfl, World.ownsRow_nil _ _ _ _, t⟩
  · rw [hB] at PG
    have HC : Hid (∀ c ∈ cs, clB c = true) := Lib.hid (pzB_iff.1 hB).2
    have H6 : Hid (cs.length ≤ 6) := Lib.hid (pzB_iff.1 hB).1
    have CA := Lib.hid (fun W (hs : Cv W (.slice p cs.length cap) cs) => pzAll_any _ cs W hs HC.out HL.out)
    have EB : Hid (fsB cs = decide (0 < (solL cs).length)) := Lib.hid (by unfold fsB; rw [slR_yes hB])
    have ET : Hid (slR cs = solL cs) := Lib.hid (slR_yes hB)
    have HTB := Lib.hid (solL_bd cs)
    have HGD : Hid (∀ j, j < (solL cs).length → Good ((solL cs).getD j [])) := Lib.hid (fun j hj => (solL_row hj).good)
    generalize solL cs = T at *
    clear hB
    have cA := A.cell
    go_enter Try.func45, Try.ntmps45
    go_wp2_with fail
    clear eW cA
    refine PG.out.mono ?_
    rintro e w1 ⟨rfl, b⟩
    have A1 := A.below b
    have t := nxt b1 b
    have HS := Lib.hid (HH.out.below t (Nat.le_refl _))
    have cA := A1.cell
    clear b PG A
    go_wp2_with fail
    clear cA
    refine (CA.out _ HS.out).mono ?_
    rintro e w2 ⟨u2, vals2, rfl, r2, b2⟩
    have hb2 := nxt t b2
    by_cases h0 : T.length = 0
    · have e0 : T = [] := List.length_eq_zero_iff.1 h0
      obtain ⟨p2, c2, rfl⟩ := r2.form
      subst e0
      clear r2
      have EB2 := Lib.hid (show fsB cs = false by rw [EB.out]; rfl)
      have ER2 := Lib.hid (show spR cs = [] by unfold spR; rw [EB2.out]; rfl)
      go_wp2_with fail
      go_ret2
      exact ⟨_, by rw [EB2.out]; rfl, by rw [ER2.out]; exact World.ownsRow_nil _ _ _ _, hb2⟩
    · obtain ⟨g, cap2, rfl, -, hgl, -⟩ := r2.cells (by omega)
      have d0 : ((T.length : Int) == 0) = false := by rw [beq_eq_false_iff_ne]; omega
      have EB2 := Lib.hid (show fsB cs = true by rw [EB.out]; simp; omega)
      have ER2 := Lib.hid (show spT T 6 = spR cs by unfold spR; rw [EB2.out]; simp only [if_true]; rw [ET.out])
      have HR := Lib.hid r2
      have HP := Lib.hid (show 0 < T.length by omega)
      clear r2 h0 EB
      go_wp2_with fail
      go_loopw [5, 6] (fun x i wr => ∃ (k : Nat) (L : List Int), k ≤ 6 ∧ i = .int .i64 ((k : Int) + 1) ∧ Ow wr w2.heap.size x L ∧ Hid (L = spT T k) ∧ Below w2.heap.size w2 wr) (fun _ i _ => 8 - (intOf i).toNat)
      case atStart => exact ⟨0, [], by omega, rfl, World.ownsRow_nil _ _ _ _, Lib.hid rfl, Below.refl _ _⟩
      case round =>
        obtain ⟨k, L, hk, rfl, ho, HLL, hb⟩ := hrel
        have hz := hb.size
        have hLk : L.length ≤ 24 := by rw [HLL.out]; have := spT_len T k; omega
        by_cases hlt : k < 6
        · have HN := Lib.hid (spT_step T k)
          have HLE := Lib.hid (lsN_le T ((k : Int) + 1))
          have HLN := Lib.hid (lsN_eq T ((k : Int) + 1))
          have HZ := Lib.hid (lsT_zero T ((k : Int) + 1))
          have HST := Lib.hid (fun j (h : j < T.length) => lsT_step h ((k : Int) + 1))
          have HBD := Lib.hid (lsT_bd T ((k : Int) + 1))
          have hn1 : (1 : Int) ≤ (k : Int) + 1 := by omega
          have hn6 : (k : Int) + 1 ≤ 6 := by omega
          have HKE : Hid (∃ n : Int, (k : Int) + 1 = n) := Lib.hid ⟨_, rfl⟩
          obtain ⟨n, en⟩ := HKE.out
          have HEN := Lib.hid en
          rw [en] at HN HLE HLN HZ HST HBD hn1 hn6 ⊢
          clear en HKE
          generalize hLS : lsT T n = F at *
          clear hLS
          have HO := Lib.hid ho
          obtain ⟨px, cx, rfl⟩ := ho.sv.form
          clear ho
          obtain ⟨wo, rfl⟩ : ∃ x, x = wr := ⟨wr, rfl⟩
          go_wp2
          go_loopw [7, 25] (fun t i wi => ∃ j : Nat, j ≤ T.length ∧ i = .int .i64 j ∧ t = .int .i64 (F j) ∧ Below wo.heap.size wo wi) (fun _ i _ => T.length - (intOf i).toNat)
          case atStart => exact ⟨0, Nat.zero_le _, rfl, by rw [HZ.out], Below.refl _ _⟩
          case round =>
            obtain ⟨j, hj, rfl, rfl, hbi⟩ := hrel
            have hTb := HTB.out
            by_cases hjl : j < T.length
            · have RJ := HR.out.below (hb.trans (hbi.mono hz)) (Nat.le_refl _)
              obtain ⟨g3, c3, e3, -, -, hcc⟩ := RJ.cells HP.out
              simp only [Value.slice.injEq, Option.some.injEq, Addr.mk.injEq, and_true, true_and] at e3
              obtain ⟨rfl, rfl⟩ := e3
              have hcell := hcc j hjl
              have hrow := RJ.row j hjl
              unfold rowL at hrow
              have hgd := HGD.out j hjl
              have hst := HST.out j hjl
              have hbd := HBD.out j
              have hbd2 := HBD.out (j + 1)
              have hcn := cntL_bd (T.getD j []) n
              have hgl := hgd.len
              generalize vals2.getD j undef = U at *
              generalize T.getD j [] = X at *
              have PV := Lib.hid (pzValue_any 5 n U X wr (hrow.sv) hgd (by omega) (by omega))
              obtain ⟨c, ec⟩ : ∃ c, cntL X n = c := ⟨_, rfl⟩
              rw [ec] at hst hcn
              have HEC := Lib.hid ec
              clear ec
              have HSTJ := Lib.hid hst
              clear hcc RJ hst hrow hgd
              generalize F j = Fj at *
              go_wp2_with fail
              refine PV.out.mono ?_
              rintro e w5 ⟨rfl, b5⟩
              rw [va5, HEC.out]
              go_wp2_with fail
              refine (least_any _ _ _).mono ?_
              rintro e w6 ⟨rfl, rfl⟩
              have hbi2 := hbi.trans (b5.mono hbi.size)
              clear b5 PV
              go_wp2_with fail
              go_roundw
              case rel => exact ⟨j + 1, by omega, by go_num, by rw [HSTJ.out], hbi2⟩
              case measure => simp [intOf]; omega
            · obtain rfl : j = T.length := by omega
              have hbo := hb.trans (hbi.mono hz)
              have HO2 := Lib.hid (HO.out.below hbi (Nat.le_refl _))
              have hzi := hbo.size
              rw [HLN.out]
              generalize lsN T n = m at *
              clear HST HBD HZ
              clear HLN
              obtain ⟨wp, rfl⟩ : ∃ x, x = wr := ⟨wr, rfl⟩
              go_wp2
              go_loopw [5, 7] (fun x t wk => ∃ (q : Nat) (L3 : List Int), q ≤ m ∧ t = .int .i64 q ∧ Ow wk w2.heap.size x L3 ∧ Hid (L3 = L ++ List.replicate (m - q) n) ∧ Below w2.heap.size w2 wk) (fun _ t _ => (intOf t).toNat)
              case atStart => exact ⟨m, L, Nat.le_refl _, rfl, HO2.out, Lib.hid (by simp), hbo⟩
              case round =>
                clear hbi hbo
                obtain ⟨q, L3, hq, rfl, ho3, HL3, hb3⟩ := hrel
                have hz3 := hb3.size
                have hm4 := HLE.out
                by_cases hq0 : 0 < q
                · have N3 : Hid (L3 ++ [n] = L ++ List.replicate (m - (q - 1)) n) := Lib.hid (by rw [HL3.out, rep_snoc, show m - q + 1 = m - (q - 1) by omega])
                  have h3l : L3.length ≤ 28 := by rw [HL3.out, List.length_append, List.length_replicate]; omega
                  have hw1 : IntKind.i64.wrap ((q : Int) - 1) = ((q - 1 : Nat) : Int) := (IntWalk.i64_in _ (by omega)).trans (by omega)
                  obtain ⟨p3, c3, rfl⟩ := ho3.sv.form
                  have HO3 := Lib.hid ho3
                  clear ho3 HL3
                  go_wp2_with (at_builtin; refine wpList_append_src rfl _ _ rfl w2.heap.size _ L3 rfl (HO3.out.below ((Below.refl _ _).alloc (Nat.le_refl _) _) (Nat.le_refl _)) (.slice (some ⟨wr.heap.size, 0, none⟩) 1 1) [n] rfl (src_one wr n) (by simp; omega) (by simp; omega) ?_; intro u6 w6 o6 g6; have b6 := ((Below.refl wr.heap.size wr).alloc (Nat.le_refl _) (.cells #[.int .i64 n] 3)); have b7 := Ow.grown (HO3.out.below ((Below.refl _ _).alloc (Nat.le_refl _) _) (Nat.le_refl _)) (by simp; omega) g6)
                  have hb7 := hb3.trans ((b6.mono hz3).trans b7)
                  clear g6 b6 b7
                  go_roundw
                  case rel => exact ⟨q - 1, _, by omega, by first | rfl | rw [hw1], o6, N3, hb7⟩
                  case measure => simp [intOf]; omega
                · obtain rfl : q = 0 := by omega
                  have N4 : Hid (L3 = spT T (k + 1)) := Lib.hid (by rw [HL3.out, ← HN.out, HLL.out]; simp)
                  have hen := HEN.out
                  clear HL3 HN HLL
                  go_wp2
                  go_roundw
                  case rel => exact ⟨k + 1, L3, by omega, by go_num, ho3, N4, hb3⟩
                  case measure => simp [intOf]; omega
        · obtain rfl : k = 6 := by omega
          have HRES : Hid (L = spR cs) := Lib.hid (by rw [HLL.out]; exact ER2.out)
          clear HLL
          go_wp2
          go_ret2
          exact ⟨_, by rw [EB2.out]; rfl, by rw [← HRES.out]; exact ho.mono hb2.size, nxt hb2 hb⟩

set_option maxHeartbeats 8000000 in
theorem implSurePieces_any (v : Value) (cs : List Cl) (w : World) (h : Cv w v cs) (hl : cs.length ≤ 1099511627776) :
    Calls Try.prog 46 #[.agg #[v]] w fun e w' => ∃ u, e = .returned (.tuple #[u, .bool (fsB cs)]) ∧ Ow w' w.heap.size u (spR cs) ∧ Below w.heap.size w w' := by
  obtain ⟨W, eW⟩ : ∃ W, w.alloc (.cells #[v] 39) = W := ⟨_, rfl⟩
  have b1 : Below w.heap.size w W := by rw [← eW]; exact (Below.refl _ _).alloc (Nat.le_refl _) _
  have A : Bx W w.heap.size v := by rw [← eW]; exact bx_new _ _ _
  have SO := Lib.hid (implSolutions_any v cs W (h.below b1 (Nat.le_refl _)) hl)
  have EB : Hid (fsB cs = decide (0 < (slR cs).length)) := Lib.hid rfl
  obtain ⟨T, eT⟩ : ∃ T, slR cs = T := ⟨_, rfl⟩
  have ET := Lib.hid eT
  have HTB : Hid (T.length ≤ 2401) := Lib.hid (by rw [← eT]; exact slR_bd cs)
  have HGD : Hid (∀ j, j < T.length → Good (T.getD j [])) := Lib.hid (by rw [← eT]; exact fun j hj => slR_row hj)
  rw [eT] at SO EB
  have cA := A.cell
  have t := b1
  clear h hl A eT
  generalize pzB cs = B at *
  go_enter Try.func46, Try.ntmps46
  go_wp2_with fail
  clear eW cA
  refine SO.out.mono ?_
  rintro e w2 ⟨u2, vals2, rfl, r2, b2⟩
  have hb2 := nxt t b2
  by_cases h0 : T.length = 0
  · have e0 : T = [] := List.length_eq_zero_iff.1 h0
    obtain ⟨p2, c2, rfl⟩ := r2.form
    subst e0
    clear r2
    have EB2 := Lib.hid (show fsB cs = false by rw [EB.out]; rfl)
    have ER2 := Lib.hid (show spR cs = [] by unfold spR; rw [EB2.out]; rfl)
    go_wp2_with fail
    go_ret2
    exact ⟨_, by rw [EB2.out]; rfl, by rw [ER2.out]; exact World.ownsRow_nil _ _ _ _, hb2⟩
  · obtain ⟨g, cap2, rfl, -, hgl, -⟩ := r2.cells (by omega)
    have d0 : ((T.length : Int) == 0) = false := by rw [beq_eq_false_iff_ne]; omega
    have EB2 := Lib.hid (show fsB cs = true by rw [EB.out]; simp; omega)
    have ER2 := Lib.hid (show spT T 6 = spR cs by unfold spR; rw [EB2.out]; simp only [if_true]; rw [ET.out])
    have HR := Lib.hid r2
    have HP := Lib.hid (show 0 < T.length by omega)
    clear r2 h0 EB
    go_wp2_with fail
    go_loopw [6, 7] (fun x i wr => ∃ (k : Nat) (L : List Int), k ≤ 6 ∧ i = .int .i64 ((k : Int) + 1) ∧ Ow wr w2.heap.size x L ∧ Hid (L = spT T k) ∧ Below w2.heap.size w2 wr) (fun _ i _ => 8 - (intOf i).toNat)
    case atStart => exact ⟨0, [], by omega, rfl, ow_empty w2, Lib.hid rfl, (Below.refl _ _).alloc (Nat.le_refl _) _⟩
    case round =>
      obtain ⟨k, L, hk, rfl, ho, HLL, hb⟩ := hrel
      have hz := hb.size
      have hLk : L.length ≤ 24 := by rw [HLL.out]; have := spT_len T k; omega
      by_cases hlt : k < 6
      · have HN := Lib.hid (spT_step T k)
        have HLE := Lib.hid (lsN_le T ((k : Int) + 1))
        have HLN := Lib.hid (lsN_eq T ((k : Int) + 1))
        have HZ := Lib.hid (lsT_zero T ((k : Int) + 1))
        have HST := Lib.hid (fun j (h : j < T.length) => lsT_step h ((k : Int) + 1))
        have HBD := Lib.hid (lsT_bd T ((k : Int) + 1))
        have hn1 : (1 : Int) ≤ (k : Int) + 1 := by omega
        have hn6 : (k : Int) + 1 ≤ 6 := by omega
        have HKE : Hid (∃ n : Int, (k : Int) + 1 = n) := Lib.hid ⟨_, rfl⟩
        obtain ⟨n, en⟩ := HKE.out
        have HEN := Lib.hid en
        rw [en] at HN HLE HLN HZ HST HBD hn1 hn6 ⊢
        clear en HKE
        generalize hLS : lsT T n = F at *
        clear hLS
        have HO := Lib.hid ho
        obtain ⟨px, cx, rfl⟩ := ho.sv.form
        clear ho
        obtain ⟨wo, rfl⟩ : ∃ x, x = wr := ⟨wr, rfl⟩
        go_wp2
        go_loopw [8, 26] (fun t i wi => ∃ j : Nat, j ≤ T.length ∧ i = .int .i64 j ∧ t = .int .i64 (F j) ∧ Below wo.heap.size wo wi) (fun _ i _ => T.length - (intOf i).toNat)
        case atStart => exact ⟨0, Nat.zero_le _, rfl, by rw [HZ.out], Below.refl _ _⟩
        case round =>
          obtain ⟨j, hj, rfl, rfl, hbi⟩ := hrel
          have hTb := HTB.out
          by_cases hjl : j < T.length
          · have RJ := HR.out.below (hb.trans (hbi.mono hz)) (Nat.le_refl _)
            obtain ⟨g3, c3, e3, -, -, hcc⟩ := RJ.cells HP.out
            simp only [Value.slice.injEq, Option.some.injEq, Addr.mk.injEq, and_true, true_and] at e3
            obtain ⟨rfl, rfl⟩ := e3
            have hcell := hcc j hjl
            have hrow := RJ.row j hjl
            unfold rowL at hrow
            have hgd := HGD.out j hjl
            have hst := HST.out j hjl
            have hbd := HBD.out j
            have hbd2 := HBD.out (j + 1)
            have hcn := cntL_bd (T.getD j []) n
            have hgl := hgd.len
            generalize vals2.getD j undef = U at *
            generalize T.getD j [] = X at *
            have PV := Lib.hid (piecesOf_any U X n wr (hrow.sv) hgl)
            obtain ⟨c, ec⟩ : ∃ c, cntL X n = c := ⟨_, rfl⟩
            rw [ec] at hst hcn
            have HEC := Lib.hid ec
            clear ec
            have HSTJ := Lib.hid hst
            clear hcc RJ hst hrow hgd
            generalize F j = Fj at *
            go_wp2_with fail
            refine PV.out.mono ?_
            rintro e w5 ⟨rfl, b5⟩
            rw [HEC.out]
            have hbi2 := hbi.trans (b5.mono hbi.size)
            clear b5 PV
            go_wp2_with fail
            go_roundw
            case rel => exact ⟨j + 1, by omega, by go_num, by rw [HSTJ.out], hbi2⟩
            case measure => simp [intOf]; omega
          · obtain rfl : j = T.length := by omega
            have hbo := hb.trans (hbi.mono hz)
            have HO2 := Lib.hid (HO.out.below hbi (Nat.le_refl _))
            have hzi := hbo.size
            rw [HLN.out]
            generalize lsN T n = m at *
            clear HST HBD HZ
            clear HLN
            have hm4 := HLE.out
            have zz : wr.heap.size < (wr.alloc (.cells #[.int .i64 n] 3)).heap.size := by simp
            have s1 : (wr.alloc (.cells #[.int .i64 n] 3)).heap.size = wr.heap.size + 1 := by simp
            obtain ⟨wp, rfl⟩ : ∃ x, x = wr := ⟨wr, rfl⟩
            go_wp2_with (first
              | (go_at_call 81; refine (repeat_any wp.heap.size n m _ (by simp) (by simp [go_sem]) (by omega)).mono ?_; rintro e w5 ⟨rfl, o5, b5⟩; have bb5 := (((Below.refl wp.heap.size wp).alloc (Nat.le_refl _) (.cells #[.int .i64 n] 3)).trans (b5.mono (by simp))); have hz5 := bb5.size; rw [s1] at o5)
              | (at_builtin; refine wpList_append_src rfl _ _ rfl w2.heap.size _ L rfl (HO2.out.below bb5 (Nat.le_refl _)) _ (List.replicate m n) rfl o5.srcO (by rw [List.length_replicate]; omega) (by omega) ?_; intro u6 w6 o6 g6; have b7 := Ow.grown (HO2.out.below bb5 (Nat.le_refl _)) (by omega) g6))
            have hb7 := hbo.trans ((bb5.mono hzi).trans b7)
            have N4 : Hid (L ++ List.replicate m n = spT T (k + 1)) := Lib.hid (by rw [← HN.out, HLL.out])
            have hen := HEN.out
            clear g6 o5 b5 bb5 b7 HN HLL hbi hbo
            go_roundw
            case rel => exact ⟨k + 1, _, by omega, by go_num, o6, N4, hb7⟩
            case measure => simp [intOf]; omega
      · obtain rfl : k = 6 := by omega
        have HRES : Hid (L = spR cs) := Lib.hid (by rw [HLL.out]; exact ER2.out)
        clear HLL
        go_wp2
        go_ret2
        exact ⟨_, by rw [EB2.out]; rfl, by rw [← HRES.out]; exact ho.mono hb2.size, nxt hb2 hb⟩
end Go.Proofs.Ytphjiicdodkfbaa
