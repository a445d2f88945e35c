/-
  The program's iterator over all values, by its contract: what it hands out, in what order. Condition: stamps that are at least 1, in memory that the loop's body keeps.
-/
import Derived.Deep.CutRange
import Derived.Sort.CutIn
import Derived.Deep.CutBlock
import Derived.Deep.RegionWith
import Derived.Test.YtmllokooceghiaaTit
namespace Go.Proofs.Ytmllokooceghiaa
open Go.RowKit Go.Shelf

attribute [local go_sem] Oper.semAt_some sv2

theorem in_build {F : Fence} {n : Nat} {P : Program} {ops : Array Oper} {rest : List Oper} {o : Oper} {a : Act} {w : World} {Q : Exit → Act → World → Prop} (hg : o.guard = none) (t : TypeId) (parts : Array (Nat × Operand)) (ho : o.op = .build t parts) (cs : Array Value)
    (hf : P.built t (parts.map fun (i, x) => (i, a.eval x)).toList = some cs) (h : wpListIn F n P ops Q rest (a.put o.dst (.agg cs)) w) : wpListIn F n P ops Q (o :: rest) a w := by
  refine wpListIn_plain hg fun K hK => ?_
  unfold Oper.wpIn
  refine ⟨?_, ?_⟩
  · simp [Oper.about, ho]
  · rw [Oper.semAt_plain F _ _ (by rw [ho]; intro c hc; cases hc)]
    simp only [execOp, ho, Sem.run_bind, run_build w t _ cs hf, Result.andThen_ok]
    exact hK _ _ h
theorem in_alloc {F : Fence} {n : Nat} {P : Program} {ops : Array Oper} {rest : List Oper} {o : Oper} {a : Act} {w : World} {Q : Exit → Act → World → Prop} (hg : o.guard = none) (t : TypeId) (ho : o.op = .alloc t) (cs : Array Value)
    (hz : (P.info? t).map (·.zero) = some (some (.agg cs))) (h : wpListIn F n P ops Q rest (a.put o.dst (.pointer (some ⟨w.heap.size, 0, none⟩))) (w.alloc (.cells cs t))) : wpListIn F n P ops Q (o :: rest) a w := by
  cases hi : P.info? t with
  | none => rw [hi] at hz; cases hz
  | some i =>
    rw [hi] at hz
    have hz : i.zero = some (.agg cs) := by simpa using hz
    refine wpListIn_plain hg fun K hK => ?_
    unfold Oper.wpIn
    refine ⟨?_, ?_⟩
    · simp [Oper.about, ho]
    · rw [Oper.semAt_plain F _ _ (by rw [ho]; intro c hc; cases hc)]
      simp [execOp, ho, Instr.alloc, zeroValue, typeInfo, hi, hz, newVar, newRow, Value.cells, go_sem]
      exact hK _ _ h
theorem in_store_row {F : Fence} {n : Nat} {P : Program} {ops : Array Oper} {rest : List Oper} {o : Oper} {a : Act} {w : World} {Q : Exit → Act → World → Prop} (hgd : o.guard = none) (ty : TypeId) (x y : Operand) (ho : o.op = .store ty x y)
    (g : Nat) (cells : Array Value) (hx : a.eval x = .pointer (some ⟨g, 0, none⟩)) (hy : a.eval y = .agg cells)
    (t : TypeId) (old : Array Value) (hg : w.heap[g]? = some (.cells old t (0, 0))) (hi : (P.info? ty).map (·.size) = some cells.size)
    (hold : old.size = cells.size) (h1 : cells.all (·.oneCell') = true)
    (h : wpListIn F n P ops Q rest (a.put o.dst undef) (w.setRow g cells)) : wpListIn F n P ops Q (o :: rest) a w := by
  refine wpListIn_plain hgd fun K hK => ?_
  unfold Oper.wpIn
  refine ⟨?_, ?_⟩
  · simp [Oper.about, ho]
  · rw [Oper.semAt_plain F _ _ (by rw [ho]; intro c hc; cases hc)]
    simp only [execOp, ho, hx, hy, Instr.storeAt, Instr.sureAddr, Sem.run_bind, Sem.run_pure, Result.andThen_ok, run_storeVar_row w g t ty old cells hg hi hold h1]
    exact hK _ _ h
theorem told_stp {W : World} {B : Nat} (_hB : B ≤ W.heap.size) : Stp B W ((W.alloc (.cells zeroZ 70)).setRow W.heap.size toldZ) := by
  refine ⟨rfl, rfl, rfl, by simp, fun k o hk _ => ?_⟩
  have hlt := (Array.getElem?_eq_some_iff.1 hk).1
  rw [setRow_other _ _ _ _ (by omega), Below.heap_alloc _ _ _ hlt]
  exact hk

theorem wide_of {F : Fence} (h : F = Fence.wide) {n : Nat} {P : Program} {c : Code} {Q : Exit → Act → World → Prop} {a : Act} {w : World} (hc : c.wp P Q a w) : c.wpIn F n P Q a w := by
  subst h
  exact wpIn_wide.2 hc
theorem cell_eq_of_heap {W W' : World} {B : Nat} (h : W'.heap[B]? = W.heap[B]?) : W'.cell? ⟨B, 0, none⟩ = W.cell? ⟨B, 0, none⟩ := by simp only [World.cell?, h]

theorem rel_next {J : Nat → World → Prop} {W wi w2 : World} {n₀ Bs val k : Nat} {st : List Int} {a : Int} {c : Nat}
    (htb : T2 w2 W.heap.size (tA st val k) (tC st val k)) (hst : Stp W.heap.size wi w2) (hJv : J val wi) (hbe : Below n₀ W wi) (hbx : wi.heap[Bs]? = W.heap[Bs]?) (hnW : n₀ ≤ W.heap.size) (hBl : Bs < W.heap.size)
    (hJ : ∀ k X Y, J k X → Stp W.heap.size X Y → J k Y) (hv : 0 < val) (_hk : k < st.length) (ha : pfK st val (k + 1) = a) (hc : pcK st val (k + 1) = c) :
    J val ((w2.setCell ⟨W.heap.size, val * 2, none⟩ (.int .i64 a)).setCell ⟨W.heap.size, val * 2 + 1, none⟩ (.int .u64 (c : Int))) ∧
      T2 ((w2.setCell ⟨W.heap.size, val * 2, none⟩ (.int .i64 a)).setCell ⟨W.heap.size, val * 2 + 1, none⟩ (.int .u64 (c : Int))) W.heap.size (tA st val (k + 1)) (tC st val (k + 1)) ∧
      Below n₀ W ((w2.setCell ⟨W.heap.size, val * 2, none⟩ (.int .i64 a)).setCell ⟨W.heap.size, val * 2 + 1, none⟩ (.int .u64 (c : Int))) ∧
      ((w2.setCell ⟨W.heap.size, val * 2, none⟩ (.int .i64 a)).setCell ⟨W.heap.size, val * 2 + 1, none⟩ (.int .u64 (c : Int))).heap[Bs]? = W.heap[Bs]? := by
  obtain ⟨cs, hg, _⟩ := id htb
  have s1 : Stp W.heap.size w2 (w2.setCell ⟨W.heap.size, val * 2, none⟩ (.int .i64 a)) := Stp.setCell (Nat.le_refl _) hg _
  have hg2 : (w2.setCell ⟨W.heap.size, val * 2, none⟩ (.int .i64 a)).heap[W.heap.size]? = some (.cells (cs.setIfInBounds (val * 2) (.int .i64 a)) 70 (0, 0)) := by
    simp [World.setCell, Array.getElem?_modify, hg]
  have s2 := s1.trans (Stp.setCell (i := val * 2 + 1) (Nat.le_refl _) hg2 (.int .u64 (c : Int)))
  have s3 := hst.trans s2
  have T := (htb.set (j := val) a c).congr (fun j => t_next (j := j) ha hc hv)
  have hb3 := Stp.below hbe hnW hnW s3
  refine ⟨hJ _ _ _ hJv s3, T, hb3, ?_⟩
  rw [← hbx]
  have hlt : Bs < wi.heap.size := by have := hbe.size; omega
  have e2 : wi.heap[Bs]? = some wi.heap[Bs] := Array.getElem?_eq_getElem hlt
  rw [e2]
  exact s3.same Bs _ e2 (.inl hBl)

set_option maxRecDepth 100000 in
set_option maxHeartbeats 8000000 in
theorem each_in (F : Fence) (hFw : F = Fence.wide) (n : Nat) (hF : ∀ k, F.fn k) (hro : F.round = none) (hn : 2 ≤ n) (_hW : ∀ (k f : Nat) (args : Array Value) (w : World) (R : Ending → World → Prop), Calls Try.prog f args w R → CallsIn F k Try.prog f args w R)
    (l Bs n₀ b off cap : Nat) (st : List Int) (h1 : ∀ x ∈ st, 1 ≤ x) (hl : st.length ≤ 1048576) (hb : b < n₀) (J Jx : Nat → World → Prop) (W : World) (hnW : n₀ ≤ W.heap.size) (hBl : Bs < W.heap.size)
    (hJ : ∀ k X Y, J k X → Stp W.heap.size X Y → J k Y) (_hJx : ∀ k X Y, Jx k X → Stp W.heap.size X Y → Jx k Y)
    (hY : ∀ (k : Nat) X, J k X → k < 4001 → YieldAt F (n - 1) Try.prog l #[.int .i64 (k : Int), sv2 (pf st k) (pc st k)] X fun e Y =>
      (e = .returned (.bool true) ∧ J (k + 1) Y ∧ KpT n₀ Bs X Y) ∨ (e = .returned (.bool false) ∧ Jx (k + 1) Y))
    (hBs : W.cell? ⟨Bs, 0, none⟩ = some (.slice (some ⟨b, off, none⟩) st.length cap)) (hc : ∀ j, j < st.length → W.cell? ⟨b, off + j, none⟩ = some (.int .i64 (st.getD j 0))) (h0 : J 0 W) :
    CallsIn F n Try.prog 74 #[.func (.yield l) #[] #[], .pointer (some ⟨Bs, 0, none⟩)] W fun e W' => (∃ v, e = .returned v) ∧
      (J 4001 W' ∨ ∃ k, k ≤ 4001 ∧ Jx k W') := by
  have HC := Lib.hid hc
  have H1 := Lib.hid h1
  have h1n : 1 ≤ n := by omega
  have HFw := Lib.hid hFw
  have hmo : Try.prog.follows Departure.mixedOrders = true := by kernel_rfl
  clear hc h1 hFw
  refine callsIn_of_wp Try.func74 rfl (hF _) ?_ hro
  simp only [Try.ntmps74, List.size_toArray, List.length_cons, List.length_nil, Nat.reduceAdd, Nat.reduceSub, Array.replicate_succ, Array.replicate_zero, List.push_toArray, List.append_toArray, List.nil_append, List.cons_append]
  gi_wp2_with (first
    | (refine in_build rfl 70 _ rfl toldZ Try.builtT ?_)
    | (refine in_alloc rfl 70 rfl zeroZ Try.zeroT ?_)
    | (refine in_store_row rfl 70 _ _ rfl W.heap.size toldZ rfl rfl 70 zeroZ (heap_alloc_new W _) (by rw [toldZ_size]; exact Try.arrI) (by rw [toldZ_size, zeroZ_size]) toldZ_one ?_))
  have hS0 : Stp W.heap.size W ((W.alloc (.cells zeroZ 70)).setRow W.heap.size toldZ) := told_stp (Nat.le_refl _)
  have hT0 := T2.start H1.out (setRow_heap (W.alloc (.cells zeroZ 70)) W.heap.size _ toldZ _ _ (heap_alloc_new W _))
  have hJ0 := hJ 0 _ _ h0 hS0
  have hb0 : Below n₀ W ((W.alloc (.cells zeroZ 70)).setRow W.heap.size toldZ) := Stp.below (Below.refl n₀ W) hnW hnW hS0
  have hx0 : ((W.alloc (.cells zeroZ 70)).setRow W.heap.size toldZ).heap[Bs]? = W.heap[Bs]? := by
    rw [setRow_other _ _ _ _ (by omega), Below.heap_alloc _ _ _ hBl]
  obtain ⟨W1, eW1⟩ : ∃ W1, ((W.alloc (.cells zeroZ 70)).setRow W.heap.size toldZ) = W1 := ⟨_, rfl⟩
  rw [eW1] at hT0 hJ0 hb0 hx0 ⊢
  clear hS0 eW1 h0
  gi_loopw [9] (fun i wr => ∃ val : Nat, val ≤ 4001 ∧ i = .int .i64 (val : Int) ∧ J val wr ∧ T2 wr W.heap.size (fun j => if j < val ∨ j = 0 then pf st j else 0) (fun j => if j < val ∨ j = 0 then pc st j else 0) ∧ Below n₀ W wr ∧ wr.heap[Bs]? = W.heap[Bs]?) (fun i _ => 4001 - (intOf i).toNat)
  case atStart => exact ⟨0, by omega, rfl, hJ0, hT0, hb0, hx0⟩
  case round =>
    clear hT0 hJ0 hb0 hx0
    obtain ⟨val, hv, rfl, hJv, htb, hbe, hbx⟩ := hrel
    by_cases hlt : val < 4001
    · have hbs := (cell_eq_of_heap hbx).trans hBs
      have hv1 : (val : Int) < 4001 := by omega
      gi_upto_region 4 with (fail)
      refine wide_of HFw.out ?_
      go_wp2
      refine wide_of HFw.out ?_
      go_cut [] from 12 to 32 (fun w' => J val w' ∧ T2 w' W.heap.size (tA st val st.length) (tC st val st.length) ∧ Below n₀ W w' ∧ w'.heap[Bs]? = W.heap[Bs]?)
      case first =>
       go_wp2
       go_loopw [14] (fun i wi => ∃ k : Nat, k ≤ st.length ∧ i = .int .i64 (k : Int) ∧ J val wi ∧ T2 wi W.heap.size (tA st val k) (tC st val k) ∧ Below n₀ W wi ∧ wi.heap[Bs]? = W.heap[Bs]?) (fun i _ => st.length - (intOf i).toNat)
       case atStart => exact ⟨0, Nat.zero_le _, rfl, hJv, htb.congr (fun j => ⟨(t_enter st val j).1.symm, (t_enter st val j).2.symm⟩), hbe, hbx⟩
       case round =>
        clear hJv htb hbe hbx hbs
        obtain ⟨k, hk, rfl, hJv, htb, hbe, hbx⟩ := hrel
        by_cases hkl : k < st.length
        · have hcell := (hbe.cell (p := ⟨b, off + k, none⟩) hb).trans (HC.out k hkl)
          have hn1 := H1.out (st.getD k 0) (by rw [List.getD_eq_getElem?_getD, List.getElem?_eq_getElem hkl]; exact List.getElem_mem hkl)
          obtain ⟨x, ex⟩ : ∃ x, st.getD k 0 = x := ⟨_, rfl⟩
          rw [ex] at hcell hn1
          obtain ⟨q, rfl⟩ : ∃ q : Nat, x = q := ⟨x.toNat, by omega⟩
          have EX := Lib.hid ex
          have hi0 : (0 : Int) ≤ k := by omega
          have hi1 : (k : Int) < st.length := by omega
          clear ex
          go_upto_block 3 with (fail)
          go_cut [] from 16 to 31 (fun w' => J val w' ∧ T2 w' W.heap.size (tA st val (k + 1)) (tC st val (k + 1)) ∧ Below n₀ W w' ∧ w'.heap[Bs]? = W.heap[Bs]?)
          case first =>
            by_cases hqv : (q : Int) ≤ (val : Int)
            · obtain ⟨c1, c2, f1, f2⟩ := htb.cells (j := val) hlt
              obtain ⟨d1, d2, -, -⟩ := htb.cells (j := val - q) (by omega)
              have ts := t_self st val k (by omega)
              have tl := t_low (st := st) (v := val) (k := k) (j := val - q) (by omega)
              rw [ts.1] at c1
              rw [ts.2] at c2
              rw [tl.1] at d1
              rw [tl.2] at d2
              have hw1 : IntKind.i64.wrap ((val : Int) - q) = (val : Int) - q := IntWalk.i64_in _ (by omega)
              have ht1 : ((val : Int) - q).toNat = val - q := by omega
              have hj0 : (0 : Int) ≤ (val : Int) - q := by omega
              have hj1 : (val : Int) - q < 4001 := by omega
              have hv0 : (0 : Int) ≤ (val : Int) := by omega
              have bd1 := pf_bd H1.out (val - q)
              have bd2 := pfK_bd H1.out val k
              have lt1 := pc_lt st (val - q)
              have lt2 := pcK_lt st val k
              have hvp : 0 < val := by omega
              clear ts tl
              by_cases hr : fw st (val - q) < stNone
              · have ps := (pf_some H1.out hr).2
                by_cases ha : fwStep (fw st) val (st.take k) stNone < stNone
                · have S := Lib.hid (t_step_both H1.out hkl EX.out (by omega) (by omega) (by omega) hr ha)
                  have p1 := (pfK_some H1.out ha).2
                  clear hr ha hn1
                  go_wp2
                  go_region_with (go_at_call 75; refine (or_both (pfK st val k) (pcK st val k) (pf st (val - q)) (pc st (val - q)) p1 bd2.2 lt2 bd1.1 bd1.2 lt1 ps _).mono ?_; rintro e w2 ⟨rfl, b2⟩; have b3 := (Below.refl wr.heap.size wr).drew.trans b2; have htb2 := htb.below b3 (Nat.le_refl _); have hst := Stp.of_below (B := W.heap.size) b3; obtain ⟨g1, g2, g3, g4⟩ := htb2.cells (j := val) hlt; clear b2)
                  all_goals
                    first | go_meet | (go_step; go_meet) | (go_step; go_step; go_meet)
                    case rel => exact rel_next htb2 hst hJv hbe hbx hnW hBl hJ hvp hkl S.out.1 S.out.2
                · have S := Lib.hid (t_step_first H1.out hkl EX.out (by omega) (by omega) (by omega) hr ha)
                  obtain ⟨z1, z2⟩ := pfK_none H1.out ha
                  rw [z1] at c1
                  rw [z2] at c2
                  clear hr ha hn1
                  go_wp2
                  go_region_with (go_at_call 75; refine (or_first (pf st (val - q)) (pc st (val - q)) bd1.1 bd1.2 lt1 ps _).mono ?_; rintro e w2 ⟨rfl, b2⟩; have b3 := (Below.refl wr.heap.size wr).drew.trans b2; have htb2 := htb.below b3 (Nat.le_refl _); have hst := Stp.of_below (B := W.heap.size) b3; obtain ⟨g1, g2, g3, g4⟩ := htb2.cells (j := val) hlt; clear b2)
                  all_goals
                    first | go_meet | (go_step; go_meet) | (go_step; go_step; go_meet)
                    case rel => exact rel_next htb2 hst hJv hbe hbx hnW hBl hJ hvp hkl S.out.1 S.out.2
              · have S := Lib.hid (t_step_skip H1.out hkl EX.out (by omega) (by omega) hr)
                obtain ⟨z1, z2⟩ := pf_none H1.out hr
                rw [z1] at d1
                rw [z2] at d2
                clear hr hn1
                go_wp2
                go_region_with (go_at_call 75; refine (or_skip (pfK st val k) (pcK st val k) _).mono ?_; rintro e w2 ⟨rfl, b2⟩; have b3 := (Below.refl wr.heap.size wr).drew.trans b2; have htb2 := htb.below b3 (Nat.le_refl _); have hst := Stp.of_below (B := W.heap.size) b3; obtain ⟨g1, g2, g3, g4⟩ := htb2.cells (j := val) hlt; clear b2)
                all_goals
                  first | go_meet | (go_step; go_meet) | (go_step; go_step; go_meet)
                  case rel => exact rel_next htb2 hst hJv hbe hbx hnW hBl hJ hvp hkl S.out.1 S.out.2
            · have S := Lib.hid (t_skip (k := k) hkl EX.out hqv)
              have dq : decide ((q : Int) ≤ (val : Int)) = false := by simpa using hqv
              have dq2 : ¬ q ≤ val := by omega
              have dq3 : val < q := by omega
              clear hn1
              go_wp2
              first | go_meet | (go_step; go_meet) | (go_step; go_step; go_meet)
              case rel => exact ⟨hJv, htb.congr (fun j => ⟨(S.out j).1.symm, (S.out j).2.symm⟩), hbe, hbx⟩
          case rest =>
            go_step
            go_wp2
            go_roundw
            case rel => exact ⟨k + 1, by omega, by go_num, hcut⟩
            case measure => simp [intOf]; omega
        · have hke : k = st.length := by omega
          subst hke
          go_wp2
          first | go_meet | (go_step; go_meet) | (go_step; go_step; go_meet)
          case rel => exact ⟨hJv, htb, hbe, hbx⟩
      case rest =>
        clear hJv htb hbe hbx hbs
        obtain ⟨hJv, htb, hbe, hbx⟩ := hcut
        have L := t_leave H1.out val val
        rw [if_pos (by omega), if_pos (by omega)] at L
        obtain ⟨c1, c2, f1, f2⟩ := htb.cells (j := val) hlt
        rw [L.1] at c1
        rw [L.2] at c2
        have hv0 : (0 : Int) ≤ (val : Int) := by omega
        obtain ⟨fn, tmps, assign, body, hy, hR⟩ := hY val wc hJv hlt
        simp only [sv2] at hy
        clear L
        gi_step
        gi_wp2
        refine hR.mono ?_
        rintro e W3 (⟨rfl, hJ3, hk3⟩ | ⟨rfl, hJx3⟩)
        · gi_wp2
          go_roundw
          case rel => exact ⟨val + 1, by omega, by go_num, hJ3, hk3.table (htb.congr (fun j => t_leave H1.out val j)), hbe.trans hk3.1, hk3.2.1.trans hbx⟩
          case measure => simp [intOf]; omega
        · gi_wp2
          refine bodyPost_ret (results_none rfl _ _ _) rfl ?_
          exact ⟨⟨_, rfl⟩, .inr ⟨val + 1, by omega, hJx3⟩⟩
    · obtain rfl : val = 4001 := by omega
      gi_wp2
      go_end0
      exact ⟨⟨_, rfl⟩, .inl hJv⟩
end Go.Proofs.Ytmllokooceghiaa
