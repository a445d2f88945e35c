/-
  NeedlessMarks in the program, by its contract. Condition: slices of at most 2^40 numbers.
-/
import Derived.Deep.RegionHeld3
import Derived.Deep.MidRow
import Derived.Deep.RegionWith
import Derived.Deep.CutRange
import Derived.Deep.CutBlock
import Derived.Sort.CutIn
import Derived.Deep.DeepMust
import Derived.Test.YthienikceehcoaaUpd
import Derived.Test.YthienikceehcoaaUeq
import Derived.Test.YthienikceehcoaaRsr
namespace Go.Proofs.Ythienikceehcoaa
open Go.RowKit

theorem range_below {W W' : World} {b o : Nat} {cs : List Value} (h : W.rangeAt b o cs) (k : Below W.heap.size W W') : W'.rangeAt b o cs := fun j v hv => by
  have h1 := h j v hv
  exact (k.cell (p := ⟨b, o + j, none⟩) (block_lt_of_cell h1)).trans h1
theorem range_row {W : World} {b : Nat} {cs : List Value} {t : TypeId} (h : W.heap[b]? = some (.cells cs.toArray t (0, 0))) : W.rangeAt b 0 cs := fun j v hv => by
  simp only [World.cell?, h, Nat.zero_add]
  simpa using hv
theorem sn_next {w W W' : World} {g4 g5 : Nat} {L1 L2 : List Value} (h : W.rangeAt g4 0 L1 ∧ W.rangeAt g5 0 L2 ∧ Below w.heap.size w W) (k : Below W.heap.size W W') : W'.rangeAt g4 0 L1 ∧ W'.rangeAt g5 0 L2 ∧ Below w.heap.size w W' :=
  ⟨range_below h.1 k, range_below h.2.1 k, nxt h.2.2 k⟩
theorem sn_drew {w : World} {g4 g5 : Nat} {L1 L2 : List Value} (h : w.rangeAt g4 0 L1) (k : w.rangeAt g5 0 L2) : w.drew.rangeAt g4 0 L1 ∧ w.drew.rangeAt g5 0 L2 ∧ Below w.heap.size w w.drew :=
  ⟨range_below h (Below.refl _ _).drew, range_below k (Below.refl _ _).drew, (Below.refl _ _).drew⟩
theorem nd_same {ms : List Int} (S : Rul ms) {m : Int} (g : Rul (drL ms m)) : sameB (fun x => decide (0 < tm (drL ms m) x)) (fun x => decide (0 < tm ms x)) = ndT ms m := by
  rw [Bool.eq_iff_iff, sameB_iff]
  unfold ndT
  rw [decide_eq_true_eq]
  exact len_same g S

set_option maxHeartbeats 16000000 in
set_option maxRecDepth 100000 in
theorem implNeedlessMarks_any (v : Value) (ms : List Int) (w : World) (h : Sp w v ms) (hl : ms.length ≤ 1099511627776) :
    Calls Try.prog 18 #[v] w fun e w' => ∃ u, e = .returned (.tuple #[u, .bool (rulB ms)]) ∧ Ow w' w.heap.size u (nmR ms) ∧ Below w.heap.size w w' := by
  have IR := Lib.hid (implIsRuler_any v ms w h hl)
  by_cases hg : rulB ms = true
  · have S := rulB_iff.1 hg
    have hlb := S.last_bd
    have h2 := S.two
    have HT := Lib.hid S
    have Q := Lib.hid (show nmR ms = nmK ms (ms.length - 2) by simp [nmR, hg])
    have SO := fun W (hb : Below w.heap.size w W) => Lib.hid (setOf_any v ms W (h.sv.below hb (Nat.le_refl _)) S.ris.1 hl)
    have LO := fun W (hb : Below w.heap.size w W) => Lib.hid (lengthsOf_any v ms W (h.below hb (Nat.le_refl _)) S)
    have WO := fun (m : Int) (h0 : 0 ≤ m) (h6 : m ≤ 60) W => Lib.hid (without_any (fun x => decide (x ∈ ms)) m W h0 h6)
    have EQ := fun (m : Int) W => set_eq (fun x => decide (0 < tm (drL ms m) x)) (fun x => decide (0 < tm ms x)) W
    have eqg : ∀ (x y : Operand) (xs ys : Array Value) W, (eqGuard .eql 33 x y (.agg xs) (.agg ys)).run Try.prog W = .ok () W := fun x y xs ys W => run_eqGuard_agg W .eql _ x y xs ys Try.setG
    obtain ⟨L1, eL1⟩ : ∃ L1 : List Value, bA (fun x => decide (x ∈ ms)) = L1.toArray := ⟨(bA (fun x => decide (x ∈ ms))).toList, by simp⟩
    obtain ⟨L2, eL2⟩ : ∃ L2 : List Value, bA (fun x => decide (0 < tm ms x)) = L2.toArray := ⟨(bA (fun x => decide (0 < tm ms x))).toList, by simp⟩
    have HS1 : Hid (L1.toArray.size = 61) := Lib.hid (by rw [← eL1]; exact bA_size _)
    have HO1 : Hid (L1.toArray.all (·.oneCell') = true) := Lib.hid (by rw [← eL1]; exact bA_one _)
    have HS2 : Hid (L2.toArray.size = 61) := Lib.hid (by rw [← eL2]; exact bA_size _)
    have HO2 : Hid (L2.toArray.all (·.oneCell') = true) := Lib.hid (by rw [← eL2]; exact bA_one _)
    rw [eL1] at SO WO
    rw [eL2] at LO EQ
    rw [hg] at IR ⊢
    obtain ⟨b, off, cap, rfl, hcap, hcm, hbl, hc⟩ := h
    have HC := Lib.hid hc
    have hcm : cap ≤ 9223372036854775807 := by unfold maxLen at hcm; exact hcm
    obtain ⟨n, hn⟩ : ∃ n, ms.length = n + 2 := ⟨ms.length - 2, by omega⟩
    have hn60 : n ≤ 59 := by omega
    have HN := Lib.hid hn
    rw [hn] at hcap SO LO Q ⊢
    rw [Nat.add_sub_cancel] at Q
    clear S hg hc eL1 eL2 hlb h2 hn hl
    go_enter Try.func18, Try.ntmps18
    go_wp2_with fail
    rw [HN.out] at IR
    refine IR.out.mono ?_
    rintro e w1 ⟨rfl, b1⟩
    go_wp2_with fail
    refine (SO _ b1).out.mono ?_
    rintro e w2 ⟨rfl, b2⟩
    have b2 := nxt b1 b2
    go_wp2_with fail
    refine (LO _ b2).out.mono ?_
    rintro e w3 ⟨rfl, b3⟩
    have b3 := nxt b2 b3
    clear IR SO LO b1 b2
    have hz1 : (((w3.alloc (.cells litB 33)).alloc (.cells litB 33)).setRow w3.heap.size L1.toArray).heap[w3.heap.size + 1]? = some (.cells litB 33 (0, 0)) := by
      rw [setRow_other _ _ _ _ (by omega)]; exact blk_b w3 _ _
    have z3 := b3.size
    have hb0 : Below w.heap.size w ((((w3.alloc (.cells litB 33)).alloc (.cells litB 33)).setRow w3.heap.size L1.toArray).setRow (w3.heap.size + 1) L2.toArray) := below_setRow (below_setRow ((b3.alloc z3 _).alloc (by simp; omega) _) z3 _) (by omega) _
    have hg4 : ((((w3.alloc (.cells litB 33)).alloc (.cells litB 33)).setRow w3.heap.size L1.toArray).setRow (w3.heap.size + 1) L2.toArray).heap[w3.heap.size]? = some (.cells L1.toArray 33 (0, 0)) := by
      rw [setRow_other _ _ _ _ (by omega)]; exact setRow_heap _ _ _ _ _ _ (blk_a w3 _ _)
    have hg5 : ((((w3.alloc (.cells litB 33)).alloc (.cells litB 33)).setRow w3.heap.size L1.toArray).setRow (w3.heap.size + 1) L2.toArray).heap[w3.heap.size + 1]? = some (.cells L2.toArray 33 (0, 0)) := setRow_heap _ _ _ _ _ _ hz1
    have hsz : ((((w3.alloc (.cells litB 33)).alloc (.cells litB 33)).setRow w3.heap.size L1.toArray).setRow (w3.heap.size + 1) L2.toArray).heap.size = w3.heap.size + 2 := by rw [setRow_size, setRow_size]; simp
    obtain ⟨V, eV⟩ : ∃ V, ((((w3.alloc (.cells litB 33)).alloc (.cells litB 33)).setRow w3.heap.size L1.toArray).setRow (w3.heap.size + 1) L2.toArray) = V := ⟨_, rfl⟩
    rw [eV] at hb0 hg4 hg5 hsz
    have EV := Lib.hid eV
    have HZ1 := Lib.hid hz1
    have HG4 := Lib.hid hg4
    have HG5 := Lib.hid hg5
    clear eV hz1 hg4 hg5
    go_wp2_with (first
      | (refine wpList_store_row rfl 33 _ _ rfl w3.heap.size L1.toArray rfl rfl 33 litB (by exact blk_a w3 _ _) (by rw [HS1.out]; exact Try.setI) (by rw [HS1.out]; rfl) HO1.out ?_)
      | (refine wpList_store_row rfl 33 _ _ rfl (w3.heap.size + 1) L2.toArray rfl rfl 33 litB (by exact HZ1.out) (by rw [HS2.out]; exact Try.setI) (by rw [HS2.out]; rfl) HO2.out ?_; erw [EV.out]))
    have ho0 := ow_empty V
    have hb1 : Below w.heap.size w (V.alloc (.cells #[] 3)) := hb0.alloc hb0.size _
    have hV0 : Below V.heap.size V (V.alloc (.cells #[] 3)) := (Below.refl _ _).alloc (Nat.le_refl _) _
    obtain ⟨g4, eg4⟩ : ∃ g4, w3.heap.size = g4 := ⟨_, rfl⟩
    rw [eg4] at hsz HG4 HG5 ⊢
    rw [hsz] at ho0 hV0
    have HSZ := Lib.hid hsz
    have hVw : w.heap.size ≤ g4 + 2 := by have := hb0.size; omega
    clear b2 b3 hb0 eg4 z3 hsz
    go_loopw [6, 23] (fun t x wr => ∃ k : Nat, k ≤ n ∧ x = .int .i64 k ∧ Ow wr (g4 + 2) t (nmK ms k) ∧ Below (g4 + 2) V wr ∧ Below w.heap.size w wr) (fun _ x _ => n - (intOf x).toNat)
    case atStart => exact ⟨0, Nat.zero_le _, rfl, ho0, hV0, hb1⟩
    case round =>
      clear ho0 hb1 hV0
      obtain ⟨k, hk, rfl, ho, hV, hb⟩ := hrel
      have hz := hb.size
      have hzV : g4 + 2 ≤ wr.heap.size := by have := hV.size; have := HSZ.out; omega
      have hnl := nmK_len ms k
      by_cases hlt : k < n
      · have hcell := (hb.cell (p := ⟨b, off + (k + 1), none⟩) hbl).trans (HC.out (k + 1) (by rw [HN.out]; omega))
        have e1 : off + (k + 1) = off + 1 + k := by omega
        rw [e1] at hcell
        have RD := HT.out.drop (i := k + 1) (by omega) (by rw [HN.out]; omega)
        have mb := HT.out.ris.1 (k + 1) (by rw [HN.out]; omega)
        have YE := Lib.hid (nmK_yes (ms := ms) (k := k) rfl)
        have NO := Lib.hid (nmK_no (ms := ms) (k := k) rfl)
        obtain ⟨m, em⟩ : ∃ m, ms.getD (k + 1) 0 = m := ⟨_, rfl⟩
        rw [em] at hcell RD mb YE NO
        have WO := fun W => WO m mb.1 mb.2 W
        have EQ := EQ m
        rw [nd_same HT.out RD] at EQ
        have LI := fun W => Lib.hid (list_any (fun x => decide (x ∈ ms) && !(x == m)) W)
        have hp : 0 < (drL ms m).length := by have := RD.two; omega
        have LO := fun (u : Value) (C : Nat) W (ho : Ow W C u (sL fun x => decide (x ∈ ms) && !(x == m))) => Lib.hid (lengthsOf_any u (drL ms m) W (by rw [sL_drop HT.out.ris] at ho; exact ho.sp0 hp) RD)
        obtain ⟨C3, eC3⟩ : ∃ C3, bA (fun x => decide (0 < tm (drL ms m) x)) = C3 := ⟨_, rfl⟩
        rw [eC3] at LO EQ
        obtain ⟨C4, eC4⟩ : ∃ C4, bA (fun x => decide (x ∈ ms) && !(x == m)) = C4 := ⟨_, rfl⟩
        rw [eC4] at WO LI
        obtain ⟨Z, eZ⟩ : ∃ Z, sL (fun x => decide (x ∈ ms) && !(x == m)) = Z := ⟨_, rfl⟩
        rw [eZ] at LO LI
        have hn1 : L1.length = 61 := by have := HS1.out; simpa only [List.size_toArray] using this
        have hn2 : L2.length = 61 := by have := HS2.out; simpa only [List.size_toArray] using this
        have r4 : wr.rangeAt g4 0 L1 := range_row ((hV.block g4 (by omega)).trans HG4.out)
        have r5 : wr.rangeAt (g4 + 1) 0 L2 := range_row ((hV.block (g4 + 1) (by omega)).trans HG5.out)
        have hi41 : (Try.prog.info? 33).map (·.size) = some L1.length := by rw [hn1]; exact Try.setI
        have hi42 : (Try.prog.info? 33).map (·.size) = some L2.length := by rw [hn2]; exact Try.setI
        have HI1 := Lib.hid hi41
        have HI2 := Lib.hid hi42
        have S1' := sn_drew (w := wr) r4 r5
        clear hi41 hi42 hn1 hn2 r4 r5
        obtain ⟨R, eR⟩ : ∃ R, ndT ms m = R := ⟨_, rfl⟩
        rw [eR] at EQ YE NO
        clear em eC3 eC4 eZ RD mb hp eR
        go_upto_region 8 with (fail)
        refine wp_region_held_drew (S := fun w' => w'.rangeAt g4 0 L1 ∧ w'.rangeAt (g4 + 1) 0 L2 ∧ Below wr.heap.size wr w') (by kernel_rfl) S1' (fun hH0 => ?_)
        refine wpAnyH_take (i := 0) (v := .agg L1.toArray) rfl (by kernel_rfl) (by kernel_rfl) (by kernel_rfl) (fun _ _ _ h => h) (yieldsIf_load_mid rfl 33 _ rfl g4 0 rfl L1 _ (fun w h => h.1) Try.setU rfl HI1.out) hH0 ?_
        simp only [Act.put]
        refine wpAnyH_take (i := 1) (v := .int .i64 m) rfl (by kernel_rfl) (by kernel_rfl) (by kernel_rfl) (fun _ _ _ h => h) (Or.inl ⟨by rfl, fun w hSw => by go_simp⟩) hH0 ?_
        simp only [Act.put]
        refine wpAnyH_take (i := 5) (v := .agg L2.toArray) rfl (by kernel_rfl) (by kernel_rfl) (by kernel_rfl) (fun _ _ _ h => h) (yieldsIf_load_mid rfl 33 _ rfl (g4 + 1) 0 rfl L2 _ (fun w h => h.2.1) Try.setU rfl HI2.out) hH0 ?_
        simp only [Act.put]
        refine wpAnyH_ready (rs := [2]) (by kernel_rfl) (by simp) (AllReadyH.cons rfl (fun K hK => ?_) AllReadyH.nil)
        go_simp
        go_at_call 31
        refine ((WO _).out).mono ?_
        rintro e w4 ⟨rfl, b4⟩
        refine hK.out _ _ (sn_next hH0 b4) (fun hH1 => ?_)
        clear hK K hH0 b4
        refine wpAnyH_ready (rs := [3]) (by kernel_rfl) (by simp) (AllReadyH.cons rfl (fun K hK => ?_) AllReadyH.nil)
        go_simp
        go_at_call 23
        refine ((LI _).out).mono ?_
        rintro e w5 ⟨u, rfl, o5, b5⟩
        refine hK.out _ _ (sn_next hH1 b5) (fun hH2 => ?_)
        clear hK K hH1 b5
        refine wpAnyH_ready (rs := [4]) (by kernel_rfl) (by simp) (AllReadyH.cons rfl (fun K hK => ?_) AllReadyH.nil)
        go_simp
        go_at_call 22
        refine ((LO _ _ _ o5).out).mono ?_
        rintro e w6 ⟨rfl, b6⟩
        refine hK.out _ _ (sn_next hH2 b6) (fun hH3 => ?_)
        clear hK K hH2 b6 o5
        refine wpAnyH_take (i := 6) (v := .bool R) rfl (by kernel_rfl) (by kernel_rfl) (by kernel_rfl) (fun _ _ _ h => h) (Or.inl ⟨by rfl, fun w hSw => by go_simp⟩) hH3 ?_
        refine wpAnyH_done (by kernel_rfl) ?_ _
        have hb6 := nxt hb hH3.2.2
        have hV6 := hV.trans (hH3.2.2.mono hzV)
        have ho6 := ho.below hH3.2.2 (Nat.le_refl _)
        clear hH3 ho hV hb
        cases hR : R with
        | true =>
          have FS := Lib.hid (YE.out hR)
          subst hR
          have z6 := hb6.size
          have z6V : g4 + 2 ≤ w6.heap.size := by have := hV6.size; have := HSZ.out; omega
          go_wp2_with (at_builtin; refine wpList_append_src rfl _ _ rfl (g4 + 2) _ (nmK ms k) rfl (ho6.alloc _) _ [m] rfl (src_one _ _) (by simp only [List.length_cons, List.length_nil]; omega) (by simp; omega) ?_; intro v' w7 h7 g7)
          have b7 := (hb6.alloc z6 _).trans (((ho6.alloc _).grown (by simp; omega) g7).mono hVw)
          have V7 := (hV6.alloc (by omega) _).trans ((ho6.alloc _).grown (by simp; omega) g7)
          clear ho6 g7 hb6 hV6
          go_roundw
          case rel =>
            repeat apply Exists.intro
            refine ⟨⟨k + 1, by omega, by go_num, by rw [FS.out]; exact h7, V7, b7⟩, by first | rfl | exact ⟨rfl, rfl⟩ | exact ⟨rfl, rfl, rfl⟩⟩
          case measure => simp only [intOf]; omega
        | false =>
          have FS := Lib.hid (NO.out hR)
          subst hR
          go_wp2
          go_roundw
          case rel => exact ⟨u6, .int .i64 m, .int .i64 ((k : Int) + 1), ⟨k + 1, by omega, by go_num, by rw [FS.out]; exact ho6⟩, rfl, rfl, rfl⟩
          case measure => simp only [intOf]; omega
      · obtain rfl : k = n := by omega
        go_wp2
        go_ret2
        exact ⟨_, rfl, by rw [Q.out]; exact ho.mono hVw, hb⟩
  · have hg : rulB ms = false := by simpa using hg
    have Q := Lib.hid (show nmR ms = [] by simp [nmR, hg])
    rw [hg] at IR ⊢
    clear h
    go_enter Try.func18, Try.ntmps18
    go_wp2_with fail
    refine IR.out.mono ?_
    rintro e w1 ⟨rfl, b1⟩
    go_wp2_with fail
    go_ret2
    exact ⟨_, rfl, by rw [Q.out]; exact ow_nilR _ _, b1⟩
end Go.Proofs.Ythienikceehcoaa
