/-
  What the first best change takes next: the program's closure, by its contract. Conditions: coins; a table for what is left.
-/
import Derived.Test.YtdgadabfahmdmaaVbs
namespace Go.Proofs.Ytdgadabfahmdmaa
open Go.RowKit

set_option maxHeartbeats 4000000 in
theorem bnext_any (T g l m : Nat) (cs : List Nat) (w : World) (hT : Boxed w T 52 (.slice (some ⟨g, 0, none⟩) (m + 1) (m + 1))) (ht : Tp w g (m + 1) (pdT 0 cs)) (hp : Pos cs) (hl8 : cs.length ≤ 8) (h0 : 0 < l) (hl : l ≤ m) (hm : m ≤ 1048576) :
    Calls Try.prog 64 #[.int .i64 (l : Int), .pointer (some ⟨T, 0, none⟩)] w fun e w' => ∃ u, e = .returned u ∧ Ow w' w.heap.size u (iL (bstep cs l)) ∧ Below w.heap.size w w' := by
  have PN := pdT_none hp 0 (a := l) (by unfold big; omega)
  have PZ := (pdT_ok cs 0 8 hp (by omega) l).z
  have PK := pdT_k cs 0 hp l h0 (by unfold big; omega)
  have FB := fo_big hp l
  have x1 := hT.cell
  obtain ⟨P, eP⟩ : ∃ P, pdT 0 cs l = P := ⟨_, rfl⟩
  obtain ⟨c1, c2, c3⟩ := tp_load ht (j := l) (by omega) eP
  rw [eP] at PN PZ PK
  have i1 : (l : Int) < (m : Int) + 1 := by omega
  have i0 : (0 : Int) ≤ l := by omega
  clear hT ht eP
  by_cases hw : P.w = 0
  · have := PZ hw
    subst this
    have hf : ¬ fo cs l < big := by have := PN.1 hw; omega
    have HB : Hid (iL (bstep cs l) = []) := Lib.hid (by simp [bstep, hf, iL])
    simp only [Pd.z] at c1 c2 c3
    clear PN PK hf FB PZ hw
    go_enter Try.func64, Try.ntmps64
    go_wp2
    go_ret
    exact ⟨_, rfl, by rw [HB.out]; exact ow_nil _ _, Below.refl _ _⟩
  · have hf : fo cs l < big := by
      apply Classical.byContradiction
      intro gg
      exact hw (PN.2 (by omega))
    have e1 := PK hf
    rw [Nat.zero_add] at e1
    have HB : Hid (iL (bstep cs l) = iL (List.replicate 1 P.k)) := Lib.hid (by simp [bstep, hf, e1])
    obtain ⟨x, ex⟩ : ∃ x, P.w = x := ⟨_, rfl⟩
    obtain ⟨y, ey⟩ : ∃ x, P.f = x := ⟨_, rfl⟩
    obtain ⟨z, ez⟩ : ∃ x, P.k = x := ⟨_, rfl⟩
    rw [ex] at c1 hw
    rw [ey] at c2
    rw [ez] at c3 HB
    have d : ((x : Int) == 0) = false := by rw [beq_eq_false_iff_ne]; omega
    have CK := Lib.hid (coinsOfKind_any z 1 w (by omega))
    clear PN PK hf FB PZ ex ey ez e1
    go_enter Try.func64, Try.ntmps64
    go_wp2_with fail
    refine CK.out.mono ?_
    rintro e w2 ⟨rfl, ho, b2⟩
    go_wp2_with fail
    go_ret
    exact ⟨_, rfl, by rw [HB.out]; exact ho, b2⟩

set_option maxHeartbeats 4000000 in
theorem implBestChange_any (v : Value) (xs : List Int) (a : Int) (w : World) (h : Sp w v xs) (hl : xs.length ≤ 1099511627776) :
    Calls Try.prog 31 #[v, .int .i64 a] w fun e w' => ∃ u, e = .returned (.tuple #[u, .bool (fcB xs a)]) ∧ Ow w' w.heap.size u (bcR xs a) ∧ Below w.heap.size w w' := by
  have hmf : ∀ (fn : Fn) (first cap : Array Value) (w : World), (Instr.makeFunc fn first cap).run Try.prog w = .ok (.func fn first cap) w := fun _ _ _ _ => rfl
  have AC := Lib.hid (areCoins_any _ xs w h.sv hl)
  have IA := Lib.hid (isAmount_any a w)
  by_cases hc : cnsB xs = true
  · by_cases ha : amB a = true
    · have hq : askC xs a = true := by simp [askC, hc, ha]
      obtain ⟨cs, n, rfl, hc', rfl, hn⟩ := askC_yes hq
      rw [hc] at AC
      rw [ha] at IA
      have hlen := iL_len cs
      have h8 := hc'.eight
      have hv := h
      obtain ⟨b, off, cap, rfl, hcap, hcm, hbl, hcl⟩ := h
      have TP := Lib.hid (tablePaid_any (some ⟨b, off, none⟩) cap cs n w hv.sv hc'.pos h8 (by omega) (fun c hcc => by have := hc'.mem c hcc; omega))
      have HB := Lib.hid (fcB_of hc' hn)
      have CB := co_best hc'.pos n
      have HR : Hid (iL (if fo cs n < big then lf cs n else []) = bcR (iL cs) n) := Lib.hid (by
        by_cases hz : fo cs n < big
        · rw [if_pos hz, bcR_yes hc' hn hz]
        · rw [if_neg hz, bcR_no (fcB_none hc' hn hz)]; rfl)
      have CO := fun (W : World) (T g : Nat) (hW : Below w.heap.size w W) (hT : Boxed W T 52 (.slice (some ⟨g, 0, none⟩) (n + 1) (n + 1))) (ht : Tp W g (n + 1) (pdT 0 cs)) =>
        Lib.hid (countOutB_any W b off cap cs n (.pointer (some ⟨T, 0, none⟩)) (bstep cs) (Nat.lt_of_lt_of_le hbl hW.size)
        (fun j hj => by rw [hW.cell (p := ⟨b, off + j, none⟩) hbl, ← iL_at]; exact hcl j (by omega)) hc'.pos (by omega) (by omega) (bstep_ok hc'.pos n)
        (fun l W2 hW2 h0 hl => bnext_any T g l n cs W2 (boxed_keep hT hW2) (ht.below hW2 (Nat.le_refl _)) hc'.pos h8 h0 hl (by omega)))
      rw [CB.1, CB.2, HR.out] at CO
      rw [hlen] at AC TP ⊢
      have CO := Lib.hid CO
      clear hcap hcm hcl hv hl hc ha hq hc' hlen CB h8 hbl
      go_enter Try.func31, Try.ntmps31
      go_wp2_with (first | (go_at_call 20; refine AC.out.mono ?_; rintro e w' ⟨rfl, rfl⟩) | (go_at_call 55; refine IA.out.mono ?_; rintro e w' ⟨rfl, rfl⟩))
      refine TP.out.mono ?_
      rintro e w2 ⟨rfl, ht, b2⟩
      have hz2 := b2.size
      have hbx := Boxed.new w2 52 (.slice (some ⟨w.heap.size + 1, 0, none⟩) (n + 1) (n + 1))
      have ht3 := ht.below ((Below.refl _ w2).alloc (Nat.le_refl _) (.cells #[.slice (some ⟨w.heap.size + 1, 0, none⟩) (n + 1) (n + 1)] 52)) (Nat.le_refl _)
      have b3 : Below w.heap.size w (w2.alloc (.cells #[.slice (some ⟨w.heap.size + 1, 0, none⟩) (n + 1) (n + 1)] 52)) := b2.alloc hz2 _
      have C1 := CO.out _ w2.heap.size (w.heap.size + 1) b3 hbx ht3
      clear ht hbx ht3 CO
      go_wp2_with fail
      refine C1.out.mono ?_
      rintro e w4 ⟨u, rfl, ho, b4⟩
      go_wp2_with fail
      go_ret2
      exact ⟨_, ret_lb rfl HB.out.symm, ho.mono b3.size, nxt b3 b4⟩
    · have ha : amB a = false := by simpa using ha
      have HB := Lib.hid (fcB_no (askC_out (xs := xs) ha))
      have HR := Lib.hid (bcR_no (fcB_no (askC_out (xs := xs) ha)))
      rw [hc] at AC
      rw [ha] at IA
      clear hl hc ha
      go_enter Try.func31, Try.ntmps31
      go_wp2_with (first | (go_at_call 20; refine AC.out.mono ?_; rintro e w' ⟨rfl, rfl⟩) | (go_at_call 55; refine IA.out.mono ?_; rintro e w' ⟨rfl, rfl⟩))
      go_ret2
      exact ⟨_, ret_lb rfl HB.out.symm, by rw [HR.out]; exact ow_nil _ _, Below.refl _ _⟩
  · have hc : cnsB xs = false := by simpa using hc
    have HB := Lib.hid (fcB_no (askC_no (a := a) hc))
    have HR := Lib.hid (bcR_no (fcB_no (askC_no (a := a) hc)))
    rw [hc] at AC
    clear hl hc
    go_enter Try.func31, Try.ntmps31
    go_wp2_with (go_at_call 20; refine AC.out.mono ?_; rintro e w' ⟨rfl, rfl⟩)
    go_ret2
    exact ⟨_, ret_lb rfl HB.out.symm, by rw [HR.out]; exact ow_nil _ _, Below.refl _ _⟩
end Go.Proofs.Ytdgadabfahmdmaa
