/-
  The failures up to an amount, in the program, by a contract. Conditions: coins; an amount of at most 20000.
-/
import Derived.Test.YtdgadabfahmdmaaVfs
import Derived.Deep.AppendLies
namespace Go.Proofs.Ytdgadabfahmdmaa
open Go.RowKit

/-- An append of one number: the new slice lies where the old one lay or in a new block. -/
theorem wpList_append_apart {w : World} {ops : Array Oper} {rest : List Oper} {o : Oper} {a : Act} {Q : Exit → Act → World → Prop} (hgd : o.guard = none) (s x : Operand)
    (ho : o.op = .call { callee := .builtin .append, args := #[s, x], argTypes := #[22, 22] })
    (B : Nat) (v : Value) (ys : List Int) (hs : a.eval s = v) (hown : Ow w B v ys) (b : Nat) (n : Int) (hx : a.eval x = .slice (some ⟨b, 0, none⟩) 1 1) (hc : w.cell? ⟨b, 0, none⟩ = some (.int .i64 n)) (hlen : ys.length ≤ 1099511627776) (hB : B ≤ w.heap.size)
    (g0 : Nat) (ha : Apart v (some g0)) (hg0 : g0 < w.heap.size)
    (h : ∀ v' w', Ow w' B v' (ys ++ [n]) → w.grownBy w' v.ownBlock → Apart v' (some g0) → wpList Try.prog ops Q rest (a.put o.dst v') w') : wpList Try.prog ops Q (o :: rest) a w := by
  obtain ⟨i0, hi, hz0, hz1, hz2⟩ := info_parts Try.infoI
  have hc' : ∀ j, j < [n].length → w.cell? ⟨b, 0 + j, none⟩ = some (.int .i64 ([n].getD j 0)) := fun j hj => by
    obtain rfl : j = 0 := by simpa using hj
    exact hc
  refine wpList_plain hgd fun K hK => ?_
  refine wp_append_lies w s x 22 ho B 3 i0 (.int .i64 0) 1 8 Try.underlying22 hi hz0 hz1 hz2 rfl (by decide) v ys.length _ hs hown ⟨b, 0, none⟩ 1 1 ([n].map (Value.int .i64)) hx (by simp) (src_cells hc') ?_ (by omega) (by unfold maxLen; omega) (by omega) hB w.heap.size rfl ?_
  · intro u hu; simp at hu; subst hu; rfl
  · intro g cap w' h1 h2 h3 _
    refine hK _ _ (h _ w' (ow_app (xs := [n]) h1) h2 ?_)
    right
    show some g ≠ some g0
    intro e
    simp only [Option.some.injEq] at e
    rcases h3 with h3 | h3
    · rcases ha with h4 | h4
      · rw [h4] at h3; cases h3
      · exact h4 (by rw [h3, e])
    · omega
theorem Tp.kept {w w' : World} {g n : Nat} {F : Nat → Pd} {row : Option Nat} (h : Tp w g n F) (hg : w.grownBy w' row) (hne : some g ≠ row) : Tp w' g n F := by
  obtain ⟨c, hc, r⟩ := h
  exact ⟨c, (hg.block g (Array.getElem?_eq_some_iff.1 hc).1 hne).trans hc, r⟩
theorem apart_ne {v : Value} {g : Nat} (h : Apart v (some g)) : some g ≠ v.ownBlock := by
  rcases h with h | h
  · rw [h]; simp
  · exact fun e => h e.symm

set_option maxHeartbeats 8000000 in
set_option maxRecDepth 20000 in
theorem failuresUpTo_any (v : Value) (cs : List Nat) (m : Nat) (w : World) (h : Sp w v (iL cs)) (hc : Cn cs) (hm : m ≤ 20000) :
    Calls Try.prog 68 #[v, .int .i64 (m : Int)] w fun e w' => ∃ u, e = .returned u ∧ Ow w' w.heap.size u (iL (flT cs (m + 1))) ∧ Below w.heap.size w w' := by
  have hlen := iL_len cs
  have h8 := hc.eight
  have B1 : Below w.heap.size w (w.alloc (.cells #[] 3)) := (Below.refl _ w).alloc (Nat.le_refl _) _
  have GC := Lib.hid (fun (a : Nat) (W : World) (hW : Below w.heap.size w W) => implGreedyCount_any v (iL cs) a W (h.below hW (Nat.le_refl _)) (by omega))
  have hv := h
  obtain ⟨b, off, cap, rfl, hx⟩ := h
  have TP := Lib.hid (tablePaid_any (some ⟨b, off, none⟩) cap cs m _ ((hv.below B1 (Nat.le_refl _)).sv) hc.pos h8 (by omega) (fun c hcc => by have := hc.mem c hcc; omega))
  have PN := Lib.hid (fun (a : Nat) (ha : a ≤ m) => pdT_none hc.pos 0 (a := a) (by unfold big; omega))
  have PF := Lib.hid (fun (a : Nat) (ha : a ≤ m) hf => (pdT_few hc.pos 0 (a := a) (by unfold big; omega) hf).1)
  have PZ := Lib.hid (fun (a : Nat) => (pdT_ok cs 0 8 hc.pos (by omega) a).z)
  have FB := Lib.hid (fun a => fo_big hc.pos a)
  have GB := Lib.hid (fun (a : Nat) (ha : a ≤ m) => gcB_of hc (n := a) (by omega))
  have GK := Lib.hid (fun (a : Nat) (ha : a ≤ m) (hz : (gr cs a).2 = 0) => show gkR (iL cs) a = (tot (gr cs a).1 : Nat) by unfold gkR; rw [gcL_of hc (by omega) hz])
  have o1 := ow_empty w
  have FL0 : Hid (iL (flT cs 0) = []) := Lib.hid rfl
  simp only [World.size_alloc] at TP
  clear hx hv hc hlen
  go_enter Try.func68, Try.ntmps68
  go_wp2_with fail
  refine TP.out.mono ?_
  rintro e w1 ⟨rfl, ht, b1⟩
  have o1 := o1.below b1 (by simp)
  have b1 : Below w.heap.size w w1 := B1.trans (b1.mono (by simp))
  have hap : Apart (.slice (some ⟨w.heap.size, 0, none⟩) 0 0) (some (w.heap.size + 1 + 1)) := by
    right
    show some w.heap.size ≠ some _
    intro e
    simp only [Option.some.injEq] at e
    omega
  clear TP B1
  go_wp2
  go_loopw [5, 15] (fun o q wr => ∃ k : Nat, k ≤ m + 1 ∧ q = .int .i64 (k : Int) ∧ Ow wr w.heap.size o (iL (flT cs k)) ∧ Apart o (some (w.heap.size + 1 + 1)) ∧ Tp wr (w.heap.size + 1 + 1) (m + 1) (pdT 0 cs) ∧ Below w.heap.size w wr) (fun _ q _ => m + 1 - (intOf q).toNat)
  case atStart => exact ⟨0, Nat.zero_le _, rfl, by rw [FL0.out]; exact o1, hap, ht, b1⟩
  case round =>
    clear o1 hap ht b1
    obtain ⟨k, hk, rfl, ho, hap, ht, hb⟩ := hrel
    have hz := hb.size
    have hln := flT_ilen cs k
    have hgl := ht.lt
    by_cases hlt : k < m + 1
    · obtain ⟨P, eP⟩ : ∃ P, pdT 0 cs k = P := ⟨_, rfl⟩
      obtain ⟨c1, c2, c3⟩ := tp_load ht (j := k) hlt eP
      have pn := PN.out k (by omega)
      have pf := PF.out k (by omega)
      have pz := PZ.out k
      have fb := FB.out k
      rw [eP] at pn pf pz
      have j0 : (0 : Int) ≤ k := by omega
      have j1 : (k : Int) < (m : Int) + 1 := by omega
      clear eP
      by_cases hw : P.w = 0
      · have := pz hw
        subst this
        have hf : ¬ fo cs k < big := by have := pn.1 hw; omega
        have E := Lib.hid (flT_iL' cs k (fails_free hf))
        simp only [Pd.z] at c1 c2 c3
        have ht2 := ht.kept (World.grownBy_alloc wr (.cells #[.int .i64 0, .int .i64 0, .int .i64 0] 51) none) (by simp)
        clear pn pf pz fb hw hf ht
        go_wp2
        go_roundw
        case rel => exact ⟨k + 1, by omega, by go_num, by rw [E.out]; exact ho.alloc _, hap, ht2, hb.alloc hz _⟩
        case measure => simp only [intOf]; omega
      · have hf : fo cs k < big := by
          apply Classical.byContradiction
          intro gg
          exact hw (pn.2 (by omega))
        have e1 := pf hf
        obtain ⟨x, ex⟩ : ∃ x, P.w = x := ⟨_, rfl⟩
        obtain ⟨y, ey⟩ : ∃ x, P.f = x := ⟨_, rfl⟩
        obtain ⟨z, ez⟩ : ∃ x, P.k = x := ⟨_, rfl⟩
        rw [ex] at c1 hw
        rw [ey] at c2 e1
        rw [ez] at c3
        have d : ((x : Int) == 0) = false := by rw [beq_eq_false_iff_ne]; omega
        have ht2 := ht.kept (World.grownBy_alloc wr (.cells #[.int .i64 (x : Int), .int .i64 (y : Int), .int .i64 (z : Int)] 51) none) (by simp)
        have ho2 := ho.alloc (.cells #[.int .i64 (x : Int), .int .i64 (y : Int), .int .i64 (z : Int)] 51)
        have hb2 := hb.alloc hz (.cells #[.int .i64 (x : Int), .int .i64 (y : Int), .int .i64 (z : Int)] 51)
        have hbx : (wr.alloc (.cells #[.int .i64 (x : Int), .int .i64 (y : Int), .int .i64 (z : Int)] 51)).heap[wr.heap.size]? = some (.cells #[.int .i64 (x : Int), .int .i64 (y : Int), .int .i64 (z : Int)] 51 (0, 0)) := heap_alloc_new wr _
        have GA := Lib.hid (GC.out k _ hb2)
        rw [GB.out k (by omega)] at GA
        clear pn pf pz fb ex ey ez ho hb ht
        have YES : Hid (decide (Fails cs k) = true → ∀ (L : List Int), iL (flT cs k) = L → iL (flT cs (k + 1)) = L ++ [(k : Int)]) := Lib.hid (fun hF L hL => by rw [← hL]; exact flT_iL cs k hF)
        by_cases hz2 : (gr cs k).2 = 0
        · have dz : decide ((gr cs k).2 = 0) = true := by simpa using hz2
          rw [dz, GK.out k (by omega) hz2] at GA
          have AN := fails_few hf hz2
          rw [← e1] at AN
          obtain ⟨t, et⟩ : ∃ t, tot (gr cs k).1 = t := ⟨_, rfl⟩
          rw [et] at GA AN
          by_cases hyt : y < t
          · have hF : decide (Fails cs k) = true := by rw [AN]; simpa using hyt
            have hy2 : (y : Int) < (t : Int) := by omega
            obtain ⟨L, eL⟩ : ∃ L, iL (flT cs k) = L := ⟨_, rfl⟩
            have E := Lib.hid (YES.out hF L eL)
            rw [eL] at ho2 hln
            clear AN hf hz2 dz et hyt hF eL YES e1
            go_wp2_with fail
            refine GA.out.mono ?_
            rintro e w2 ⟨rfl, b2⟩
            have ho3 := ho2.below b2 (Nat.le_refl _)
            have ht3 := ht2.below b2 (Nat.le_refl _)
            have hb3 := nxt hb2 b2
            have hz3 := hb3.size
            have hgl3 := ht3.lt
            have q1 : w2.cell? ⟨wr.heap.size, 1, none⟩ = some (.int .i64 (y : Int)) := by
              rw [b2.cell (p := ⟨wr.heap.size, 1, none⟩) (by simp)]; simp only [World.cell?, hbx]; rfl
            clear ho2 ht2 hb2 b2 hbx GA
            go_wp2_with (at_builtin; refine wpList_append_apart rfl _ _ rfl w.heap.size _ L rfl (ho3.alloc _) _ (k : Int) rfl (by simp only [World.cell?, heap_alloc_new]; rfl) (by omega) (by simp; omega) (w.heap.size + 1 + 1) hap (by simp; omega) ?_; intro v' w3 h3 g3 a3)
            have b9 := (hb3.alloc hz3 (.cells #[.int .i64 (k : Int)] 3)).trans ((ho3.alloc (.cells #[.int .i64 (k : Int)] 3)).grown (by simp; omega) g3)
            have t9 := (ht3.kept (World.grownBy_alloc w2 (.cells #[.int .i64 (k : Int)] 3) none) (by simp)).kept g3 (apart_ne hap)
            have o9 : Ow w3 w.heap.size v' (iL (flT cs (k + 1))) := by rw [E.out]; exact h3
            clear ho3 ht3 hb3 g3 h3 hap q1
            go_wp2
            go_roundw
            case rel => exact ⟨k + 1, by omega, by go_num, o9, a3, t9, b9⟩
            case measure => simp only [intOf]; omega
          · have hF : decide (Fails cs k) = false := by rw [AN]; simpa using hyt
            have hy2 : ¬ (y : Int) < (t : Int) := by omega
            have E := Lib.hid (flT_iL' cs k hF)
            clear AN hf hz2 dz et hyt hF YES e1
            go_wp2_with fail
            refine GA.out.mono ?_
            rintro e w2 ⟨rfl, b2⟩
            have ho3 := ho2.below b2 (Nat.le_refl _)
            have ht3 := ht2.below b2 (Nat.le_refl _)
            have hb3 := nxt hb2 b2
            have q1 : w2.cell? ⟨wr.heap.size, 1, none⟩ = some (.int .i64 (y : Int)) := by
              rw [b2.cell (p := ⟨wr.heap.size, 1, none⟩) (by simp)]; simp only [World.cell?, hbx]; rfl
            clear ho2 ht2 hb2 b2 hbx GA
            go_wp2
            go_roundw
            case rel => exact ⟨k + 1, by omega, by go_num, by rw [E.out]; exact ho3, hap, ht3, hb3⟩
            case measure => simp only [intOf]; omega
        · have dz : decide ((gr cs k).2 = 0) = false := by simpa using hz2
          rw [dz] at GA
          obtain ⟨L, eL⟩ : ∃ L, iL (flT cs k) = L := ⟨_, rfl⟩
          have E := Lib.hid (YES.out (fails_rest hf hz2) L eL)
          rw [eL] at ho2 hln
          clear hf hz2 dz eL YES e1
          go_wp2_with fail
          refine GA.out.mono ?_
          rintro e w2 ⟨rfl, b2⟩
          have ho3 := ho2.below b2 (Nat.le_refl _)
          have ht3 := ht2.below b2 (Nat.le_refl _)
          have hb3 := nxt hb2 b2
          have hz3 := hb3.size
          have hgl3 := ht3.lt
          clear ho2 ht2 hb2 b2 hbx GA
          go_wp2_with (at_builtin; refine wpList_append_apart rfl _ _ rfl w.heap.size _ L rfl (ho3.alloc _) _ (k : Int) rfl (by simp only [World.cell?, heap_alloc_new]; rfl) (by omega) (by simp; omega) (w.heap.size + 1 + 1) hap (by simp; omega) ?_; intro v' w3 h3 g3 a3)
          have b9 := (hb3.alloc hz3 (.cells #[.int .i64 (k : Int)] 3)).trans ((ho3.alloc (.cells #[.int .i64 (k : Int)] 3)).grown (by simp; omega) g3)
          have t9 := (ht3.kept (World.grownBy_alloc w2 (.cells #[.int .i64 (k : Int)] 3) none) (by simp)).kept g3 (apart_ne hap)
          have o9 : Ow w3 w.heap.size v' (iL (flT cs (k + 1))) := by rw [E.out]; exact h3
          clear ho3 ht3 hb3 g3 h3 hap
          go_wp2
          go_roundw
          case rel => exact ⟨k + 1, by omega, by go_num, o9, a3, t9, b9⟩
          case measure => simp only [intOf]; omega
    · have hke : k = m + 1 := by omega
      subst hke
      go_wp2
      go_ret
      exact ⟨_, rfl, ho, hb⟩

end Go.Proofs.Ytdgadabfahmdmaa
