/-
  A deck of cards in the program, told as Cards: the lists of its numbers, by contract. Condition: at most 12 cards.
-/
import Derived.Test.YtgojlabkngnkdaaQe
import Derived.Test.YtgojlabkngnkdaaQow
import Derived.Deep.RegionLaw
import Derived.Deep.AppendLies
import Derived.Deep.RegionHeldLaw
import Derived.Deep.MidRow
import Derived.Deep.CutRange
namespace Go.Proofs.Ytgojlabkngnkdaa
open Go.RowKit

/-- One row more. -/
theorem wp_append_row1 {w : World} {o : Oper} {a : Act} {K : Act → World → Prop} {Q : Exit → Act → World → Prop} (s x : Operand)
    (ho : o.op = .call { callee := .builtin .append, args := #[s, x], argTypes := #[34, 34] })
    (B D : Nat) (v : Value) (pl : List (List Int)) (hs : a.eval s = v) (hr : Owa w B D v pl) (g : Nat) (u : Value) (m : List Int) (hx : a.eval x = .slice (some ⟨g, 0, none⟩) 1 1) (hgc : w.cell? ⟨g, 0, none⟩ = some u)
    (hu : Ow w B u m) (hD : ∀ k, u.ownBlock = some k → D ≤ k) (hlen : pl.length + 1 ≤ 1073741824) (hB : B ≤ w.heap.size)
    (h : ∀ v' w', Owa w' B w'.heap.size v' (pl ++ [m]) → Below B w w' → w.grownBy w' v.ownBlock → K (a.put o.dst v') w') : o.wp Try.prog a w K Q := by
  have hi : ∃ i, Try.prog.info? 22 = some i ∧ i.zero = some (.slice none 0 0) ∧ i.size = 1 ∧ i.bytes = 24 := by
    have := Try.infoL
    cases hq : Try.prog.info? 22 with
    | none => rw [hq] at this; cases this
    | some i => rw [hq] at this; simp at this; exact ⟨i, rfl, this.1, this.2.1, this.2.2⟩
  obtain ⟨i0, hi, hz0, hz1, hz2⟩ := hi
  obtain ⟨vals, hr⟩ := hr
  have hl : vals.length = pl.length := by have := hr.out.1; omega
  have hn : ∀ (j : Nat) y, ([u] : List Value)[j]? = some y → w.cell? ((⟨g, 0, none⟩ : Addr).add j) = some y := by
    intro j y hy
    cases j with
    | zero =>
      have e : u = y := by simpa using hy
      rw [← e]; simpa [Addr.add] using hgc
    | succ j => simp at hy
  have ho1 : ∀ y ∈ ([u] : List Value), y.oneCell' = true := by intro y hy; rw [List.mem_singleton.1 hy]; exact hu.one
  obtain ⟨v', w', r, k2, k3, _⟩ := run_append_own (P := Try.prog) w B 34 o.type 22 i0 (.slice none 0 0) 1 24 Try.underlying34 hi hz0 hz1 hz2 rfl (by decide) v pl.length vals hr.out ⟨g, 0, none⟩ 1 1 [u] (by simp) hn ho1 (by unfold maxLen; omega) (by omega) hB
  have hbel : Below B w w' := (Below.refl B w).grown k3 hB fun k hk => (World.ownsRow.lt hr.out k hk).1
  unfold Oper.wp execOp
  simp only [ho, resolve, invoke, builtin, Sem.run_bind, Sem.run_pure, Result.andThen_ok, List.map_toArray, List.map_cons, List.map_nil, hs, hx, r]
  refine (h v' w' ⟨vals ++ [u], ?_, fun j hj => ?_, fun i j hij hj => ?_, fun j k hj hk => ?_⟩ hbel k3)
  · rw [List.length_append]; exact k2
  · have kp : ∀ {y : Value} {xs : List Int}, Ow w B y xs → Ow w' B y xs := fun q => q.kept k3 (own_ne hr.out q (by decide))
    rw [List.length_append, List.length_singleton] at hj
    by_cases e : j < pl.length
    · rw [getD_app_lt _ _ _ (by omega)]
      have := kp (hr.row j e)
      unfold rowL at this ⊢
      rw [getD_app_lt _ _ _ e]; exact this
    · obtain rfl : j = pl.length := by omega
      rw [getD_app_ge _ _ _ (by omega), hl, Nat.sub_self]
      unfold rowL
      rw [getD_app_ge _ _ _ (Nat.le_refl _), Nat.sub_self]
      exact kp hu
  · rw [List.length_append, List.length_singleton] at hj
    rw [getD_app_lt _ _ _ (by omega)]
    by_cases e : j < pl.length
    · rw [getD_app_lt _ _ _ (by omega)]; exact hr.sep i j hij e
    · obtain rfl : j = pl.length := by omega
      rw [getD_app_ge vals _ _ (by omega), hl, Nat.sub_self]
      cases eb : (vals.getD i undef).ownBlock with
      | none => exact .inl rfl
      | some k =>
        have h1 := hr.low i k hij eb
        exact .inr fun e2 => by have := hD k e2.symm; omega
  · rw [List.length_append, List.length_singleton] at hj
    by_cases e : j < pl.length
    · rw [getD_app_lt _ _ _ (by omega)] at hk
      have := (World.ownsRow.lt (hr.row j e) k hk).2
      have := k3.size
      omega
    · obtain rfl : j = pl.length := by omega
      rw [getD_app_ge _ _ _ (by omega), hl, Nat.sub_self] at hk
      have := (World.ownsRow.lt hu k hk).2
      have := k3.size
      omega

theorem step_append_row1 {w : World} {ops : Array Oper} {o : Oper} {a : Act} {K : Act → World → Prop} {Q : Exit → Act → World → Prop} {E : Prop} (hgd : o.guard = none) (s x : Operand)
    (ho : o.op = .call { callee := .builtin .append, args := #[s, x], argTypes := #[34, 34] })
    (B D : Nat) (v : Value) (pl : List (List Int)) (hs : a.eval s = v) (hr : Owa w B D v pl) (g : Nat) (u : Value) (m : List Int) (hx : a.eval x = .slice (some ⟨g, 0, none⟩) 1 1) (hgc : w.cell? ⟨g, 0, none⟩ = some u)
    (hu : Ow w B u m) (hD : ∀ k, u.ownBlock = some k → D ≤ k) (hlen : pl.length + 1 ≤ 1073741824) (hB : B ≤ w.heap.size)
    (h : ∀ v' w', Owa w' B w'.heap.size v' (pl ++ [m]) → Below B w w' → w.grownBy w' v.ownBlock → K (a.put o.dst v') w') :
    if Region.wanted o (yielded ops a.tmps) = true then Oper.wp Try.prog o a w K Q else E := by
  have hw : Region.wanted o (yielded ops a.tmps) = true := by simp [Region.wanted, hgd]
  rw [if_pos hw]
  exact wp_append_row1 s x ho B D v pl hs hr g u m hx hgc hu hD hlen hB h

theorem Ow.own_lo {w : World} {B : Nat} {v : Value} {ys : List Int} (h : Ow w B v ys) : ∀ k, v.ownBlock = some k → B ≤ k := fun k hk => (World.ownsRow.lt h k hk).1
theorem Try.cardsU : ∃ fs, Try.prog.underlying 36 = some (.struct fs) := ⟨_, Try.underlying36⟩
theorem Try.cardsI : (Try.prog.info? 36).map (·.size) = some 2 := by kernel_rfl
theorem Owa.out_lt {w : World} {B D : Nat} {v : Value} {pl : List (List Int)} (h : Owa w B D v pl) : ∀ k, v.ownBlock = some k → k < w.heap.size := fun k hk => by
  obtain ⟨vals, h⟩ := h
  exact (World.ownsRow.lt h.out k hk).2
theorem range_of_row {W : World} {b : Nat} {cs : List Value} {t : TypeId} (h : W.heap[b]? = some (.cells cs.toArray t (0, 0))) : W.rangeAt b 0 cs := fun j v hv => by
  simp only [World.cell?, h, Nat.zero_add]
  simpa using hv
theorem range_bel {W W' : World} {b o B : Nat} {cs : List Value} (h : W.rangeAt b o cs) (k : Below B W W') (hb : b < B) : W'.rangeAt b o cs := fun j v hv =>
  (k.cell (p := ⟨b, o + j, none⟩) hb).trans (h j v hv)
theorem range_set {W : World} {b o g i : Nat} {cs : List Value} (h : W.rangeAt b o cs) (hb : b ≠ g) (u : Value) : (W.setCell ⟨g, i, none⟩ u).rangeAt b o cs := fun j v hv => by
  have e := h j v hv
  rw [← e]
  simp only [World.cell?, heap_setCell_other W ⟨g, i, none⟩ b u hb]
theorem pair2_set {w : World} {g : Nat} {x y : Value} {t : TypeId} (h : w.heap[g]? = some (.cells #[x, y] t (0, 0))) (u : Value) : (w.setCell ⟨g, 1, none⟩ u).heap[g]? = some (.cells #[x, u] t (0, 0)) :=
  heap_setCell_same w g 1 _ _ u h
theorem take_sl {ps : List (Int → Bool)} {k : Nat} {q : Int → Bool} (h : ps[k]? = some q) : (ps.take k).map sL ++ [sL q] = (ps.take (k + 1)).map sL := by
  rw [List.take_add_one, h, List.map_append]; rfl

set_option maxHeartbeats 8000000 in
set_option maxRecDepth 100000 in
theorem told_any (n : Int) (v : Value) (ps : List (Int → Bool)) (w : World) (h : Dr w v ps) (hl : ps.length ≤ 12) :
    Calls Try.prog 44 #[.agg #[.int .i64 n, v]] w fun e w' => ∃ u, e = .returned (.agg #[.int .i64 n, u]) ∧ Owa w' w.heap.size w'.heap.size u (ps.map sL) ∧ Below w.heap.size w w' := by
  obtain ⟨p, cap, rfl⟩ := h.form
  obtain ⟨W, eW⟩ : ∃ W, ((w.alloc (.cells #[.int .i64 n, .slice p ps.length cap] 69)).alloc (.cells #[.int .i64 0, .slice none 0 0] 36)).alloc (.cells #[.int .i64 n, .slice none 0 0] 36) = W := ⟨_, rfl⟩
  have hb0 : Below w.heap.size w W := by rw [← eW]; exact (((Below.refl _ w).alloc (Nat.le_refl _) _).alloc (by simp) _).alloc (by simp; omega) _
  have HZ : Hid (W.heap.size = w.heap.size + 1 + 1 + 1) := Lib.hid (by rw [← eW]; simp)
  have k0 : W.heap[w.heap.size]? = some (.cells #[.int .i64 n, .slice p ps.length cap] 69 (0, 0)) := by rw [← eW]; exact blk_0 _ _ _ _
  have k1 : W.heap[w.heap.size + 1]? = some (.cells #[.int .i64 0, .slice none 0 0] 36 (0, 0)) := by rw [← eW]; exact blk_1 _ _ _ _
  have k2 : W.heap[w.heap.size + 1 + 1]? = some (.cells #[.int .i64 n, .slice none 0 0] 36 (0, 0)) := by rw [← eW]; exact blk_2 _ _ _ _
  have H := Lib.hid h
  clear h
  go_enter Try.func44, Try.ntmps44
  have c00 := (cells2_of k0).1
  have c01 := (cells2_of k0).2.1
  obtain ⟨c20, c21, f20, f21⟩ := cells2_of k2
  go_wp2
  clear eW c00 c01 c20 c21 f20 f21
  obtain ⟨W1, eW1⟩ : ∃ W1, W.setCell ⟨w.heap.size + 1 + 1, 1, none⟩ (.slice none 0 0) = W1 := ⟨_, rfl⟩
  have hb1 : Below w.heap.size w W1 := by rw [← eW1]; exact hb0.setCell (p := ⟨w.heap.size + 1 + 1, 1, none⟩) (by show w.heap.size ≤ w.heap.size + 1 + 1; omega) _
  have m2 : W1.heap[w.heap.size + 1 + 1]? = some (.cells #[.int .i64 n, .slice none 0 0] 36 (0, 0)) := by rw [← eW1]; exact pair2_set k2 _
  have m1 : W1.heap[w.heap.size + 1]? = some (.cells #[.int .i64 0, .slice none 0 0] 36 (0, 0)) := by rw [← eW1, heap_setCell_other _ _ _ _ (by show w.heap.size + 1 ≠ w.heap.size + 1 + 1; omega)]; exact k1
  have mz : w.heap.size + 1 + 1 + 1 ≤ W1.heap.size := by rw [← eW1]; simp; have := HZ.out; omega
  rw [eW1]
  clear eW1 k0 k1 k2 hb0
  go_loopw [12] (fun i wr => ∃ (k : Nat) (s : Value), k ≤ ps.length ∧ i = .int .i64 k ∧ Owa wr (w.heap.size + 1 + 1 + 1) wr.heap.size s ((ps.take k).map sL) ∧ wr.heap[w.heap.size + 1 + 1]? = some (.cells #[.int .i64 n, s] 36 (0, 0)) ∧ wr.heap[w.heap.size + 1]? = some (.cells #[.int .i64 0, .slice none 0 0] 36 (0, 0)) ∧ Below w.heap.size w wr ∧ w.heap.size + 1 + 1 + 1 ≤ wr.heap.size) (fun i _ => ps.length - (intOf i).toNat)
  case atStart => exact ⟨0, _, Nat.zero_le _, rfl, Owa.nil _ _ _, m2, m1, hb1, mz⟩
  case round =>
    clear m1 m2 hb1 mz
    obtain ⟨k, s, hk, rfl, hD, h2, h1, hb, zW⟩ := hrel
    have hkl : ((ps.take k).map sL).length = k := by simp; omega
    by_cases hlt : k < ps.length
    · obtain ⟨g, o, rfl, hg, hc⟩ := H.out.row (by omega)
      obtain ⟨q, hq⟩ : ∃ q, ps[k]? = some q := ⟨_, List.getElem?_eq_getElem hlt⟩
      have hpart : ∀ j v, (bA q)[j]? = some v → wr.cell? ⟨g, o + k * 128 + j, none⟩ = some v := fun j v hv => by
        have hj : j < 128 := by
          by_cases e : j < 128
          · exact e
          · rw [Array.getElem?_eq_none (by rw [bA_size]; omega)] at hv; cases hv
        rw [bA_at q hj] at hv
        have := (hb.cell (p := ⟨g, o + (k * 128 + j), none⟩) hg).trans (hc k q hq j hj)
        rw [Nat.add_assoc, this]
        exact hv
      have HP := Lib.hid hpart
      have HCs : Hid ((bA q).size = 128) := Lib.hid (bA_size q)
      have HCo : Hid ((bA q).all (·.oneCell') = true) := Lib.hid (bA_one q)
      have LI := Lib.hid (fun W => list_any q W)
      have HT := Lib.hid (take_sl hq)
      obtain ⟨R, eC⟩ : ∃ R : List Value, bA q = R.toArray := ⟨(bA q).toList, by simp⟩
      obtain ⟨pl, epl⟩ : ∃ pl, (ps.take k).map sL = pl := ⟨_, rfl⟩
      obtain ⟨L, eL⟩ : ∃ L, sL q = L := ⟨_, rfl⟩
      rw [eC] at HP HCs HCo LI
      rw [eL] at LI HT
      rw [epl] at hD HT hkl
      subst hkl
      obtain ⟨Z, eZ⟩ : ∃ Z, pl ++ [L] = Z := ⟨_, rfl⟩
      rw [eZ] at HT
      have EZ := Lib.hid eZ
      clear hpart hc hq eC epl eL eZ
      obtain ⟨sp, sc, rfl⟩ := hD.form
      have OB := Lib.hid hD.out_lt
      obtain ⟨X, eX⟩ : ∃ X, wr.alloc (.cells R.toArray 82) = X := ⟨_, rfl⟩
      have hX : Below wr.heap.size wr X := by rw [← eX]; exact (Below.refl _ _).alloc (Nat.le_refl _) _
      have zX : wr.heap.size < X.heap.size := by rw [← eX]; simp
      have h2X := (hX.block (w.heap.size + 1 + 1) (by omega)).trans h2
      obtain ⟨c20, c21, f20, f21⟩ := cells2_of h2X
      have RX : X.rangeAt wr.heap.size 0 R := by rw [← eX]; exact range_of_row (heap_alloc_new wr _)
      have hiR : (Try.prog.info? 82).map (·.size) = some R.length := by have := HCs.out; simp only [List.size_toArray] at this; rw [this]; exact Try.setI
      have HIR := Lib.hid hiR
      clear hiR
      have RX := Lib.hid RX
      have HB := Lib.hid (nxt hb hX)
      have H1 := Lib.hid ((hX.block (w.heap.size + 1) (by omega)).trans h1)
      have H2 := Lib.hid h2X
      have HD := Lib.hid (hD.below hX (Nat.le_refl _))
      have EX := Lib.hid eX
      clear hb h1 h2 hD eX h2X hX
      go_wp2_with (first
        | (refine wl_load_part rfl 82 _ rfl g (o + pl.length * 128) rfl R.toArray _ (by exact HP.out) Try.setU rfl (by rw [HCs.out]; exact Try.setI) ?_)
        | (refine wpList_store_row rfl 82 _ _ rfl wr.heap.size R.toArray rfl rfl 82 Try.zeroCells82 (by exact heap_alloc_new wr _) (by rw [HCs.out]; exact Try.setI) (by rw [HCs.out]; exact Try.zcS) HCo.out ?_; rw [World.setRow_alloc_new, EX.out]))
      have hiR := HIR.out
      have huC := Try.setU
      refine wp_region_held_drew (S := fun w' => w'.rangeAt wr.heap.size 0 R) (by kernel_rfl) (range_bel RX.out (Below.refl _ _).drew zX) (fun hH0 => ?_)
      refine wpAnyH_take (i := 0) (v := .pointer (some ⟨w.heap.size + 1 + 1, 1, none⟩)) rfl (by kernel_rfl) (by kernel_rfl) (by kernel_rfl) (fun _ _ _ h => h) (Or.inl ⟨by rfl, fun w hSw => by go_simp⟩) hH0 ?_
      simp only [Act.put]
      refine wpAnyH_take (i := 2) (v := .agg R.toArray) rfl (by kernel_rfl) (by kernel_rfl) (by kernel_rfl) (fun _ _ _ h => h) (yieldsIf_load_mid rfl 82 _ rfl wr.heap.size 0 rfl R _ (fun w h => h) Try.setU rfl hiR) hH0 ?_
      simp only [Act.put]
      refine wpAnyH_ready (rs := [1, 3]) (by kernel_rfl) (by simp) (AllReadyH.cons rfl (fun K hK => ?_) (AllReadyH.cons rfl (fun K hK => ?_) AllReadyH.nil))
      · go_simp
        refine hK.out _ _ (by exact hH0) (fun hH1 => ?_)
        clear hK K
        refine wpAnyH_ready (rs := [3]) (by kernel_rfl) (by simp) (AllReadyH.cons rfl (fun K hK => ?_) AllReadyH.nil)
        go_simp
        go_at_call 64; refine (LI.out _).mono ?_; rintro e w1 ⟨u, rfl, o1, b1⟩; have B1 : Below X.heap.size X w1 := (Below.refl _ _).drew.trans b1; have z1 := B1.size; have D1 := HD.out.below B1 (Nat.le_refl _); have O1 : Ow w1 X.heap.size u L := o1; have K2 := (B1.block (w.heap.size + 1 + 1) (by omega)).trans H2.out; obtain ⟨e20, e21, g20, g21⟩ := cells2_of K2; obtain ⟨up, uc, rfl, -⟩ := O1.sv; have R1 := Lib.hid (range_bel RX.out B1 zX); have K2A : (w1.alloc (.cells #[.slice up L.length uc] 22)).heap[w.heap.size + 1 + 1]? = _ := (heap_alloc_old _ _ (by omega)).trans K2; obtain ⟨r20, r21, -, -⟩ := cells2_of K2A; clear b1 o1
        refine hK.out _ _ (by exact R1.out) (fun hH1 => ?_)
        clear hK K
        refine wpAnyH_ready (rs := [4]) (by kernel_rfl) (by simp) (AllReadyH.cons rfl (fun K hK => ?_) AllReadyH.nil)
        go_simp
        refine hK.out _ _ (by exact range_bel R1.out ((Below.refl _ _).alloc (Nat.le_refl _) _) (by omega)) (fun hH2 => ?_)
        clear hK K
        refine wpAnyH_ready (rs := [5]) (by kernel_rfl) (by simp) (AllReadyH.cons rfl (fun K hK => ?_) AllReadyH.nil)
        refine step_append_row1 rfl (.tmp 17) (.tmp 20) rfl (w.heap.size + 1 + 1 + 1) wr.heap.size (.slice sp pl.length sc) pl rfl (by exact D1.below ((Below.refl _ _).alloc (Nat.le_refl _) _) (Nat.le_refl _)) w1.heap.size (.slice up L.length uc) L rfl (by simp) ((O1.below ((Below.refl _ _).alloc (Nat.le_refl _) _) (Nat.le_refl _)).mono (by omega)) (fun k hk => by have := O1.own_lo k hk; omega) (by omega) (by simp; omega) ?_; intro v3 w3 h3 b3 g3; rw [EZ.out] at h3; have K3 := (g3.block (w.heap.size + 1 + 1) (by simp; omega) (fun e => by obtain ⟨vals, D1⟩ := D1; have := (World.ownsRow.lt D1.out _ e.symm).1; omega)).trans ((heap_alloc_old _ _ (by omega)).trans K2); obtain ⟨i20, i21, j20, j21⟩ := cells2_of K3; obtain ⟨vp, vc, rfl⟩ := h3.form; have R3 : Hid (w3.rangeAt wr.heap.size 0 R) := Lib.hid (fun j v hv => by have h9 := range_bel R1.out ((Below.refl _ _).alloc (Nat.le_refl _) (.cells #[.slice up L.length uc] 22)) (by omega) j v hv; rw [← h9]; simp only [World.cell?]; rw [g3.block wr.heap.size (by simp; omega) (fun e => by have := OB.out _ e.symm; omega)])
        refine hK.out _ _ (by exact R3.out) (fun hH3 => ?_)
        clear hK K
        simp only [Act.put]
        refine wpAnyH_take (i := 6) (v := .pointer (some ⟨w.heap.size + 1 + 1, 1, none⟩)) rfl (by kernel_rfl) (by kernel_rfl) (by kernel_rfl) (fun _ _ _ h => h) (Or.inl ⟨by rfl, fun w hSw => by go_simp⟩) (by assumption) ?_
        simp only [Act.put]
        refine wpAnyH_ready (rs := [7]) (by kernel_rfl) (by simp) (AllReadyH.cons rfl (fun K hK => ?_) AllReadyH.nil)
        go_simp
        refine hK.out _ _ (by exact range_set R3.out (by omega) _) (fun hH4 => ?_)
        clear hK K
        refine wpAnyH_done (by kernel_rfl) ?_ _
        have z3 := g3.size
        have HB3 := Lib.hid ((nxt HB.out B1).trans ((((Below.refl _ w1).alloc (Nat.le_refl _) (.cells #[.slice up L.length uc] 22)).mono (show w.heap.size ≤ w1.heap.size by omega)).trans (b3.mono (by omega))))
        have H13 := Lib.hid ((b3.block (w.heap.size + 1) (by omega)).trans ((heap_alloc_old _ _ (by omega)).trans ((B1.block (w.heap.size + 1) (by omega)).trans H1.out)))
        have H23 := Lib.hid K3
        have H33 := Lib.hid h3
        have z4 : w.heap.size + 1 + 1 + 1 ≤ w3.heap.size := by simp at z3; omega
        clear b3 g3 h3 K3 K2 K2A D1 B1 O1 e20 e21 g20 g21 r20 r21 c20 c21 f20 f21 HD HB H1 H2 RX R1 R3 OB
        first | go_roundw | (go_wp2; go_roundw)
        case rel => exact ⟨pl.length + 1, _, by omega, by go_num, by rw [← HT.out]; exact (H33.out.abv ((Abv.refl _ _).setCell (g := w.heap.size + 1 + 1) (by omega) 1 _)).mono (Nat.le_refl _) (by simp), pair2_set H23.out _, by rw [heap_setCell_other _ _ _ _ (by show w.heap.size + 1 ≠ w.heap.size + 1 + 1; omega)]; exact H13.out, HB3.out.setCell (p := ⟨w.heap.size + 1 + 1, 1, none⟩) (by show w.heap.size ≤ w.heap.size + 1 + 1; omega) _, by simp; omega⟩
        case measure => simp only [intOf]; omega
      · go_simp
        go_at_call 64; refine (LI.out _).mono ?_; rintro e w1 ⟨u, rfl, o1, b1⟩; have B1 : Below X.heap.size X w1 := (Below.refl _ _).drew.trans b1; have z1 := B1.size; have D1 := HD.out.below B1 (Nat.le_refl _); have O1 : Ow w1 X.heap.size u L := o1; have K2 := (B1.block (w.heap.size + 1 + 1) (by omega)).trans H2.out; obtain ⟨e20, e21, g20, g21⟩ := cells2_of K2; obtain ⟨up, uc, rfl, -⟩ := O1.sv; have R1 := Lib.hid (range_bel RX.out B1 zX); have K2A : (w1.alloc (.cells #[.slice up L.length uc] 22)).heap[w.heap.size + 1 + 1]? = _ := (heap_alloc_old _ _ (by omega)).trans K2; obtain ⟨r20, r21, -, -⟩ := cells2_of K2A; clear b1 o1
        refine hK.out _ _ (by exact R1.out) (fun hH1 => ?_)
        clear hK K
        refine wpAnyH_ready (rs := [1, 4]) (by kernel_rfl) (by simp) (AllReadyH.cons rfl (fun K hK => ?_) (AllReadyH.cons rfl (fun K hK => ?_) AllReadyH.nil))
        · go_simp
          refine hK.out _ _ (by exact R1.out) (fun hH2 => ?_)
          clear hK K
          refine wpAnyH_ready (rs := [4]) (by kernel_rfl) (by simp) (AllReadyH.cons rfl (fun K hK => ?_) AllReadyH.nil)
          go_simp
          refine hK.out _ _ (by exact range_bel R1.out ((Below.refl _ _).alloc (Nat.le_refl _) _) (by omega)) (fun hH5 => ?_)
          clear hK K
          refine wpAnyH_ready (rs := [5]) (by kernel_rfl) (by simp) (AllReadyH.cons rfl (fun K hK => ?_) AllReadyH.nil)
          refine step_append_row1 rfl (.tmp 17) (.tmp 20) rfl (w.heap.size + 1 + 1 + 1) wr.heap.size (.slice sp pl.length sc) pl rfl (by exact D1.below ((Below.refl _ _).alloc (Nat.le_refl _) _) (Nat.le_refl _)) w1.heap.size (.slice up L.length uc) L rfl (by simp) ((O1.below ((Below.refl _ _).alloc (Nat.le_refl _) _) (Nat.le_refl _)).mono (by omega)) (fun k hk => by have := O1.own_lo k hk; omega) (by omega) (by simp; omega) ?_; intro v3 w3 h3 b3 g3; rw [EZ.out] at h3; have K3 := (g3.block (w.heap.size + 1 + 1) (by simp; omega) (fun e => by obtain ⟨vals, D1⟩ := D1; have := (World.ownsRow.lt D1.out _ e.symm).1; omega)).trans ((heap_alloc_old _ _ (by omega)).trans K2); obtain ⟨i20, i21, j20, j21⟩ := cells2_of K3; obtain ⟨vp, vc, rfl⟩ := h3.form; have R3 : Hid (w3.rangeAt wr.heap.size 0 R) := Lib.hid (fun j v hv => by have h9 := range_bel R1.out ((Below.refl _ _).alloc (Nat.le_refl _) (.cells #[.slice up L.length uc] 22)) (by omega) j v hv; rw [← h9]; simp only [World.cell?]; rw [g3.block wr.heap.size (by simp; omega) (fun e => by have := OB.out _ e.symm; omega)])
          refine hK.out _ _ (by exact R3.out) (fun hH6 => ?_)
          clear hK K
          simp only [Act.put]
          refine wpAnyH_take (i := 6) (v := .pointer (some ⟨w.heap.size + 1 + 1, 1, none⟩)) rfl (by kernel_rfl) (by kernel_rfl) (by kernel_rfl) (fun _ _ _ h => h) (Or.inl ⟨by rfl, fun w hSw => by go_simp⟩) (by assumption) ?_
          simp only [Act.put]
          refine wpAnyH_ready (rs := [7]) (by kernel_rfl) (by simp) (AllReadyH.cons rfl (fun K hK => ?_) AllReadyH.nil)
          go_simp
          refine hK.out _ _ (by exact range_set R3.out (by omega) _) (fun hH7 => ?_)
          clear hK K
          refine wpAnyH_done (by kernel_rfl) ?_ _
          have z3 := g3.size
          have HB3 := Lib.hid ((nxt HB.out B1).trans ((((Below.refl _ w1).alloc (Nat.le_refl _) (.cells #[.slice up L.length uc] 22)).mono (show w.heap.size ≤ w1.heap.size by omega)).trans (b3.mono (by omega))))
          have H13 := Lib.hid ((b3.block (w.heap.size + 1) (by omega)).trans ((heap_alloc_old _ _ (by omega)).trans ((B1.block (w.heap.size + 1) (by omega)).trans H1.out)))
          have H23 := Lib.hid K3
          have H33 := Lib.hid h3
          have z4 : w.heap.size + 1 + 1 + 1 ≤ w3.heap.size := by simp at z3; omega
          clear b3 g3 h3 K3 K2 K2A D1 B1 O1 e20 e21 g20 g21 r20 r21 c20 c21 f20 f21 HD HB H1 H2 RX R1 R3 OB
          first | go_roundw | (go_wp2; go_roundw)
          case rel => exact ⟨pl.length + 1, _, by omega, by go_num, by rw [← HT.out]; exact (H33.out.abv ((Abv.refl _ _).setCell (g := w.heap.size + 1 + 1) (by omega) 1 _)).mono (Nat.le_refl _) (by simp), pair2_set H23.out _, by rw [heap_setCell_other _ _ _ _ (by show w.heap.size + 1 ≠ w.heap.size + 1 + 1; omega)]; exact H13.out, HB3.out.setCell (p := ⟨w.heap.size + 1 + 1, 1, none⟩) (by show w.heap.size ≤ w.heap.size + 1 + 1; omega) _, by simp; omega⟩
          case measure => simp only [intOf]; omega
        · go_simp
          refine hK.out _ _ (by exact range_bel R1.out ((Below.refl _ _).alloc (Nat.le_refl _) _) (by omega)) (fun hH2 => ?_)
          clear hK K
          refine wpAnyH_ready (rs := [1]) (by kernel_rfl) (by simp) (AllReadyH.cons rfl (fun K hK => ?_) AllReadyH.nil)
          go_simp
          refine hK.out _ _ (by exact range_bel R1.out ((Below.refl _ _).alloc (Nat.le_refl _) _) (by omega)) (fun hH8 => ?_)
          clear hK K
          refine wpAnyH_ready (rs := [5]) (by kernel_rfl) (by simp) (AllReadyH.cons rfl (fun K hK => ?_) AllReadyH.nil)
          refine step_append_row1 rfl (.tmp 17) (.tmp 20) rfl (w.heap.size + 1 + 1 + 1) wr.heap.size (.slice sp pl.length sc) pl rfl (by exact D1.below ((Below.refl _ _).alloc (Nat.le_refl _) _) (Nat.le_refl _)) w1.heap.size (.slice up L.length uc) L rfl (by simp) ((O1.below ((Below.refl _ _).alloc (Nat.le_refl _) _) (Nat.le_refl _)).mono (by omega)) (fun k hk => by have := O1.own_lo k hk; omega) (by omega) (by simp; omega) ?_; intro v3 w3 h3 b3 g3; rw [EZ.out] at h3; have K3 := (g3.block (w.heap.size + 1 + 1) (by simp; omega) (fun e => by obtain ⟨vals, D1⟩ := D1; have := (World.ownsRow.lt D1.out _ e.symm).1; omega)).trans ((heap_alloc_old _ _ (by omega)).trans K2); obtain ⟨i20, i21, j20, j21⟩ := cells2_of K3; obtain ⟨vp, vc, rfl⟩ := h3.form; have R3 : Hid (w3.rangeAt wr.heap.size 0 R) := Lib.hid (fun j v hv => by have h9 := range_bel R1.out ((Below.refl _ _).alloc (Nat.le_refl _) (.cells #[.slice up L.length uc] 22)) (by omega) j v hv; rw [← h9]; simp only [World.cell?]; rw [g3.block wr.heap.size (by simp; omega) (fun e => by have := OB.out _ e.symm; omega)])
          refine hK.out _ _ (by exact R3.out) (fun hH9 => ?_)
          clear hK K
          simp only [Act.put]
          refine wpAnyH_take (i := 6) (v := .pointer (some ⟨w.heap.size + 1 + 1, 1, none⟩)) rfl (by kernel_rfl) (by kernel_rfl) (by kernel_rfl) (fun _ _ _ h => h) (Or.inl ⟨by rfl, fun w hSw => by go_simp⟩) (by assumption) ?_
          simp only [Act.put]
          refine wpAnyH_ready (rs := [7]) (by kernel_rfl) (by simp) (AllReadyH.cons rfl (fun K hK => ?_) AllReadyH.nil)
          go_simp
          refine hK.out _ _ (by exact range_set R3.out (by omega) _) (fun hH10 => ?_)
          clear hK K
          refine wpAnyH_done (by kernel_rfl) ?_ _
          have z3 := g3.size
          have HB3 := Lib.hid ((nxt HB.out B1).trans ((((Below.refl _ w1).alloc (Nat.le_refl _) (.cells #[.slice up L.length uc] 22)).mono (show w.heap.size ≤ w1.heap.size by omega)).trans (b3.mono (by omega))))
          have H13 := Lib.hid ((b3.block (w.heap.size + 1) (by omega)).trans ((heap_alloc_old _ _ (by omega)).trans ((B1.block (w.heap.size + 1) (by omega)).trans H1.out)))
          have H23 := Lib.hid K3
          have H33 := Lib.hid h3
          have z4 : w.heap.size + 1 + 1 + 1 ≤ w3.heap.size := by simp at z3; omega
          clear b3 g3 h3 K3 K2 K2A D1 B1 O1 e20 e21 g20 g21 r20 r21 c20 c21 f20 f21 HD HB H1 H2 RX R1 R3 OB
          first | go_roundw | (go_wp2; go_roundw)
          case rel => exact ⟨pl.length + 1, _, by omega, by go_num, by rw [← HT.out]; exact (H33.out.abv ((Abv.refl _ _).setCell (g := w.heap.size + 1 + 1) (by omega) 1 _)).mono (Nat.le_refl _) (by simp), pair2_set H23.out _, by rw [heap_setCell_other _ _ _ _ (by show w.heap.size + 1 ≠ w.heap.size + 1 + 1; omega)]; exact H13.out, HB3.out.setCell (p := ⟨w.heap.size + 1 + 1, 1, none⟩) (by show w.heap.size ≤ w.heap.size + 1 + 1; omega) _, by simp; omega⟩
          case measure => simp only [intOf]; omega
    · have hke : k = ps.length := by omega
      subst hke
      rw [List.take_length] at hD
      obtain ⟨c20, c21, f20, f21⟩ := cells2_of h2
      obtain ⟨c10, c11, f10, f11⟩ := cells2_of h1
      obtain ⟨sp, sc, rfl⟩ := hD.form
      have HB := Lib.hid hb
      have HD := Lib.hid hD
      clear hb h1 h2 hD
      go_wp2
      obtain ⟨fs, hfs⟩ := Try.cardsU
      refine bodyPost_ret (v := .agg #[.int .i64 n, .slice sp (ps.map sL).length sc]) (results_two rfl _ _ (w.heap.size + 1) _ _ fs rfl ?_ ?_ hfs Try.cardsI) rfl ⟨_, rfl, (HD.out.abv (((Abv.refl _ _).setCell (g := w.heap.size + 1) (by omega) 0 _).setCell (g := w.heap.size + 1) (by omega) 1 _)).mono (by omega) (by simp), (HB.out.setCell (p := ⟨w.heap.size + 1, 0, none⟩) (by show w.heap.size ≤ w.heap.size + 1; omega) _).setCell (p := ⟨w.heap.size + 1, 1, none⟩) (by show w.heap.size ≤ w.heap.size + 1; omega) _⟩
      · simp [World.cell?_setCell_other, World.cell?_setCell_same, go_sem, c10]
      · simp [World.cell?_setCell_other, World.cell?_setCell_same, go_sem, c11]
end Go.Proofs.Ytgojlabkngnkdaa
