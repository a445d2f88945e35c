/-
  All solutions, in the model: a function that calls itself and appends through a pointer, by its contract. Conditions: clues; hidden pieces.
-/
import Derived.Test.YtphjiicdodkfbaaYso
import Derived.Test.YtphjiicdodkfbaaLpz
namespace Go.Proofs.Ytphjiicdodkfbaa
open Go.RowKit

theorem Ow.srcO {w : World} {B : Nat} {v : Value} {ys : List Int} (h : Ow w B v ys) : Src w v ys := by
  rcases h.form with ⟨e, e0⟩ | ⟨g, cap, e, _, hg⟩
  · exact .inl ⟨e, e0⟩
  · subst e
    exact .inr ⟨g, 0, cap, rfl, hg, fun j hj => by rw [Nat.zero_add]; exact h.cellAt rfl hj⟩
def LookI (cs : List Cl) (k : Nat) : Prop := ∀ (u v : Value) (b : List Int) (r : Nat) (x : Value) (vals : List Value) (L : List (List Int)) (B : Nat) (w : World),
  (∀ W, Below B w W → Cv W u cs) → Ow w B v b → HdOk b → b.length + k = 4 → w.heap[r]? = some (.cells #[x] 46 (0, 0)) → RwAt w B B x vals L →
  (∀ i, i < L.length → ∀ p q, (vals.getD i undef).ownBlock = some p → v.ownBlock = some q → p < q) → B ≤ r → L.length ≤ 10000 * (5 - k) →
  Calls Try.prog 104 #[u, v, .pointer (some ⟨r, 0, none⟩)] w fun e w' => e = .returned (.tuple #[]) ∧ ∃ x' vals', w'.heap[r]? = some (.cells #[x'] 46 (0, 0)) ∧ RwAt w' B B x' vals' (L ++ (hs k b).filter (fitA cs)) ∧ Lf B r w w'
theorem fit_take {cs : List Cl} {j : Nat} (hj : j < cs.length) (b : List Int) : fitA (cs.take (j + 1)) b = (fitA (cs.take j) b && fitB (cA cs j) b) := by rw [cA_of hj]; exact fitA_step hj b

theorem Lf.grown {B r : Nat} {w w1 w2 : World} {row : Option Nat} (h : Lf B r w w1) (k : w1.grownBy w2 row) (b : Below B w1 w2) (hrow : ∀ g, row = some g → ∃ c q, w1.heap[g]? = some (.cells c 22 q)) : Lf B r w w2 :=
  h.trans ⟨b, fun i hi _ ht => k.block i hi fun e => by obtain ⟨c, q, hc⟩ := hrow i e.symm; exact ht c q hc⟩
theorem Lf.store {B r : Nat} {w w1 : World} (h : Lf B r w w1) (hBr : B ≤ r) (y : Value) : Lf B r w (w1.setCell ⟨r, 0, none⟩ y) :=
  h.trans ⟨(Below.refl _ _).setCell hBr _, fun _ _ hr _ => heap_setCell_other _ _ _ _ hr⟩
theorem box_grown {w1 w2 : World} {r : Nat} {x : Value} {row : Option Nat} (hx : w1.heap[r]? = some (.cells #[x] 46 (0, 0))) (k : w1.grownBy w2 row) (hrow : ∀ g, row = some g → ∃ c q, w1.heap[g]? = some (.cells c 22 q)) :
    w2.heap[r]? = some (.cells #[x] 46 (0, 0)) := by
  rw [k.block r (Array.getElem?_eq_some_iff.1 hx).1 fun e => by
    obtain ⟨c, q, hc⟩ := hrow r e.symm
    rw [hx] at hc
    simp at hc]
  exact hx
theorem box_store {w1 : World} {r : Nat} {x : Value} (hx : w1.heap[r]? = some (.cells #[x] 46 (0, 0))) (y : Value) : (w1.setCell ⟨r, 0, none⟩ y).heap[r]? = some (.cells #[y] 46 (0, 0)) := by
  simp [World.setCell, Array.getElem?_modify, hx]
theorem Ow.other {w w' : World} {C r : Nat} {v : Value} {ys : List Int} (h : Ow w C v ys) (k : ∀ i, i ≠ r → w'.heap[i]? = w.heap[i]?) (hr : ∀ c q, w.heap[r]? ≠ some (.cells c 3 q)) : Ow w' C v ys := by
  obtain ⟨h1, h2⟩ := h
  refine ⟨h1, ?_⟩
  rcases h2 with h2 | ⟨g, cap, cur, hv, hg, hh, q⟩
  · exact .inl h2
  · refine .inr ⟨g, cap, cur, hv, hg, ?_, q⟩
    rw [k g (fun e => hr cur (0, 0) (by rw [← e]; exact hh))]
    exact hh
theorem RwAt.store {w : World} {B C r : Nat} {v x : Value} {vals : List Value} {pl : List (List Int)} (h : RwAt w B C v vals pl) (hx : w.heap[r]? = some (.cells #[x] 46 (0, 0))) (y : Value) : RwAt (w.setCell ⟨r, 0, none⟩ y) B C v vals pl := by
  have k : ∀ i, i ≠ r → (w.setCell ⟨r, 0, none⟩ y).heap[i]? = w.heap[i]? := fun i hi => heap_setCell_other _ _ _ _ hi
  refine ⟨row1_below' h.out (fun q hq => k q fun e => ?_), fun j hj => (h.row j hj).other k (fun c q e => by rw [hx] at e; simp at e), h.inc⟩
  obtain ⟨c, q2, hc⟩ := h.rowT q hq
  rw [e, hx] at hc
  simp at hc
theorem box_int {w : World} {r : Nat} {x : Value} (hx : w.heap[r]? = some (.cells #[x] 46 (0, 0))) : ∀ c q, w.heap[r]? ≠ some (.cells c 3 q) := fun c q e => by rw [hx] at e; simp at e
theorem hsf_zero (b : List Int) (f : List Int → Bool) : (hs 0 b).filter f = if f b = true then [b] else [] := by
  rw [hs]
  by_cases h : f b = true <;> simp [h]
theorem hsf_succ (m : Nat) (b : List Int) (f : List Int → Bool) : (hs (m + 1) b).filter f = (if f b = true then [b] else []) ++ upF (fun n => (hs m (b ++ [n])).filter f) (7 - lstL b).toNat (lstL b) := by
  rw [hs, List.filter_cons, upF_filter]
  by_cases h : f b = true <;> simp [h]
theorem lk_step (G : Int → List (List Int)) {p : Int} {L T : List (List Int)} (hp : p ≤ 6) (h : L ++ upF G (7 - p).toNat p = T) : (L ++ G p) ++ upF G (7 - (p + 1)).toNat (p + 1) = T := by
  rw [← h, show (7 - p).toNat = (7 - (p + 1)).toNat + 1 by omega, upF, List.append_assoc]
theorem lk_end (G : Int → List (List Int)) {p : Int} {L T : List (List Int)} (hp : 6 < p) (h : L ++ upF G (7 - p).toNat p = T) : L = T := by
  rw [← h, show (7 - p).toNat = 0 by omega, upF, List.append_nil]

set_option maxHeartbeats 8000000 in
set_option maxRecDepth 20000 in
theorem look_any (cs : List Cl) (hc : ∀ c ∈ cs, clB c = true) (hl : cs.length ≤ 1099511627776) (k : Nat) (ih : ∀ m, k = m + 1 → LookI cs m) : LookI cs k := by
  intro u v b r x vals L B w hu hv hb hk hx hR hcr hBr hlen
  have hrw : r < w.heap.size := (Array.getElem?_eq_some_iff.1 hx).1
  have hBw : B ≤ w.heap.size := by omega
  have HU := Lib.hid hu
  have HV := Lib.hid hv
  have HG := Lib.hid hb.good
  have HB := Lib.hid hb
  have HX := Lib.hid hx
  have HR := Lib.hid hR
  have HCR := Lib.hid hcr
  have HLEN := Lib.hid hlen
  have HC := Lib.hid hc
  have HK := Lib.hid hk
  have HIH := Lib.hid ih
  obtain ⟨T, eT⟩ : ∃ T, L ++ (hs k b).filter (fitA cs) = T := ⟨_, rfl⟩
  rw [eT]
  have HTT := Lib.hid eT
  clear eT
  obtain ⟨pu, cu, rfl⟩ := (hu w (Below.refl _ _)).shape
  obtain ⟨pv, cv, rfl⟩ : ∃ p c, v = .slice p b.length c := by obtain ⟨p, c, e, _⟩ := hv.sv; exact ⟨p, c, e⟩
  have hl4 : b.length ≤ 4 := hb.1
  clear hu hv hb hx hR hcr hlen hk hc ih
  go_enter Try.func104, Try.ntmps104
  go_wp2
  go_loopw [6, 13] (fun t i wr => ∃ j : Nat, j ≤ cs.length ∧ i = .int .i64 j ∧ t = .bool (fitA (cs.take j) b) ∧ Below w.heap.size w wr) (fun _ i _ => cs.length - (intOf i).toNat)
  case atStart => exact ⟨0, Nat.zero_le _, rfl, rfl, Below.refl _ _⟩
  case round =>
    obtain ⟨j, hj, rfl, rfl, hw⟩ := hrel
    by_cases hlt : j < cs.length
    · obtain ⟨p, cap, e1, _, _, hcx⟩ := HU.out wr (hw.mono hBw)
      obtain ⟨bu, off, e2, hbl, hcc⟩ := hcx (by omega)
      simp only [Value.slice.injEq, true_and] at e1
      obtain ⟨rfl, rfl⟩ := e1
      subst e2
      obtain ⟨g1, g2, g3⟩ := hcc j hlt
      have FT := fit_take hlt b
      have hB := HC.out _ (List.getElem_mem hlt)
      rw [← cA_of hlt] at hB
      generalize eC : cA cs j = D at g1 g2 g3 FT hB
      obtain ⟨K, A, E⟩ := D
      simp only at g1 g2 g3
      have hb1 : Below w.heap.size w (wr.alloc (.cells #[.int .i64 K, .int .i64 A, .int .i64 E] 29)) := hw.alloc hw.size _
      have PF := Lib.hid (pzFits_any K A E _ b _ (HV.out.sv.below hb1 (Nat.le_refl _)) HG.out hB)
      have HFT := Lib.hid FT
      clear hcx hcc eC hB FT
      generalize fitB ⟨K, A, E⟩ b = R at *
      cases hF : fitA (cs.take j) b
      · have N : Hid (fitA (cs.take (j + 1)) b = false) := Lib.hid (by rw [HFT.out, hF]; rfl)
        clear HFT PF hF
        go_wp2_with fail
        go_roundw
        case rel => exact ⟨j + 1, by omega, by go_num, by rw [N.out], hb1⟩
        case measure => simp [intOf]; omega
      · have N : Hid (fitA (cs.take (j + 1)) b = R) := Lib.hid (by rw [HFT.out, hF]; simp)
        clear HFT hF
        go_wp2_with fail
        refine PF.out.mono ?_
        rintro e w2 ⟨rfl, b2⟩
        have hb2 := hb1.trans (b2.mono hb1.size)
        clear b2 PF hb1
        go_wp2_with fail
        go_roundw
        case rel => exact ⟨j + 1, by omega, by go_num, by rw [N.out], hb2⟩
        case measure => simp [intOf]; omega
    · obtain rfl : j = cs.length := by omega
      rw [List.take_length]
      have hlf : Lf B r w wr := (Lf.refl B r w).of hw hBw
      obtain ⟨c1, f1⟩ := cells1_of (w := wr) ((hw.block r hrw).trans HX.out)
      have R1 := HR.out.below hw (Nat.le_refl _)
      have V1 := HV.out.below hw (Nat.le_refl _)
      have hwz := hw.size
      have XW := (hw.block r hrw).trans HX.out
      cases hF : fitA cs b
      · clear c1 f1
        cases k with
        | zero =>
          have hl0 : b.length = 4 := by have := HK.out; omega
          have HT0 : Hid (L = T) := Lib.hid (by rw [← HTT.out, hsf_zero, hF]; simp)
          have d0 : ((b.length : Int) == 4) = true := by rw [hl0]; rfl
          clear hl0 HK HIH HTT
          go_wp2
          refine bodyPost_ret (results_none rfl _ _ _) rfl ?_
          first | exact ⟨rfl, _, _, XW, HT0.out ▸ R1, hlf⟩ | exact ⟨rfl, _, XW, ⟨_, HT0.out ▸ R1⟩, hlf⟩
        | succ m =>
          have hlm : b.length + (m + 1) = 4 := HK.out
          have d0 : ((b.length : Int) == 4) = false := by rw [beq_eq_false_iff_ne]; omega
          have hls := HB.out.lst
          obtain ⟨G, eG⟩ : ∃ G : Int → List (List Int), (fun n => (hs m (b ++ [n])).filter (fitA cs)) = G := ⟨_, rfl⟩
          have HT0 : Hid (L ++ upF G (7 - lstL b).toNat (lstL b) = T) := Lib.hid (by rw [← eG, ← HTT.out, hsf_succ, hF]; simp)
          have HTL : Hid (T.length ≤ 10000 * (5 - (m + 1)) + 2401) := Lib.hid (by
            rw [← HTT.out, List.length_append]
            have h1 := List.length_filter_le (fitA cs) (hs (m + 1) b)
            have h2 := hs_bd (m + 1) b HB.out HK.out
            have h3 := HLEN.out
            omega)
          have HGE : Hid ((fun n => (hs m (b ++ [n])).filter (fitA cs)) = G) := Lib.hid eG
          clear eG HTT
          by_cases he : b = []
          · have el : lstL b = 1 := by rw [he]; rfl
            have EL := Lib.hid el
            have e0 : b.length = 0 := by rw [he]; rfl
            have d1 : decide (0 < b.length) = false := by simp; omega
            have d2 : ¬ 0 < b.length := by omega
            clear he el e0
            go_wp2
            obtain ⟨wo, rfl⟩ : ∃ x, x = wr := ⟨wr, rfl⟩
            go_loopw [10] (fun i w2 => ∃ (p : Int) (x2 : Value) (vals2 : List Value) (L2 : List (List Int)), lstL b ≤ p ∧ p ≤ 7 ∧ i = .int .i64 p ∧ Hid (w2.heap[r]? = some (.cells #[x2] 46 (0, 0))) ∧ RwAt w2 B B x2 vals2 L2 ∧ Hid (L2 ++ upF G (7 - p).toNat p = T) ∧ Lf B r w w2) (fun i _ => (7 - intOf i).toNat)
            case atStart => exact ⟨lstL b, _, _, L, Int.le_refl _, by have := hls.2; omega, by rw [EL.out], Lib.hid XW, R1, HT0, hlf⟩
            case round =>
              clear HT0
              obtain ⟨p, x2, vals2, L2, hp1, hp7, rfl, HX2, R2, HT, F2⟩ := hrel
              have z2 := F2.bel.size
              by_cases hp6 : p ≤ 6
              · have N := Lib.hid (lk_step G hp6 HT.out)
                have HLC : Hid (L2.length ≤ 10000 * (5 - m)) := Lib.hid (by have h1 := congrArg List.length HT.out; rw [List.length_append] at h1; have h2 := HTL.out; omega)
                have HSN := Lib.hid (HB.out.snoc (by omega) hp1 hp6)
                have V2 := F2.ow HV.out (box_int HX.out)
                have SR := V2.srcO
                have HGP : Hid ((hs m (b ++ [p])).filter (fitA cs) = G p) := Lib.hid (congrFun HGE.out p)
                obtain ⟨Q, eQ⟩ : ∃ Q, b ++ [p] = Q := ⟨_, rfl⟩
                have HQ := Lib.hid eQ
                have HQL : Hid (Q.length + m = 4) := Lib.hid (by rw [← eQ]; simp; omega)
                rw [eQ] at HSN HGP
                clear eQ V2
                have HR2 := Lib.hid R2
                have HF2 := Lib.hid F2
                have hrw2 : r < wr.heap.size := by omega
                have HCALL := Lib.hid (fun (u6 : Value) (w6 : World) (bb6 : Below wr.heap.size wr w6) (o6 : Ow w6 wr.heap.size u6 Q) => HIH.out m rfl _ u6 Q r x2 vals2 L2 B w6 (fun W hb => HU.out W ((HF2.out.bel.trans (bb6.mono (by omega))).trans hb)) (o6.mono (by omega)) HSN.out HQL.out ((bb6.block r hrw2).trans HX2.out) (HR2.out.below bb6 (Nat.le_refl _))
                  (fun i hi y z hy hz => by have h1 := World.ownsRow.lt (HR2.out.row i hi) y hy; have h2 := World.ownsRow.lt o6 z hz; omega) hBr HLC.out)
                clear R2 F2
                go_wp2_with (first
                  | (go_at_call 118; refine (l1Own_any _ b _ SR (by omega)).mono ?_; rintro e w5 ⟨u5, rfl, o5, b5⟩; have hz5 := b5.size; obtain ⟨p5, c5, rfl⟩ : ∃ p c, u5 = .slice p b.length c := (by obtain ⟨p, c, e, _⟩ := o5.sv; exact ⟨p, c, e⟩))
                  | (go_at_call 104; refine (HCALL.out _ w6 bb6 o6).mono ?_; rintro e w7 ⟨rfl, x7, vals7, hx7, r7, f7⟩)
                  | (at_builtin; refine wpList_append_src rfl _ _ rfl wr.heap.size _ b rfl (o5.below ((Below.refl _ _).alloc (Nat.le_refl _) _) (Nat.le_refl _)) (.slice (some ⟨w5.heap.size, 0, none⟩) 1 1) [p] rfl (src_one w5 p) (by simp; omega) (by simp; omega) ?_; intro u6 w6 o6 g6; have bb6 := b5.trans ((((Below.refl w5.heap.size w5).alloc (Nat.le_refl _) (.cells #[.int .i64 p] 3)).mono hz5).trans (Ow.grown (o5.below ((Below.refl _ _).alloc (Nat.le_refl _) _) (Nat.le_refl _)) (by simp; omega) g6)); rw [HQ.out] at o6))
                have F7 := (HF2.out.of bb6 (by omega)).trans f7
                rw [HGP.out] at r7
                clear o5 b5 o6 g6 bb6 f7
                go_roundw
                case rel => exact ⟨p + 1, x7, vals7, _, by omega, by omega, by go_num, Lib.hid hx7, r7, N, F7⟩
                case measure => simp [intOf]; omega
              · have E := lk_end G (by omega) HT.out
                clear HT
                subst E
                go_wp2
                go_end0
                first | exact ⟨rfl, x2, vals2, HX2.out, R2, F2⟩ | exact ⟨rfl, x2, HX2.out, ⟨vals2, R2⟩, F2⟩
          · obtain ⟨mm, em⟩ : ∃ mm, b.length = mm + 1 := ⟨b.length - 1, by have := List.length_pos_iff.2 he; omega⟩
            have hpos : 0 < b.length := by omega
            have hm1 : IntKind.i64.wrap ((b.length : Int) - 1) = (mm : Int) := by rw [em]; exact IntWalk.i64_in _ (by omega) |>.trans (by omega)
            have hm2 : (mm : Int) < (b.length : Int) := by omega
            have hm3 : (0 : Int) ≤ (mm : Int) := by omega
            obtain ⟨gb, capb, ev, -, hgb, hcb⟩ := (V1).blkform he
            simp only [Value.slice.injEq, true_and] at ev
            obtain ⟨rfl, rfl⟩ := ev
            have hlast := hcb mm (by omega)
            rw [← lstL_pos em, Nat.zero_add] at hlast
            have HEM := Lib.hid (lstL_pos em)
            have hmm : mm < b.length := by omega
            clear hcb he em
            go_wp2
            obtain ⟨wo, rfl⟩ : ∃ x, x = wr := ⟨wr, rfl⟩
            go_loopw [10] (fun i w2 => ∃ (p : Int) (x2 : Value) (vals2 : List Value) (L2 : List (List Int)), lstL b ≤ p ∧ p ≤ 7 ∧ i = .int .i64 p ∧ Hid (w2.heap[r]? = some (.cells #[x2] 46 (0, 0))) ∧ RwAt w2 B B x2 vals2 L2 ∧ Hid (L2 ++ upF G (7 - p).toNat p = T) ∧ Lf B r w w2) (fun i _ => (7 - intOf i).toNat)
            case atStart => exact ⟨lstL b, _, _, L, Int.le_refl _, by have := hls.2; omega, rfl, Lib.hid XW, R1, HT0, hlf⟩
            case round =>
              clear HT0
              obtain ⟨p, x2, vals2, L2, hp1, hp7, rfl, HX2, R2, HT, F2⟩ := hrel
              have z2 := F2.bel.size
              by_cases hp6 : p ≤ 6
              · have N := Lib.hid (lk_step G hp6 HT.out)
                have HLC : Hid (L2.length ≤ 10000 * (5 - m)) := Lib.hid (by have h1 := congrArg List.length HT.out; rw [List.length_append] at h1; have h2 := HTL.out; omega)
                have HSN := Lib.hid (HB.out.snoc (by omega) hp1 hp6)
                have V2 := F2.ow HV.out (box_int HX.out)
                have SR := V2.srcO
                have HGP : Hid ((hs m (b ++ [p])).filter (fitA cs) = G p) := Lib.hid (congrFun HGE.out p)
                obtain ⟨Q, eQ⟩ : ∃ Q, b ++ [p] = Q := ⟨_, rfl⟩
                have HQ := Lib.hid eQ
                have HQL : Hid (Q.length + m = 4) := Lib.hid (by rw [← eQ]; simp; omega)
                rw [eQ] at HSN HGP
                clear eQ V2
                have HR2 := Lib.hid R2
                have HF2 := Lib.hid F2
                have hrw2 : r < wr.heap.size := by omega
                have HCALL := Lib.hid (fun (u6 : Value) (w6 : World) (bb6 : Below wr.heap.size wr w6) (o6 : Ow w6 wr.heap.size u6 Q) => HIH.out m rfl _ u6 Q r x2 vals2 L2 B w6 (fun W hb => HU.out W ((HF2.out.bel.trans (bb6.mono (by omega))).trans hb)) (o6.mono (by omega)) HSN.out HQL.out ((bb6.block r hrw2).trans HX2.out) (HR2.out.below bb6 (Nat.le_refl _))
                  (fun i hi y z hy hz => by have h1 := World.ownsRow.lt (HR2.out.row i hi) y hy; have h2 := World.ownsRow.lt o6 z hz; omega) hBr HLC.out)
                clear R2 F2
                go_wp2_with (first
                  | (go_at_call 118; refine (l1Own_any _ b _ SR (by omega)).mono ?_; rintro e w5 ⟨u5, rfl, o5, b5⟩; have hz5 := b5.size; obtain ⟨p5, c5, rfl⟩ : ∃ p c, u5 = .slice p b.length c := (by obtain ⟨p, c, e, _⟩ := o5.sv; exact ⟨p, c, e⟩))
                  | (go_at_call 104; refine (HCALL.out _ w6 bb6 o6).mono ?_; rintro e w7 ⟨rfl, x7, vals7, hx7, r7, f7⟩)
                  | (at_builtin; refine wpList_append_src rfl _ _ rfl wr.heap.size _ b rfl (o5.below ((Below.refl _ _).alloc (Nat.le_refl _) _) (Nat.le_refl _)) (.slice (some ⟨w5.heap.size, 0, none⟩) 1 1) [p] rfl (src_one w5 p) (by simp; omega) (by simp; omega) ?_; intro u6 w6 o6 g6; have bb6 := b5.trans ((((Below.refl w5.heap.size w5).alloc (Nat.le_refl _) (.cells #[.int .i64 p] 3)).mono hz5).trans (Ow.grown (o5.below ((Below.refl _ _).alloc (Nat.le_refl _) _) (Nat.le_refl _)) (by simp; omega) g6)); rw [HQ.out] at o6))
                have F7 := (HF2.out.of bb6 (by omega)).trans f7
                rw [HGP.out] at r7
                clear o5 b5 o6 g6 bb6 f7
                go_roundw
                case rel => exact ⟨p + 1, x7, vals7, _, by omega, by omega, by go_num, Lib.hid hx7, r7, N, F7⟩
                case measure => simp [intOf]; omega
              · have E := lk_end G (by omega) HT.out
                clear HT
                subst E
                go_wp2
                go_end0
                first | exact ⟨rfl, x2, vals2, HX2.out, R2, F2⟩ | exact ⟨rfl, x2, HX2.out, ⟨vals2, R2⟩, F2⟩
      · have ba := (Below.refl wr.heap.size wr).alloc (Nat.le_refl _) (.cells #[.slice pv b.length cv] 22)
        have hrr : r < wr.heap.size := by omega
        have hBr2 : B ≤ wr.heap.size := by omega
        have HRT := Lib.hid (R1.below ba (Nat.le_refl _)).rowT
        obtain ⟨px, cx, rfl⟩ := R1.form
        cases k with
        | zero =>
          have hl0 : b.length = 4 := by have := HK.out; omega
          have HT0 : Hid ((L ++ [b]) = T) := Lib.hid (by rw [← HTT.out, hsf_zero, hF]; simp)
          have d0 : ((b.length : Int) == 4) = true := by rw [hl0]; rfl
          clear hl0 HK HIH HTT
          go_wp2_with (at_builtin; go_loud (refine wpList_append_rw1 rfl _ _ rfl B B _ vals L rfl (R1.below ba (Nat.le_refl _)) wr.heap.size _ b rfl (by simp [go_sem]) (V1.below ba (Nat.le_refl _)) HCR.out (by have := HLEN.out; omega) (by simp; omega) ?_; intro u8 w8 r8 b8 g8 k8; clear k8; obtain ⟨p8, n8, e8, rfl⟩ : ∃ p n c, u8 = .slice p n c := (by obtain ⟨p, c, e⟩ := r8.form; exact ⟨p, _, c, e⟩); have XB := box_grown ((ba.block r hrr).trans XW) g8 HRT.out; obtain ⟨c8, f8⟩ := cells1_of XB; have R8 := r8.store XB (.slice p8 n8 e8); have F8 := ((hlf.of ba hBr2).grown g8 b8 HRT.out).store hBr (.slice p8 n8 e8); have X8 := box_store XB (.slice p8 n8 e8); clear r8 b8 g8))
          refine bodyPost_ret (results_none rfl _ _ _) rfl ?_
          first | exact ⟨rfl, _, _, X8, HT0.out ▸ R8, F8⟩ | exact ⟨rfl, _, X8, ⟨_, HT0.out ▸ R8⟩, F8⟩
        | succ m =>
          have hlm : b.length + (m + 1) = 4 := HK.out
          have d0 : ((b.length : Int) == 4) = false := by rw [beq_eq_false_iff_ne]; omega
          have hls := HB.out.lst
          obtain ⟨G, eG⟩ : ∃ G : Int → List (List Int), (fun n => (hs m (b ++ [n])).filter (fitA cs)) = G := ⟨_, rfl⟩
          have HT0 : Hid ((L ++ [b]) ++ upF G (7 - lstL b).toNat (lstL b) = T) := Lib.hid (by rw [← eG, ← HTT.out, hsf_succ, hF]; simp)
          have HTL : Hid (T.length ≤ 10000 * (5 - (m + 1)) + 2401) := Lib.hid (by
            rw [← HTT.out, List.length_append]
            have h1 := List.length_filter_le (fitA cs) (hs (m + 1) b)
            have h2 := hs_bd (m + 1) b HB.out HK.out
            have h3 := HLEN.out
            omega)
          have HGE : Hid ((fun n => (hs m (b ++ [n])).filter (fitA cs)) = G) := Lib.hid eG
          clear eG HTT
          by_cases he : b = []
          · have el : lstL b = 1 := by rw [he]; rfl
            have EL := Lib.hid el
            have e0 : b.length = 0 := by rw [he]; rfl
            have d1 : decide (0 < b.length) = false := by simp; omega
            have d2 : ¬ 0 < b.length := by omega
            clear he el e0
            go_wp2_with (at_builtin; go_loud (refine wpList_append_rw1 rfl _ _ rfl B B _ vals L rfl (R1.below ba (Nat.le_refl _)) wr.heap.size _ b rfl (by simp [go_sem]) (V1.below ba (Nat.le_refl _)) HCR.out (by have := HLEN.out; omega) (by simp; omega) ?_; intro u8 w8 r8 b8 g8 k8; clear k8; obtain ⟨p8, n8, e8, rfl⟩ : ∃ p n c, u8 = .slice p n c := (by obtain ⟨p, c, e⟩ := r8.form; exact ⟨p, _, c, e⟩); have XB := box_grown ((ba.block r hrr).trans XW) g8 HRT.out; obtain ⟨c8, f8⟩ := cells1_of XB; have R8 := r8.store XB (.slice p8 n8 e8); have F8 := ((hlf.of ba hBr2).grown g8 b8 HRT.out).store hBr (.slice p8 n8 e8); have X8 := box_store XB (.slice p8 n8 e8); clear r8 b8 g8))
            obtain ⟨wo, rfl⟩ : ∃ x, x = wr := ⟨wr, rfl⟩
            go_loopw [10] (fun i w2 => ∃ (p : Int) (x2 : Value) (vals2 : List Value) (L2 : List (List Int)), lstL b ≤ p ∧ p ≤ 7 ∧ i = .int .i64 p ∧ Hid (w2.heap[r]? = some (.cells #[x2] 46 (0, 0))) ∧ RwAt w2 B B x2 vals2 L2 ∧ Hid (L2 ++ upF G (7 - p).toNat p = T) ∧ Lf B r w w2) (fun i _ => (7 - intOf i).toNat)
            case atStart => exact ⟨lstL b, _, _, (L ++ [b]), Int.le_refl _, by have := hls.2; omega, by rw [EL.out], Lib.hid X8, R8, HT0, F8⟩
            case round =>
              clear HT0
              obtain ⟨p, x2, vals2, L2, hp1, hp7, rfl, HX2, R2, HT, F2⟩ := hrel
              have z2 := F2.bel.size
              by_cases hp6 : p ≤ 6
              · have N := Lib.hid (lk_step G hp6 HT.out)
                have HLC : Hid (L2.length ≤ 10000 * (5 - m)) := Lib.hid (by have h1 := congrArg List.length HT.out; rw [List.length_append] at h1; have h2 := HTL.out; omega)
                have HSN := Lib.hid (HB.out.snoc (by omega) hp1 hp6)
                have V2 := F2.ow HV.out (box_int HX.out)
                have SR := V2.srcO
                have HGP : Hid ((hs m (b ++ [p])).filter (fitA cs) = G p) := Lib.hid (congrFun HGE.out p)
                obtain ⟨Q, eQ⟩ : ∃ Q, b ++ [p] = Q := ⟨_, rfl⟩
                have HQ := Lib.hid eQ
                have HQL : Hid (Q.length + m = 4) := Lib.hid (by rw [← eQ]; simp; omega)
                rw [eQ] at HSN HGP
                clear eQ V2
                have HR2 := Lib.hid R2
                have HF2 := Lib.hid F2
                have hrw2 : r < wr.heap.size := by omega
                have HCALL := Lib.hid (fun (u6 : Value) (w6 : World) (bb6 : Below wr.heap.size wr w6) (o6 : Ow w6 wr.heap.size u6 Q) => HIH.out m rfl _ u6 Q r x2 vals2 L2 B w6 (fun W hb => HU.out W ((HF2.out.bel.trans (bb6.mono (by omega))).trans hb)) (o6.mono (by omega)) HSN.out HQL.out ((bb6.block r hrw2).trans HX2.out) (HR2.out.below bb6 (Nat.le_refl _))
                  (fun i hi y z hy hz => by have h1 := World.ownsRow.lt (HR2.out.row i hi) y hy; have h2 := World.ownsRow.lt o6 z hz; omega) hBr HLC.out)
                clear R2 F2
                go_wp2_with (first
                  | (go_at_call 118; refine (l1Own_any _ b _ SR (by omega)).mono ?_; rintro e w5 ⟨u5, rfl, o5, b5⟩; have hz5 := b5.size; obtain ⟨p5, c5, rfl⟩ : ∃ p c, u5 = .slice p b.length c := (by obtain ⟨p, c, e, _⟩ := o5.sv; exact ⟨p, c, e⟩))
                  | (go_at_call 104; refine (HCALL.out _ w6 bb6 o6).mono ?_; rintro e w7 ⟨rfl, x7, vals7, hx7, r7, f7⟩)
                  | (at_builtin; refine wpList_append_src rfl _ _ rfl wr.heap.size _ b rfl (o5.below ((Below.refl _ _).alloc (Nat.le_refl _) _) (Nat.le_refl _)) (.slice (some ⟨w5.heap.size, 0, none⟩) 1 1) [p] rfl (src_one w5 p) (by simp; omega) (by simp; omega) ?_; intro u6 w6 o6 g6; have bb6 := b5.trans ((((Below.refl w5.heap.size w5).alloc (Nat.le_refl _) (.cells #[.int .i64 p] 3)).mono hz5).trans (Ow.grown (o5.below ((Below.refl _ _).alloc (Nat.le_refl _) _) (Nat.le_refl _)) (by simp; omega) g6)); rw [HQ.out] at o6))
                have F7 := (HF2.out.of bb6 (by omega)).trans f7
                rw [HGP.out] at r7
                clear o5 b5 o6 g6 bb6 f7
                go_roundw
                case rel => exact ⟨p + 1, x7, vals7, _, by omega, by omega, by go_num, Lib.hid hx7, r7, N, F7⟩
                case measure => simp [intOf]; omega
              · have E := lk_end G (by omega) HT.out
                clear HT
                subst E
                go_wp2
                go_end0
                first | exact ⟨rfl, x2, vals2, HX2.out, R2, F2⟩ | exact ⟨rfl, x2, HX2.out, ⟨vals2, R2⟩, F2⟩
          · obtain ⟨mm, em⟩ : ∃ mm, b.length = mm + 1 := ⟨b.length - 1, by have := List.length_pos_iff.2 he; omega⟩
            have hpos : 0 < b.length := by omega
            have hm1 : IntKind.i64.wrap ((b.length : Int) - 1) = (mm : Int) := by rw [em]; exact IntWalk.i64_in _ (by omega) |>.trans (by omega)
            have hm2 : (mm : Int) < (b.length : Int) := by omega
            have hm3 : (0 : Int) ≤ (mm : Int) := by omega
            obtain ⟨gb, capb, ev, -, hgb, hcb⟩ := (V1).blkform he
            simp only [Value.slice.injEq, true_and] at ev
            obtain ⟨rfl, rfl⟩ := ev
            have hlast := hcb mm (by omega)
            rw [← lstL_pos em, Nat.zero_add] at hlast
            have HEM := Lib.hid (lstL_pos em)
            have hmm : mm < b.length := by omega
            clear hcb he em
            clear hlast
            go_wp2_with (at_builtin; go_loud (refine wpList_append_rw1 rfl _ _ rfl B B _ vals L rfl (R1.below ba (Nat.le_refl _)) wr.heap.size _ b rfl (by simp [go_sem]) (V1.below ba (Nat.le_refl _)) HCR.out (by have := HLEN.out; omega) (by simp; omega) ?_; intro u8 w8 r8 b8 g8 k8; clear k8; obtain ⟨p8, n8, e8, rfl⟩ : ∃ p n c, u8 = .slice p n c := (by obtain ⟨p, c, e⟩ := r8.form; exact ⟨p, _, c, e⟩); have XB := box_grown ((ba.block r hrr).trans XW) g8 HRT.out; obtain ⟨c8, f8⟩ := cells1_of XB; have R8 := r8.store XB (.slice p8 n8 e8); have F8 := ((hlf.of ba hBr2).grown g8 b8 HRT.out).store hBr (.slice p8 n8 e8); have X8 := box_store XB (.slice p8 n8 e8); have hl9 := (F8.ow HV.out (box_int HX.out)).cellAt rfl hmm; rw [← HEM.out] at hl9; clear r8 b8 g8))
            obtain ⟨wo, rfl⟩ : ∃ x, x = wr := ⟨wr, rfl⟩
            go_loopw [10] (fun i w2 => ∃ (p : Int) (x2 : Value) (vals2 : List Value) (L2 : List (List Int)), lstL b ≤ p ∧ p ≤ 7 ∧ i = .int .i64 p ∧ Hid (w2.heap[r]? = some (.cells #[x2] 46 (0, 0))) ∧ RwAt w2 B B x2 vals2 L2 ∧ Hid (L2 ++ upF G (7 - p).toNat p = T) ∧ Lf B r w w2) (fun i _ => (7 - intOf i).toNat)
            case atStart => exact ⟨lstL b, _, _, (L ++ [b]), Int.le_refl _, by have := hls.2; omega, rfl, Lib.hid X8, R8, HT0, F8⟩
            case round =>
              clear HT0
              obtain ⟨p, x2, vals2, L2, hp1, hp7, rfl, HX2, R2, HT, F2⟩ := hrel
              have z2 := F2.bel.size
              by_cases hp6 : p ≤ 6
              · have N := Lib.hid (lk_step G hp6 HT.out)
                have HLC : Hid (L2.length ≤ 10000 * (5 - m)) := Lib.hid (by have h1 := congrArg List.length HT.out; rw [List.length_append] at h1; have h2 := HTL.out; omega)
                have HSN := Lib.hid (HB.out.snoc (by omega) hp1 hp6)
                have V2 := F2.ow HV.out (box_int HX.out)
                have SR := V2.srcO
                have HGP : Hid ((hs m (b ++ [p])).filter (fitA cs) = G p) := Lib.hid (congrFun HGE.out p)
                obtain ⟨Q, eQ⟩ : ∃ Q, b ++ [p] = Q := ⟨_, rfl⟩
                have HQ := Lib.hid eQ
                have HQL : Hid (Q.length + m = 4) := Lib.hid (by rw [← eQ]; simp; omega)
                rw [eQ] at HSN HGP
                clear eQ V2
                have HR2 := Lib.hid R2
                have HF2 := Lib.hid F2
                have hrw2 : r < wr.heap.size := by omega
                have HCALL := Lib.hid (fun (u6 : Value) (w6 : World) (bb6 : Below wr.heap.size wr w6) (o6 : Ow w6 wr.heap.size u6 Q) => HIH.out m rfl _ u6 Q r x2 vals2 L2 B w6 (fun W hb => HU.out W ((HF2.out.bel.trans (bb6.mono (by omega))).trans hb)) (o6.mono (by omega)) HSN.out HQL.out ((bb6.block r hrw2).trans HX2.out) (HR2.out.below bb6 (Nat.le_refl _))
                  (fun i hi y z hy hz => by have h1 := World.ownsRow.lt (HR2.out.row i hi) y hy; have h2 := World.ownsRow.lt o6 z hz; omega) hBr HLC.out)
                clear R2 F2
                go_wp2_with (first
                  | (go_at_call 118; refine (l1Own_any _ b _ SR (by omega)).mono ?_; rintro e w5 ⟨u5, rfl, o5, b5⟩; have hz5 := b5.size; obtain ⟨p5, c5, rfl⟩ : ∃ p c, u5 = .slice p b.length c := (by obtain ⟨p, c, e, _⟩ := o5.sv; exact ⟨p, c, e⟩))
                  | (go_at_call 104; refine (HCALL.out _ w6 bb6 o6).mono ?_; rintro e w7 ⟨rfl, x7, vals7, hx7, r7, f7⟩)
                  | (at_builtin; refine wpList_append_src rfl _ _ rfl wr.heap.size _ b rfl (o5.below ((Below.refl _ _).alloc (Nat.le_refl _) _) (Nat.le_refl _)) (.slice (some ⟨w5.heap.size, 0, none⟩) 1 1) [p] rfl (src_one w5 p) (by simp; omega) (by simp; omega) ?_; intro u6 w6 o6 g6; have bb6 := b5.trans ((((Below.refl w5.heap.size w5).alloc (Nat.le_refl _) (.cells #[.int .i64 p] 3)).mono hz5).trans (Ow.grown (o5.below ((Below.refl _ _).alloc (Nat.le_refl _) _) (Nat.le_refl _)) (by simp; omega) g6)); rw [HQ.out] at o6))
                have F7 := (HF2.out.of bb6 (by omega)).trans f7
                rw [HGP.out] at r7
                clear o5 b5 o6 g6 bb6 f7
                go_roundw
                case rel => exact ⟨p + 1, x7, vals7, _, by omega, by omega, by go_num, Lib.hid hx7, r7, N, F7⟩
                case measure => simp [intOf]; omega
              · have E := lk_end G (by omega) HT.out
                clear HT
                subst E
                go_wp2
                go_end0
                first | exact ⟨rfl, x2, vals2, HX2.out, R2, F2⟩ | exact ⟨rfl, x2, HX2.out, ⟨vals2, R2⟩, F2⟩
theorem lookA (cs : List Cl) (hc : ∀ c ∈ cs, clB c = true) (hl : cs.length ≤ 1099511627776) : ∀ k, LookI cs k
  | 0 => look_any cs hc hl 0 (fun m h => by omega)
  | k + 1 => look_any cs hc hl (k + 1) (fun m h => by
    have e : m = k := by omega
    subst e
    exact lookA cs hc hl m)
end Go.Proofs.Ytphjiicdodkfbaa
