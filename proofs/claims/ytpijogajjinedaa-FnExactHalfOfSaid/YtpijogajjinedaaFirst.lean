/-
  The laws on FirstWay and HalfOf, walked: the model and the program answer alike. No condition but a length that fits int.
-/
import Derived.Test.YtpijogajjinedaaGaps
import Derived.Test.YtpijogajjinedaaTake
namespace Go.Proofs.Ytpijogajjinedaa
open Go.RowKit

theorem Sg_gt : ∀ (l : List Int) (i s : Int) (n : Nat), n ≤ l.length → ((i + n ≤ Sg i l s ∧ Wy l s ≠ 0) ↔ Wy (l.drop n) s ≠ 0) := by
  intro l
  induction l with
  | nil =>
    intro i s n hn
    obtain rfl : n = 0 := by simpa using hn
    simp only [List.drop_nil, Sg, Wy]
    by_cases h : s = 0 <;> simp [h]
  | cons a l ih =>
    intro i s n hn
    have b1 := Wy_bd l s
    have b2 := Wy_bd l (s - a)
    cases n with
    | zero =>
      have h0 := ih (i + 1) s 0 (Nat.zero_le _)
      simp only [List.drop_zero] at h0 ⊢
      simp only [Sg, Wy]
      constructor
      · exact fun h => h.2
      · intro h
        refine ⟨?_, h⟩
        by_cases c1 : Wy l (s - a) = 0
        · rw [if_pos c1]
          have := (h0.2 (by omega)).1
          omega
        · rw [if_neg c1]
          by_cases c2 : Wy l s = 0
          · rw [if_pos c2]; omega
          · rw [if_neg c2]
            have := (h0.2 c2).1
            omega
    | succ m =>
      have h0 := ih (i + 1) s m (by simpa using hn)
      simp only [List.drop_succ_cons]
      rw [← h0]
      simp only [Sg, Wy]
      by_cases c1 : Wy l (s - a) = 0
      · rw [if_pos c1, c1]
        constructor
        · intro h; exact ⟨by omega, by omega⟩
        · intro h; exact ⟨by omega, by omega⟩
      · rw [if_neg c1]
        by_cases c2 : Wy l s = 0
        · rw [if_pos c2]
          constructor
          · intro h; omega
          · intro h; exact absurd c2 h.2
        · rw [if_neg c2]
          constructor
          · intro h; exact ⟨by omega, c2⟩
          · intro h; exact ⟨by omega, by omega⟩
theorem Sg_next {xs : List Int} {k : Nat} (hk : k < xs.length) (s : Int) : (k : Int) < Sg 0 xs s ↔ Wy (xs.drop (k + 1)) s ≠ 0 := by
  rw [← Sg_gt xs 0 s (k + 1) hk]
  constructor
  · intro h
    refine ⟨by omega, fun z => ?_⟩
    rw [Sg_zero xs 0 s z] at h
    omega
  · intro h; omega
/-- The first way, piece after piece: the indices, and what is left to be made. -/
def fw (xs : List Int) (s : Int) : Nat → List Int × Int
  | 0 => ([], s)
  | k + 1 => if xs.getD k 0 ≤ (fw xs s k).2 ∧ Wy (xs.drop (k + 1)) ((fw xs s k).2 - xs.getD k 0) ≠ 0 then ((fw xs s k).1 ++ [(k : Int)], (fw xs s k).2 - xs.getD k 0) else fw xs s k
theorem fw_yes {xs : List Int} {s : Int} {k : Nat} {x r : Int} (hx : xs.getD k 0 = x) (hr : (fw xs s k).2 = r) (h1 : x ≤ r) (h2 : Wy (xs.drop (k + 1)) (r - x) ≠ 0) : (fw xs s (k + 1)).1 = (fw xs s k).1 ++ [(k : Int)] ∧ (fw xs s (k + 1)).2 = r - x := by
  simp only [fw, hx, hr]
  rw [if_pos ⟨h1, h2⟩]
  exact ⟨rfl, rfl⟩
theorem fw_no {xs : List Int} {s : Int} {k : Nat} {x r : Int} (hx : xs.getD k 0 = x) (hr : (fw xs s k).2 = r) (h : ¬ (x ≤ r ∧ Wy (xs.drop (k + 1)) (r - x) ≠ 0)) : (fw xs s (k + 1)).1 = (fw xs s k).1 ∧ (fw xs s (k + 1)).2 = r := by
  simp only [fw, hx, hr]
  rw [if_neg h]
  exact ⟨rfl, hr⟩
theorem fw_len (xs : List Int) (s : Int) : ∀ k, (fw xs s k).1.length ≤ k := by
  intro k
  induction k with
  | zero => simp [fw]
  | succ k ih =>
    simp only [fw]
    split
    · simp only [List.length_append, List.length_cons, List.length_nil]; omega
    · omega
theorem Good.dropG {xs : List Int} (h : Good xs) (n : Nat) : Good (xs.drop n) := by
  have e : ∀ j, (xs.drop n).getD j 0 = xs.getD (n + j) 0 := fun j => by simp only [List.getD_eq_getElem?_getD, List.getElem?_drop]
  have hl := h.len
  refine ⟨by simp only [List.length_drop]; omega, fun j hj => ?_, fun j hj => ?_⟩
  · rw [e]; exact h.2.1 _ (by simp only [List.length_drop] at hj; omega)
  · rw [e, e]; exact h.2.2 (n + j) (by simp only [List.length_drop] at hj; omega)
theorem Src.sv {w : World} {v : Value} {xs : List Int} (h : Src w v xs) : Sv w v xs := by
  rcases h with ⟨rfl, rfl⟩ | ⟨b, off, c, hv, hb, hc⟩
  · exact sv_nil w
  · exact ⟨_, _, hv, fun _ => ⟨b, off, rfl, hb, hc⟩⟩

noncomputable def firstB (xs : List Int) (s : Int) : Bool := askB xs s && !(Wy xs s == 0)
noncomputable def firstR (xs : List Int) (s : Int) : List Int := if firstB xs s = true then (fw xs s xs.length).1 else []
theorem first_no {xs : List Int} {s : Int} (h : askB xs s = false) : firstB xs s = false ∧ firstR xs s = [] := by
  have e : firstB xs s = false := by simp [firstB, h]
  exact ⟨e, by simp [firstR, e]⟩
theorem first_none {xs : List Int} {s : Int} (h : Wy xs s = 0) : firstB xs s = false ∧ firstR xs s = [] := by
  have e : firstB xs s = false := by simp [firstB, h]
  exact ⟨e, by simp [firstR, e]⟩
theorem first_yes {xs : List Int} {s : Int} (ha : askB xs s = true) (h : ¬ Wy xs s = 0) : firstB xs s = true ∧ firstR xs s = (fw xs s xs.length).1 := by
  have e : firstB xs s = true := by simp [firstB, ha, h]
  exact ⟨e, by simp [firstR, e]⟩
theorem firstR_len (xs : List Int) (s : Int) : (firstR xs s).length ≤ 1099511627776 := by
  unfold firstR
  by_cases h : firstB xs s = true
  · rw [if_pos h]
    simp only [firstB, askB, Bool.and_eq_true] at h
    have := (goodB_iff.1 h.1.1).len
    have := fw_len xs s xs.length
    omega
  · rw [if_neg h]; simp

set_option maxHeartbeats 8000000 in
set_option maxRecDepth 100000 in
theorem piFirst_any (v : Value) (xs : List Int) (s : Int) (w : World) (h : Sp w v xs) (hg : Good xs) (hs0 : 0 ≤ s) (hs1 : s ≤ 200000) :
    Calls Try.prog 67 #[v, .int .i64 s] w fun e w' => ∃ u, e = .returned u ∧ Ow w' w.heap.size u (fw xs s xs.length).1 ∧ Below w.heap.size w w' := by
  have hsp := h
  have hl := hg.len
  obtain ⟨b, off, cap, rfl, hcap, hcm, hbl, hc⟩ := h
  have hcm : cap ≤ 9223372036854775807 := by unfold maxLen at hcm; exact hcm
  have HC := Lib.hid hc
  clear hc
  go_enter Try.func67, Try.ntmps67
  go_wp2
  go_loopw [1, 5, 10] (fun r a i wr => ∃ (k : Nat) (t : Int), k ≤ xs.length ∧ i = .int .i64 k ∧ r = .int .i64 t ∧ (0 ≤ t ∧ t ≤ 200000) ∧ Hid ((fw xs s k).2 = t) ∧ Ow wr w.heap.size a (fw xs s k).1 ∧ Below w.heap.size w wr) (fun _ _ i _ => xs.length - (intOf i).toNat)
  case atStart => exact ⟨0, s, by omega, rfl, rfl, ⟨hs0, hs1⟩, rfl, ow_nil _ _, Below.refl _ _⟩
  case round =>
    obtain ⟨k, t, hk, rfl, rfl, ⟨ht0, ht1⟩, HF, ho, hb⟩ := hrel
    have hz := hb.size
    by_cases hlt : k < xs.length
    · have hcell := (hb.cell (p := ⟨b, off + k, none⟩) hbl).trans (HC.out k hlt)
      obtain ⟨x, ex⟩ : ∃ x, xs.getD k 0 = x := ⟨_, rfl⟩
      obtain ⟨hx1, hx2⟩ := hg.bd hlt ex
      rw [ex] at hcell
      have EX := Lib.hid ex
      clear ex
      have hfl := fw_len xs s k
      by_cases hxt : x ≤ t
      · have d1 : decide (x ≤ t) = true := by simpa using hxt
        have hi2 : (k : Int) + 1 ≤ (xs.length : Int) := by omega
        have hi3 : (0 : Int) ≤ (k : Int) + 1 := by omega
        have hw : IntKind.i64.wrap ((k : Int) + 1) = (k : Int) + 1 := IntWalk.i64_in _ (by omega)
        have htn : ((k : Int) + 1).toNat = k + 1 := by omega
        have sd := src_drop (w := wr) (b := b) (off := off) (c := cap - (k + 1)) (k := k + 1) (xs := xs) (Nat.lt_of_lt_of_le hbl hz) (fun j hj => (hb.cell (p := ⟨b, off + j, none⟩) hbl).trans (HC.out j hj))
        have hgd := hg.dropG (k + 1)
        by_cases hcc : cap = k + 1
        · have sE := src_end (w := wr) (b := b) (off := off) (c := 0) (k := k + 1) (xs := xs) (Nat.lt_of_lt_of_le hbl hz) (by omega)
          rw [show xs.length - (k + 1) = 0 by omega] at sE
          clear sd
          subst hcc
          go_wp2_with fail
          refine (piMake_any _ (xs.drop (k + 1)) _ _ sE.sv hgd (by omega)).mono ?_
          rintro e w2 ⟨rfl, b2⟩
          have ho2 := ho.below b2 (Nat.le_refl _)
          have hb2 := hb.trans (b2.mono hz)
          have z2 := hb2.size
          clear b2 ho hb sE
          by_cases hwy : Wy (xs.drop (k + 1)) (t - x) = 0
          · have S := Lib.hid (fw_no EX.out HF.out (fun h => h.2 hwy))
            have HW := Lib.hid hwy
            clear hwy
            rw [HW.out]
            go_wp2_with fail
            go_roundw
            case rel => exact ⟨k + 1, t, by omega, by go_num, rfl, ⟨ht0, ht1⟩, S.out.2, by rw [S.out.1]; exact ho2, hb2⟩
            case measure => simp only [intOf]; omega
          · have S := Lib.hid (fw_yes EX.out HF.out hxt hwy)
            have hp : 0 < Wy (xs.drop (k + 1)) (t - x) := by have := (Wy_bd (xs.drop (k + 1)) (t - x)).1; omega
            clear hwy
            go_wp2_with (at_builtin; refine wpList_append_src rfl _ _ rfl w.heap.size _ (fw xs s k).1 rfl (ho2.alloc _) _ [(k : Int)] rfl (src_one _ _) (by simp only [List.length_cons, List.length_nil]; omega) (by simp; omega) ?_; intro v' w3 h3 g3)
            have b3 := (hb2.alloc z2 _).trans ((ho2.alloc _).grown (by simp; omega) g3)
            clear ho2 g3
            go_wp2_with fail
            go_roundw
            case rel => exact ⟨k + 1, t - x, by omega, by go_num, rfl, ⟨by omega, by omega⟩, S.out.2, by rw [S.out.1]; exact h3, b3⟩
            case measure => simp only [intOf]; omega
        · have sE := sd
          clear sd
          go_wp2_with fail
          refine (piMake_any _ (xs.drop (k + 1)) _ _ sE.sv hgd (by omega)).mono ?_
          rintro e w2 ⟨rfl, b2⟩
          have ho2 := ho.below b2 (Nat.le_refl _)
          have hb2 := hb.trans (b2.mono hz)
          have z2 := hb2.size
          clear b2 ho hb sE
          by_cases hwy : Wy (xs.drop (k + 1)) (t - x) = 0
          · have S := Lib.hid (fw_no EX.out HF.out (fun h => h.2 hwy))
            have HW := Lib.hid hwy
            clear hwy
            rw [HW.out]
            go_wp2_with fail
            go_roundw
            case rel => exact ⟨k + 1, t, by omega, by go_num, rfl, ⟨ht0, ht1⟩, S.out.2, by rw [S.out.1]; exact ho2, hb2⟩
            case measure => simp only [intOf]; omega
          · have S := Lib.hid (fw_yes EX.out HF.out hxt hwy)
            have hp : 0 < Wy (xs.drop (k + 1)) (t - x) := by have := (Wy_bd (xs.drop (k + 1)) (t - x)).1; omega
            clear hwy
            go_wp2_with (at_builtin; refine wpList_append_src rfl _ _ rfl w.heap.size _ (fw xs s k).1 rfl (ho2.alloc _) _ [(k : Int)] rfl (src_one _ _) (by simp only [List.length_cons, List.length_nil]; omega) (by simp; omega) ?_; intro v' w3 h3 g3)
            have b3 := (hb2.alloc z2 _).trans ((ho2.alloc _).grown (by simp; omega) g3)
            clear ho2 g3
            go_wp2_with fail
            go_roundw
            case rel => exact ⟨k + 1, t - x, by omega, by go_num, rfl, ⟨by omega, by omega⟩, S.out.2, by rw [S.out.1]; exact h3, b3⟩
            case measure => simp only [intOf]; omega
      · have d1 : decide (x ≤ t) = false := by simpa using hxt
        have S := Lib.hid (fw_no EX.out HF.out (fun h => hxt h.1))
        go_wp2
        go_roundw
        case rel => exact ⟨k + 1, t, by omega, by go_num, rfl, ⟨ht0, ht1⟩, S.out.2, by rw [S.out.1]; exact ho, hb⟩
        case measure => simp only [intOf]; omega
    · have hkl : k = xs.length := by omega
      subst hkl
      go_wp2
      go_ret
      exact ⟨_, rfl, ho, hb⟩

set_option maxHeartbeats 2000000 in
theorem specFirstWay_any (v : Value) (xs : List Int) (s : Int) (w : World) (hsp : Sp w v xs) (hl : xs.length ≤ 1099511627776) :
    Calls Try.prog 35 #[v, .int .i64 s] w fun e w' => ∃ u, e = .returned (.tuple #[u, .bool (firstB xs s)]) ∧ Ow w' w.heap.size u (firstR xs s) ∧ Below w.heap.size w w' := by
  have h := hsp.sv
  by_cases ha : askB xs s = true
  · have hg : goodB xs = true ∧ inB s 0 200000 = true := by simpa [askB] using ha
    have hgood := goodB_iff.1 hg.1
    obtain ⟨hs0, hs1⟩ := inB_iff.1 hg.2
    by_cases hz : Wy xs s = 0
    · have R := Lib.hid (first_none hz)
      have HZ := Lib.hid hz
      clear hz hg
      go_enter Try.func35, Try.ntmps35
      go_wp2_with fail
      refine (piAsked_any _ _ _ _ h hl).mono ?_
      rintro e w1 ⟨rfl, b1⟩
      go_wp2_with fail
      refine (piMake_any _ _ _ _ (h.below b1 (Nat.le_refl _)) hgood hs0).mono ?_
      rintro e w2 ⟨rfl, b2⟩
      rw [HZ.out]
      go_wp2_with fail
      go_ret2
      exact ⟨_, ret_lb rfl R.out.1.symm, by rw [R.out.2]; exact ow_nil _ _, nxt b1 b2⟩
    · have R := Lib.hid (first_yes ha hz)
      have d : (Wy xs s == 0) = false := by simpa using hz
      clear hz hg
      go_enter Try.func35, Try.ntmps35
      go_wp2_with fail
      refine (piAsked_any _ _ _ _ h hl).mono ?_
      rintro e w1 ⟨rfl, b1⟩
      go_wp2_with fail
      refine (piMake_any _ _ _ _ (h.below b1 (Nat.le_refl _)) hgood hs0).mono ?_
      rintro e w2 ⟨rfl, b2⟩
      have b2 := nxt b1 b2
      have z2 := b2.size
      clear b1
      go_wp2_with fail
      refine (piFirst_any _ _ _ _ (hsp.below b2 (Nat.le_refl _)) hgood hs0 hs1).mono ?_
      rintro e w3 ⟨u, rfl, o3, b3⟩
      go_wp2_with fail
      go_ret2
      exact ⟨_, ret_lb rfl R.out.1.symm, by rw [R.out.2]; exact o3.mono z2, nxt b2 b3⟩
  · have ha : askB xs s = false := by simpa using ha
    have R := Lib.hid (first_no ha)
    go_enter Try.func35, Try.ntmps35
    go_wp2_with fail
    refine (piAsked_any _ _ _ _ h hl).mono ?_
    rintro e w1 ⟨rfl, b1⟩
    go_wp2_with fail
    go_ret2
    exact ⟨_, ret_lb rfl R.out.1.symm, by rw [R.out.2]; exact ow_nil _ _, b1⟩

set_option maxHeartbeats 8000000 in
set_option maxRecDepth 100000 in
theorem implFirstWay_any (v : Value) (xs : List Int) (s : Int) (w : World) (hsp : Sp w v xs) (hl : xs.length ≤ 1099511627776) :
    Calls Try.prog 36 #[v, .int .i64 s] w fun e w' => ∃ u, e = .returned (.tuple #[u, .bool (firstB xs s)]) ∧ Ow w' w.heap.size u (firstR xs s) ∧ Below w.heap.size w w' := by
  have h := hsp.sv
  by_cases hg : goodB xs = true
  · have hgood := goodB_iff.1 hg
    have hl20 := hgood.len
    by_cases hi : inB s 0 200000 = true
    · have ha := askB_yes hg hi
      obtain ⟨hs0, hs1⟩ := inB_iff.1 hi
      obtain ⟨htop, htop2⟩ := hgood.top
      have HTOP := Lib.hid htop
      clear htop
      obtain ⟨b, off, cap, rfl, hcap, hcm, hbl, hc⟩ := hsp
      have HC := Lib.hid hc
      clear hc
      go_enter Try.func36, Try.ntmps36
      go_wp2_with fail
      refine (arePieces_any _ _ _ h hl).mono ?_
      rintro e w1 ⟨rfl, b1⟩
      go_wp2_with fail
      refine (isAsked_any _ _).mono ?_
      rintro e w1' ⟨rfl, rfl⟩
      go_wp2_with fail
      refine (tableOf_any _ _ _ (h.below b1 (Nat.le_refl _)) hgood).mono ?_
      rintro e w2 ⟨g, rfl, hgs, htb, b2⟩
      have b2 := nxt b1 b2
      have z2 := b2.size
      clear b1
      go_wp2_with fail
      refine (isSum_any g _ _ _ _ s _ htb (whole_of xs) hs0 (by omega)).mono ?_
      rintro e w2' ⟨rfl, rfl⟩
      by_cases hlt : s < (top xs : Int) + 1
      · have hs2 : sumB (top xs + 1) (fun j => Wy xs j) s = !(Wy xs s == 0) := by
          have e1 : ((s.toNat : Nat) : Int) = s := by omega
          simp only [sumB, e1]
          simp
          omega
        by_cases hz : Wy xs s = 0
        · have R := Lib.hid (first_none hz)
          have S := Lib.hid (show sumB (top xs + 1) (fun j => Wy xs j) s = false by rw [hs2, hz]; rfl)
          clear hs2 hz ha htb
          rw [S.out]
          go_wp2_with fail
          go_ret2
          exact ⟨_, ret_lb rfl R.out.1.symm, by rw [R.out.2]; exact ow_nil _ _, b2⟩
        · have R := Lib.hid (first_yes ha hz)
          have S := Lib.hid (show sumB (top xs + 1) (fun j => Wy xs j) s = true by rw [hs2]; simpa using hz)
          clear hs2 hz ha
          rw [S.out]
          obtain ⟨T, eT⟩ : ∃ T, T = top xs := ⟨_, rfl⟩
          rw [← eT] at htb hlt htop2 ⊢
          clear eT
          have ho0 := ow_empty w2
          go_wp2_with fail
          go_loopw [1, 7, 27] (fun r a i wr => ∃ (k : Nat) (t : Int), k ≤ xs.length ∧ i = .int .i64 k ∧ r = .int .i64 t ∧ (0 ≤ t ∧ t ≤ s) ∧ Hid ((fw xs s k).2 = t) ∧ Ow wr w2.heap.size a (fw xs s k).1 ∧ Below w2.heap.size w2 wr) (fun _ _ i _ => xs.length - (intOf i).toNat)
          case atStart => exact ⟨0, s, by omega, rfl, rfl, ⟨hs0, by omega⟩, rfl, ho0, (Below.refl _ _).alloc (Nat.le_refl _) _⟩
          case round =>
            clear ho0
            obtain ⟨k, t, hk, rfl, rfl, ⟨ht0, ht1⟩, HF, ho, hb⟩ := hrel
            have hz := hb.size
            by_cases hkl : k < xs.length
            · have hcell := ((hb.cell (p := ⟨b, off + k, none⟩) (Nat.lt_of_lt_of_le hbl z2)).trans (b2.cell (p := ⟨b, off + k, none⟩) hbl)).trans (HC.out k hkl)
              obtain ⟨x, ex⟩ : ∃ x, xs.getD k 0 = x := ⟨_, rfl⟩
              obtain ⟨hx1, hx2⟩ := hgood.bd hkl ex
              rw [ex] at hcell
              have EX := Lib.hid ex
              clear ex
              have hfl := fw_len xs s k
              by_cases hxt : x ≤ t
              · have d1 : decide (x ≤ t) = true := by simpa using hxt
                obtain ⟨q, hq⟩ : ∃ q : Nat, (t - x).toNat = q := ⟨_, rfl⟩
                have eq : ((q : Nat) : Int) = t - x := by omega
                obtain ⟨-, -, c3, -, -, -⟩ := (htb.below hb (Nat.le_refl _)).cells (j := q) (by omega)
                have hnext := Sg_next hkl (t - x)
                simp only [eq] at c3
                obtain ⟨G, eG⟩ : ∃ G, Sg 0 xs (t - x) = G := ⟨_, rfl⟩
                rw [eG] at c3 hnext
                have hw : IntKind.i64.wrap (t - x) = t - x := IntWalk.i64_in _ (by omega)
                have hj0 : 0 ≤ t - x := by omega
                have hj1 : t - x < (T : Int) + 1 := by omega
                clear eG eq
                by_cases hwy : Wy (xs.drop (k + 1)) (t - x) = 0
                · have SS := Lib.hid (fw_no EX.out HF.out (fun h => h.2 hwy))
                  have hG : ¬ (k : Int) < G := fun h => hnext.1 h hwy
                  clear hwy hnext
                  go_wp2_with fail
                  go_roundw
                  case rel => exact ⟨k + 1, t, by omega, by go_num, rfl, ⟨ht0, ht1⟩, SS.out.2, by rw [SS.out.1]; exact ho, hb⟩
                  case measure => simp only [intOf]; omega
                · have SS := Lib.hid (fw_yes EX.out HF.out hxt hwy)
                  have hG : (k : Int) < G := hnext.2 hwy
                  clear hwy hnext
                  go_wp2_with (at_builtin; refine wpList_append_src rfl _ _ rfl w2.heap.size _ (fw xs s k).1 rfl (ho.alloc _) _ [(k : Int)] rfl (src_one _ _) (by simp only [List.length_cons, List.length_nil]; omega) (by simp; omega) ?_; intro v' w3 h3 g3)
                  have b3 := (hb.alloc hz _).trans ((ho.alloc _).grown (by simp; omega) g3)
                  clear ho g3 hb
                  go_wp2_with fail
                  go_roundw
                  case rel => exact ⟨k + 1, t - x, by omega, by go_num, rfl, ⟨by omega, by omega⟩, SS.out.2, by rw [SS.out.1]; exact h3, b3⟩
                  case measure => simp only [intOf]; omega
              · have d1 : decide (x ≤ t) = false := by simpa using hxt
                have SS := Lib.hid (fw_no EX.out HF.out (fun h => hxt h.1))
                go_wp2
                go_roundw
                case rel => exact ⟨k + 1, t, by omega, by go_num, rfl, ⟨ht0, ht1⟩, SS.out.2, by rw [SS.out.1]; exact ho, hb⟩
                case measure => simp only [intOf]; omega
            · have hkl : k = xs.length := by omega
              subst hkl
              go_wp2
              go_ret2
              exact ⟨_, ret_lb rfl R.out.1.symm, by rw [R.out.2]; exact ho.mono z2, nxt b2 hb⟩
      · have hz : Wy xs s = 0 := Wy_big xs s hgood.mem (by have := HTOP.out; omega)
        have R := Lib.hid (first_none hz)
        have S := Lib.hid (show sumB (top xs + 1) (fun j => Wy xs j) s = false by have d : decide (s < ((top xs + 1 : Nat) : Int)) = false := by simp only [decide_eq_false_iff_not]; omega
                                                                                  simp only [sumB, d, Bool.false_and])
        clear hz ha htb
        rw [S.out]
        go_wp2_with fail
        go_ret2
        exact ⟨_, ret_lb rfl R.out.1.symm, by rw [R.out.2]; exact ow_nil _ _, b2⟩
    · have hi : inB s 0 200000 = false := by simpa using hi
      have R := Lib.hid (first_no (askB_out (xs := xs) hi))
      go_enter Try.func36, Try.ntmps36
      go_wp2_with fail
      refine (arePieces_any _ _ _ h hl).mono ?_
      rintro e w1 ⟨rfl, b1⟩
      go_wp2_with fail
      refine (isAsked_any _ _).mono ?_
      rintro e w1' ⟨rfl, rfl⟩
      go_wp2_with fail
      go_ret2
      exact ⟨_, ret_lb rfl R.out.1.symm, by rw [R.out.2]; exact ow_nil _ _, b1⟩
  · have hg : goodB xs = false := by simpa using hg
    have R := Lib.hid (first_no (askB_no (s := s) hg))
    go_enter Try.func36, Try.ntmps36
    go_wp2_with fail
    refine (arePieces_any _ _ _ h hl).mono ?_
    rintro e w1 ⟨rfl, b1⟩
    go_wp2_with fail
    go_ret2
    exact ⟨_, ret_lb rfl R.out.1.symm, by rw [R.out.2]; exact ow_nil _ _, b1⟩

set_option maxHeartbeats 4000000 in
theorem lawFirstWay (v : Value) (xs : List Int) (a1 : Int) (w : World) (h : Sv w v xs) (hm : xs.length ≤ 9223372036854775807) :
    Calls Try.prog 9 #[v, .int .i64 a1] w fun e w' => e = .returned (.bool true) ∧ Below w.heap.size w w' := by
  have hs := h
  obtain ⟨p, cap, rfl, hx⟩ := h
  clear hx
  by_cases hbig : 1048576 < xs.length
  · go_enter Try.func9, Try.ntmps9
    go_wp2
    go_ret
    exact ⟨rfl, Below.refl _ _⟩
  · have hl : xs.length ≤ 1099511627776 := by omega
    have hyl : (firstR xs a1).length ≤ 1099511627776 := firstR_len _ _
    go_enter Try.func9, Try.ntmps9
    go_wp2_with fail
    refine (toIntS_any _ _ _ hs hl).mono ?_
    rintro e w1 ⟨u1, rfl, o1, a1', b1⟩
    go_wp2_with fail
    refine (specFirstWay_any _ _ _ _ (o1.sp a1') hl).mono ?_
    rintro e w2 ⟨v2, rfl, o2, b2⟩
    have z1 := b1.size
    have o2 := o2.mono z1
    have t2 := nxt b1 b2
    clear o1 b1 b2 a1'
    go_wp2_with fail
    refine (toIntS_any _ _ _ (hs.below t2 (Nat.le_refl _)) hl).mono ?_
    rintro e w3 ⟨u3, rfl, o3, a3, b3⟩
    have z2 := t2.size
    have p2 := ap_below o2 a3 (Nat.le_refl _)
    have lt3 := own_lt o3 a3
    have q2 := o2.below b3 (Nat.le_refl _)
    have t3 := nxt t2 b3
    clear b3 t2
    go_wp2_with fail
    refine (implFirstWay_any _ _ _ _ (o3.sp a3) hl).mono ?_
    rintro e w4 ⟨g4, rfl, o4, b4⟩
    have z3 := t3.size
    have p4 := ap_above o4 a3 lt3
    have p24 := ap_two o2 o4 (by omega)
    have o4 := o4.mono z3
    have q2 := q2.below b4 (Nat.le_refl _)
    have q3 := o3.below b4 (Nat.le_refl _)
    have t4 := nxt t3 b4
    clear o3 b4 t3 o2
    go_wp2_with fail
    refine (eqIntS_yes _ _ _ _ _ o4.sv q2.sv rfl hyl).mono ?_
    rintro e w5 ⟨rfl, b5⟩
    have o4 := o4.below b5 (Nat.le_refl _)
    have q2 := q2.below b5 (Nat.le_refl _)
    have q3 := q3.below b5 (Nat.le_refl _)
    have t5 := nxt t4 b5
    clear b5 t4
    go_wp2_with fail
    refine (toIntS_any _ _ _ (hs.below t5 (Nat.le_refl _)) hl).mono ?_
    rintro e w6 ⟨u6, rfl, o6, -, b6⟩
    have o4 := o4.below b6 (Nat.le_refl _)
    have q2 := q2.below b6 (Nat.le_refl _)
    have q3 := q3.below b6 (Nat.le_refl _)
    have t6 := nxt t5 b6
    clear b6 t5
    go_wp2_with fail
    refine (eqIntS_yes _ _ _ _ _ q3.sv o6.sv rfl hl).mono ?_
    rintro e w7 ⟨rfl, b7⟩
    have o4 := o4.below b7 (Nat.le_refl _)
    have q2 := q2.below b7 (Nat.le_refl _)
    have q3 := q3.below b7 (Nat.le_refl _)
    have t7 := nxt t6 b7
    have z7 := t7.size
    clear b7 t6 o6
    go_wp2_with fail
    refine (markIntS_any _ xs _ 1 _ q3 hl (by omega) (by omega)).mono ?_
    rintro e w8 ⟨rfl, -, g8⟩
    have o4 := o4.kept g8 p4
    have q2 := q2.kept g8 p2
    have t8 := t7.trans (q3.marked z2 (Nat.le_of_lt (own_lt q3 a3)) g8)
    have z8 := t8.size
    clear q3 g8 t7 a3
    go_wp2_with fail
    refine (eqIntS_yes _ _ _ _ _ o4.sv q2.sv rfl hyl).mono ?_
    rintro e w9 ⟨rfl, b9⟩
    have o4 := o4.below b9 (Nat.le_refl _)
    have q2 := q2.below b9 (Nat.le_refl _)
    have t9 := nxt t8 b9
    have z9 := t9.size
    clear b9 t8
    go_wp2_with fail
    refine (markIntS_any _ (firstR xs a1) _ 1 _ o4 hyl (by omega) (by omega)).mono ?_
    rintro e w10 ⟨rfl, o10, g10⟩
    have q2 := q2.kept g10 p24
    have t10 := t9.trans (o4.marked (Nat.le_refl _) z9 g10)
    clear o4 g10 t9
    go_wp2_with fail
    refine (heldIntS_any _ (firstR xs a1).length 1 _ o10.sv hyl (by omega) (by omega)).mono ?_
    rintro e w10' ⟨rfl, rfl⟩
    go_wp2_with fail
    refine (toIntS_any _ _ _ (hs.below t10 (Nat.le_refl _)) hl).mono ?_
    rintro e w11 ⟨u11, rfl, o11, a11, b11⟩
    have o10 := o10.below b11 (Nat.le_refl _)
    have q2 := q2.below b11 (Nat.le_refl _)
    have t11 := nxt t10 b11
    clear b11 t10
    go_wp2_with fail
    refine (implFirstWay_any _ _ _ _ (o11.sp a11) hl).mono ?_
    rintro e w12 ⟨h12, rfl, o12, b12⟩
    have o10 := o10.below b12 (Nat.le_refl _)
    have q2 := q2.below b12 (Nat.le_refl _)
    have t12 := nxt t11 b12
    clear b12 t11 o11 a11
    go_wp2_with fail
    refine (eqIntS_yes _ _ _ _ _ o12.sv q2.sv rfl hyl).mono ?_
    rintro e w13 ⟨rfl, b13⟩
    have o10 := o10.below b13 (Nat.le_refl _)
    have t13 := nxt t12 b13
    clear b13 t12 o12 q2
    go_wp2_with fail
    refine (heldIntS_any _ (firstR xs a1).length 1 _ o10.sv hyl (by omega) (by omega)).mono ?_
    rintro e w13' ⟨rfl, rfl⟩
    go_wp2_with fail
    go_ret
    exact ⟨rfl, t13⟩

end Go.Proofs.Ytpijogajjinedaa
