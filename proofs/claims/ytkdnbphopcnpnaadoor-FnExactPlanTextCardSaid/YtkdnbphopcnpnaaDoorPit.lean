/-
  The text of a plan in the program. Conditions: slices of at most 2^20 numbers in all; the library's table of powers of ten is as it was laid.
-/
import Derived.Test.YtkdnbphopcnpnaaDoorPdt
namespace Go.Proofs.YtkdnbphopcnpnaaDoor
open Go.RowKit

def dayL (xs : List Int) (pl : List (List Int)) (d : Nat) : List UInt8 := dayS xs (befL pl d) (nowL pl d)
/-- The text of the first k days. -/
def txtTo (xs : List Int) (pl : List (List Int)) (k : Nat) : List UInt8 := Lib.join ((List.range k).map (dayL xs pl)) [47]
theorem txtTo_zero (xs : List Int) (pl : List (List Int)) : txtTo xs pl 0 = [] := by simp [txtTo, Lib.join_nil]
theorem txtTo_one (xs : List Int) (pl : List (List Int)) : txtTo xs pl 1 = dayL xs pl 0 := by simp [txtTo, Lib.join_one]
theorem txtTo_succ (xs : List Int) (pl : List (List Int)) {k : Nat} (h : 0 < k) : txtTo xs pl (k + 1) = txtTo xs pl k ++ [47] ++ dayL xs pl k := by
  unfold txtTo
  rw [List.range_succ, List.map_append, List.map_singleton, join_snoc]
  intro e
  have := congrArg List.length e
  simp at this
  omega
structure PlanIs (xs : List Int) (pl : List (List Int)) : Prop where
  good : Good xs
  few : xs.length ≤ 8
  ok : PlanOk xs.length pl
theorem PlanIs.day_len {xs : List Int} {pl : List (List Int)} (P : PlanIs xs pl) {d : Nat} (hd : d < pl.length) : (dayL xs pl d).length ≤ 160032 := by
  have R1 := P.ok.row P.few hd
  have R2 := P.ok.bef P.few hd
  have l1 := sgn_len (c := 43) P.good (onlyL (nowL pl d) (befL pl d)) (fun i hi => by have := (R1.1.only _).mem i hi; omega)
  have l2 := sgn_len (c := 45) P.good (onlyL (befL pl d) (nowL pl d)) (fun i hi => by have := (R2.1.only _).mem i hi; omega)
  have n1 := only_len (nowL pl d) (befL pl d)
  have n2 := only_len (befL pl d) (nowL pl d)
  have n3 := R1.2.len
  have n4 := R2.2.len
  unfold dayL dayS
  split
  · simp
  · unfold rawS; rw [List.length_append]; omega
theorem PlanIs.txt_len {xs : List Int} {pl : List (List Int)} (P : PlanIs xs pl) : ∀ k, k ≤ pl.length → (txtTo xs pl k).length ≤ 160033 * k := by
  intro k
  induction k with
  | zero => intro _; rw [txtTo_zero]; simp
  | succ k ih =>
    intro hk
    have h1 := ih (by omega)
    have h2 := P.day_len (d := k) (by omega)
    by_cases h0 : k = 0
    · subst h0; rw [txtTo_one]; omega
    · rw [txtTo_succ _ _ (by omega), List.length_append, List.length_append, List.length_singleton]; omega
noncomputable def ptR (xs : List Int) (pl : List (List Int)) : ByteArray := if okP xs pl = true then bstr (txtTo xs pl pl.length) else ⟨#[]⟩
theorem ptR_yes {xs : List Int} {pl : List (List Int)} (h : okP xs pl = true) : ptR xs pl = bstr (txtTo xs pl pl.length) := by simp [ptR, h]
theorem ptR_no {xs : List Int} {pl : List (List Int)} (h : okP xs pl = false) : ptR xs pl = ⟨#[]⟩ := by simp [ptR, h]
theorem ret_sb {a b : ByteArray} {c d : Bool} (h : a = b) (g : c = d) : Ending.returned (.tuple #[.string a, .bool c]) = .returned (.tuple #[.string b, .bool d]) := by rw [h, g]
def dayStr (xs : List Int) (pl : List (List Int)) (k : Nat) : List ByteArray := (List.range k).map fun d => bstr (dayL xs pl d)
theorem dayStr_len (xs : List Int) (pl : List (List Int)) (k : Nat) : (dayStr xs pl k).length = k := by simp [dayStr]
theorem dayStr_succ (xs : List Int) (pl : List (List Int)) (k : Nat) : dayStr xs pl (k + 1) = dayStr xs pl k ++ [bstr (dayL xs pl k)] := by
  unfold dayStr; rw [List.range_succ, List.map_append]; rfl
theorem dayStr_join (xs : List Int) (pl : List (List Int)) (k : Nat) : Lib.join ((dayStr xs pl k).map (·.data.toList)) [47] = txtTo xs pl k := by
  unfold dayStr txtTo; rw [List.map_map]; rfl

theorem join_any (v : Value) (B : Nat) (xs : List Int) (pl : List (List Int)) (w : World) (h : Ws w B v (dayStr xs pl pl.length)) (P : PlanIs xs pl) :
    Calls Tryd.prog 19 #[v, .string ⟨#[47]⟩] w fun e w' => e = .returned (.string (bstr (txtTo xs pl pl.length))) ∧ Below w.heap.size w w' := by
  have hl := dayStr_len xs pl pl.length
  have h60 := P.ok.1
  by_cases h0 : pl.length = 0
  · obtain ⟨_, h2⟩ := h
    rw [h0] at h2
    have e : txtTo xs pl pl.length = [] := by rw [h0]; exact txtTo_zero _ _
    rw [e]
    rcases h2 with ⟨hv, _⟩ | ⟨g, cap, cur, hv, _⟩
    · subst hv
      refine (Tryd.strings_Join_none none 0 ⟨#[47]⟩ w).mono ?_
      rintro e w' ⟨rfl, rfl⟩
      exact ⟨rfl, Below.refl _ _⟩
    · subst hv
      refine (Tryd.strings_Join_none (some ⟨g, 0, none⟩) cap ⟨#[47]⟩ w).mono ?_
      rintro e w' ⟨rfl, rfl⟩
      exact ⟨rfl, Below.refl _ _⟩
  · obtain ⟨g, cap, rfl, hb, hcap, hc⟩ := Ws.cells h (by rw [hl]; omega)
    have h3 : Lib.join ((dayStr xs pl pl.length).map (·.data.toList)) (⟨#[47]⟩ : ByteArray).data.toList = txtTo xs pl pl.length := dayStr_join xs pl _
    have h4 := P.txt_len pl.length (Nat.le_refl _)
    refine (Tryd.strings_Join g 0 cap (dayStr xs pl pl.length) ⟨#[47]⟩ w hc hb (by rw [hl]; omega) hcap (by rw [h3]; omega)).mono ?_
    rintro e w' ⟨rfl, hw⟩
    exact ⟨by rw [h3]; rfl, hw⟩

set_option maxHeartbeats 4000000 in
set_option maxRecDepth 20000 in
theorem implPlanText_any (v u : Value) (xs : List Int) (pl : List (List Int)) (w : World) (hv : Sv w v xs) (hu : Svv w u pl) (hl : xs.length ≤ 1099511627776) (hf : Few2 pl) (ht : Ten w) :
    Calls Tryd.prog 8 #[v, u] w fun e w' => e = .returned (.tuple #[.string (ptR xs pl), .bool (okP xs pl)]) ∧ Below w.heap.size w w' := by
  have HV := Lib.hid hv
  have HU := Lib.hid hu
  have HF := Lib.hid hf
  have HT := Lib.hid ht
  clear hv hu hf ht
  by_cases hd : okP xs pl = true
  · have hq := okP_iff hd
    have R := Lib.hid (ptR_yes hd)
    have HDY := Lib.hid hd
    have hfw := fewB_iff hq.1
    have HP := Lib.hid (show PlanIs xs pl from ⟨hfw.1, hfw.2, planB_iff.1 hq.2⟩)
    have h60 := HP.out.ok.1
    have hcl := chgL_len pl
    clear hd hfw
    go_enter Tryd.func8, Tryd.ntmps8
    go_wp2_with fail
    refine (changesOf_yes _ _ _ _ _ HV.out HU.out HF.out hq.1 hq.2).mono ?_
    rintro e w1 ⟨c, rfl, o1, b1⟩
    obtain ⟨p, cap, rfl, hx⟩ := or_cells o1
    rw [hcl] at hx ⊢
    have z1 := b1.size
    clear hq o1 hcl
    go_wp2
    go_loopw [8, 22] (fun t i wr => ∃ k : Nat, k ≤ pl.length ∧ i = .int .i64 k ∧ Ws wr w1.heap.size t (dayStr xs pl k) ∧ Below w1.heap.size w1 wr) (fun _ i _ => pl.length - (intOf i).toNat)
    case atStart => exact ⟨0, Nat.zero_le _, rfl, os_empty w1, (Below.refl _ _).alloc (Nat.le_refl _) _⟩
    case round =>
      obtain ⟨k, hk, rfl, ho, hb1⟩ := hrel
      have hb := nxt b1 hb1
      have hz := hb.size
      have hz1 := hb1.size
      have hdl := dayStr_len xs pl k
      by_cases hlt : k < pl.length
      · obtain ⟨g, rfl, hg, hcap, hc⟩ := hx (by omega)
        have hat := cV_at _ _ _ (chgL_at hlt)
        simp only at hat
        have R1 := HP.out.ok.row HP.out.few hlt
        have R2 := HP.out.ok.bef HP.out.few hlt
        have e1 : wr.cell? ⟨g, k * 2, none⟩ = some (.int .u64 (maskL (befL pl k) : Nat)) := (hb1.cell (p := ⟨g, k * 2, none⟩) hg).trans (hc _ _ hat.1)
        have e2 : wr.cell? ⟨g, k * 2 + 1, none⟩ = some (.int .u64 (maskL (nowL pl k) : Nat)) := (hb1.cell (p := ⟨g, k * 2 + 1, none⟩) hg).trans (hc _ _ hat.2)
        have TX : ∀ W, Below w.heap.size w W → Hid (Calls Tryd.prog 18 #[.agg #[.int .u64 (maskL (befL pl k) : Nat), .int .u64 (maskL (nowL pl k) : Nat)], v] W fun e w' => e = .returned (.string (bstr (dayL xs pl k))) ∧ Below W.heap.size W w') :=
          fun W hB => Lib.hid (text_any _ _ v xs W (HV.out.below hB (Nat.le_refl _)) HP.out.good HP.out.few R2.1 R1.1 (HT.out.below hB (Nat.le_refl _)))
        have S := Lib.hid (dayStr_succ xs pl k)
        obtain ⟨x, ex⟩ : ∃ x, maskL (befL pl k) = x := ⟨_, rfl⟩
        obtain ⟨y, ey⟩ : ∃ y, maskL (nowL pl k) = y := ⟨_, rfl⟩
        obtain ⟨T, eT⟩ : ∃ T, bstr (dayL xs pl k) = T := ⟨_, rfl⟩
        rw [ex] at e1 TX
        rw [ey] at e2 TX
        rw [eT] at TX S
        clear hc hx hat R1 R2 ex ey eT
        have hal : Below w.heap.size w (wr.alloc (.cells #[.int .u64 x, .int .u64 y] 44)) := hb.alloc hz _
        have hal1 : Below w1.heap.size w1 (wr.alloc (.cells #[.int .u64 x, .int .u64 y] 44)) := hb1.alloc hz1 _
        have hoA := ho.alloc (.cells #[.int .u64 x, .int .u64 y] 44)
        clear ho
        go_wp2_with fail
        refine ((TX _ hal).out).mono ?_
        rintro e w2 ⟨rfl, b2⟩
        have ho2 := hoA.below b2 (Nat.le_refl _)
        have hb3 := hal1.trans (Below.mono b2 hal1.size)
        have hz3 := hb3.size
        clear hoA b2 hal hal1 hb hb1 TX
        go_wp2_with (at_builtin; refine wpList_append_str rfl _ _ rfl w1.heap.size _ (dayStr xs pl k) rfl (ho2.alloc _) w2.heap.size T rfl (by simp) (by omega) (by simp; omega) ?_; intro v' w3 h3 g3)
        have b3 := (hb3.alloc hz3 _).trans ((ho2.alloc _).grown (by simp; omega) g3)
        clear g3
        go_roundw
        case rel => exact ⟨k + 1, by omega, by go_num, by rw [S.out]; exact h3, b3⟩
        case measure => simp only [intOf]; omega
      · clear hx
        have hke : k = pl.length := by omega
        subst hke
        go_wp2_with fail
        refine (join_any _ _ _ _ _ ho HP.out).mono ?_
        rintro e w4 ⟨rfl, b4⟩
        go_wp2_with fail
        go_ret2
        exact ⟨ret_sb R.out.symm HDY.out.symm, nxt hb b4⟩
  · have hd : okP xs pl = false := by simpa using hd
    have R := Lib.hid (ptR_no hd)
    have HDY := Lib.hid hd
    have CO := Lib.hid (changesOf_no _ _ _ _ w HV.out HU.out hl HF.out hd)
    clear hd
    go_enter Tryd.func8, Tryd.ntmps8
    go_wp2_with fail
    refine CO.out.mono ?_
    rintro e w1 ⟨rfl, b1⟩
    go_wp2_with fail
    go_ret2
    exact ⟨ret_sb R.out.symm HDY.out.symm, b1⟩
end Go.Proofs.YtkdnbphopcnpnaaDoor
