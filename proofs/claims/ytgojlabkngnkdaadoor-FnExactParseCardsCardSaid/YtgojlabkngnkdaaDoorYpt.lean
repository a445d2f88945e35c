/-
  The text of a puzzle in the model, by its contract. Condition: the clues are a puzzle's.
-/
import Derived.Test.YtgojlabkngnkdaaDoorNtx
import Derived.Test.YtgojlabkngnkdaaDoorYis
import Derived.Test.YtgojlabkngnkdaaDoorYlw
import Derived.Deep.RegionHeld3
import Derived.Deep.CutRange
namespace Go.Proofs.YtgojlabkngnkdaaDoor
open Go.RowKit

theorem numP_any (x : Int) (w : World) (h0 : 0 ≤ x) (h1 : x ≤ 1000) :
    Calls Tryd.prog 54 #[.int .i64 x] w fun e w' => e = .returned (.string (bstr (dd x))) ∧ Below w.heap.size w w' := by
  have h := l1Num_any x.toNat w (by omega)
  rw [show ((x.toNat : Nat) : Int) = x by omega] at h
  exact h
/-- The text of a clue. -/
def clT (c : Cl) : List UInt8 := dd c.k ++ [46] ++ dd c.a ++ [46] ++ dd c.b
/-- The text of the first k clues. -/
def txtP (cs : List Cl) (k : Nat) : List UInt8 := Lib.join ((cs.take k).map clT) [44]
theorem txtP_zero (cs : List Cl) : txtP cs 0 = [] := by simp [txtP, Lib.join_nil]
theorem cl_take {cs : List Cl} {k : Nat} {c : Cl} (hk : k < cs.length) (hc : cs[k] = c) : cs.take (k + 1) = cs.take k ++ [c] := by
  rw [List.take_add_one, List.getElem?_eq_getElem hk, hc]; rfl
theorem txtP_one {cs : List Cl} {c : Cl} (hk : 0 < cs.length) (hc : cs[0] = c) : txtP cs 1 = clT c := by
  unfold txtP
  rw [cl_take hk hc]
  simp [Lib.join_one]
theorem txtP_succ {cs : List Cl} {k : Nat} {c : Cl} (h0 : 0 < k) (hk : k < cs.length) (hc : cs[k] = c) : txtP cs (k + 1) = txtP cs k ++ [44] ++ clT c := by
  unfold txtP
  rw [cl_take hk hc, List.map_append, List.map_singleton, join_snoc]
  intro e
  have := congrArg List.length e
  simp only [List.length_map, List.length_take, List.length_nil] at this
  omega
def TxtPAt (cs : List Cl) (k : Nat) (S : ByteArray) : Prop := S = bstr (txtP cs k)
theorem clT_b (c : Cl) : bstr (clT c) = bstr (dd c.k) ++ ⟨#[46]⟩ ++ bstr (dd c.a) ++ ⟨#[46]⟩ ++ bstr (dd c.b) := by
  have e : (⟨#[46]⟩ : ByteArray) = bstr [46] := rfl
  rw [e, bstr_app, bstr_app, bstr_app, bstr_app]; rfl
theorem TxtPAt.first {cs : List Cl} {c : Cl} (hk : 0 < cs.length) (hc : cs[0] = c) {S : ByteArray} (h : TxtPAt cs 0 S) : TxtPAt cs (0 + 1) (S ++ (bstr (dd c.k) ++ ⟨#[46]⟩ ++ bstr (dd c.a) ++ ⟨#[46]⟩ ++ bstr (dd c.b))) := by
  unfold TxtPAt at *
  rw [h, ← clT_b, txtP_zero, bstr_app, List.nil_append, txtP_one hk hc]
theorem TxtPAt.next {cs : List Cl} {k : Nat} {c : Cl} (h0 : 0 < k) (hk : k < cs.length) (hc : cs[k] = c) {S : ByteArray} (h : TxtPAt cs k S) : TxtPAt cs (k + 1) (S ++ ⟨#[44]⟩ ++ (bstr (dd c.k) ++ ⟨#[46]⟩ ++ bstr (dd c.a) ++ ⟨#[46]⟩ ++ bstr (dd c.b))) := by
  unfold TxtPAt at *
  have e : (⟨#[44]⟩ : ByteArray) = bstr [44] := rfl
  rw [h, ← clT_b, e, bstr_app, bstr_app, txtP_succ h0 hk hc]
theorem bx3 {W W' : World} {g : Nat} {x y z : Value} {t : TypeId} (h : W.heap[g]? = some (.cells #[x, y, z] t (0, 0))) (k : Below W.heap.size W W') :
    W'.cell? ⟨g, 0, none⟩ = some x ∧ W'.cell? ⟨g, 1, none⟩ = some y ∧ W'.cell? ⟨g, 2, none⟩ = some z ∧ Below W.heap.size W W' := by
  have e := (k.block g (Array.getElem?_eq_some_iff.1 h).1).trans h
  exact ⟨by rw [cell_of_row _ _ _ _ _ _ e]; rfl, by rw [cell_of_row _ _ _ _ _ _ e]; rfl, by rw [cell_of_row _ _ _ _ _ _ e]; rfl, k⟩
theorem bx3b {W W' : World} (g : Nat) (x y z : Value) (h : W'.cell? ⟨g, 0, none⟩ = some x ∧ W'.cell? ⟨g, 1, none⟩ = some y ∧ W'.cell? ⟨g, 2, none⟩ = some z ∧ Below W.heap.size W W') : Below W.heap.size W W' := h.2.2.2
theorem pz_cl {cs : List Cl} (h : pzB cs = true) : cs.length ≤ 6 ∧ ∀ k (hk : k < cs.length), (0 ≤ cs[k].k ∧ cs[k].k ≤ 1000) ∧ (0 ≤ cs[k].a ∧ cs[k].a ≤ 1000) ∧ 0 ≤ cs[k].b ∧ cs[k].b ≤ 1000 := by
  simp only [pzB, Bool.and_eq_true, decide_eq_true_eq, List.all_eq_true] at h
  refine ⟨h.1, fun k hk => ?_⟩
  have P := clB_parts (h.2 _ (List.getElem_mem hk))
  generalize cs[k] = c at *
  obtain ⟨⟨a1, a2⟩, ⟨b1, b2⟩, c1, c2⟩ := P
  have q1 : 0 ≤ clL c.k := by unfold clL; split <;> omega
  have q2 : clM c.k ≤ 1000 := by unfold clM; split; omega; split <;> omega
  have q3 : clQ c.k ≤ 1000 := by unfold clQ; split; omega; split; omega; split <;> omega
  exact ⟨⟨a1, by omega⟩, ⟨by omega, by omega⟩, c1, by omega⟩

set_option maxHeartbeats 8000000 in
set_option maxRecDepth 100000 in
theorem pzText_any (v : Value) (cs : List Cl) (w : World) (h : Cv w v cs) (hg : pzB cs = true) :
    Calls Tryd.prog 42 #[.agg #[v]] w fun e w' => e = .returned (.string (bstr (txtP cs cs.length))) ∧ Below w.heap.size w w' := by
  obtain ⟨p, cap, rfl, _, _, hx⟩ := h
  have HX := Lib.hid hx
  have HG := Lib.hid (pz_cl hg).2
  have hl := (pz_cl hg).1
  clear hx hg
  have HC := Lib.hid (cells1_of (heap_alloc_new w (.cells #[.slice p cs.length cap] 43)))
  go_enter Tryd.func42, Tryd.ntmps42
  go_wp2
  go_loopw [3, 9] (fun t i wr => ∃ (k : Nat) (S : ByteArray), k ≤ cs.length ∧ i = .int .i64 k ∧ t = .string S ∧ S.size ≤ 60000 * k ∧ Hid (TxtPAt cs k S) ∧ Below w.heap.size w wr) (fun _ i _ => cs.length - (intOf i).toNat)
  case atStart => exact ⟨0, ⟨#[]⟩, Nat.zero_le _, rfl, rfl, by simp [ByteArray.size], Lib.hid (by unfold TxtPAt; rw [txtP_zero]; rfl), (Below.refl _ _).alloc (Nat.le_refl _) _⟩
  case round =>
    obtain ⟨k, S, hk, rfl, rfl, hsz, HA, hb⟩ := hrel
    by_cases hlt : k < cs.length
    · obtain ⟨b, off, rfl, hbl, hc⟩ := HX.out (by omega)
      obtain ⟨h1, h2, h3⟩ := hc k hlt
      have g1 : wr.cell? ⟨b, off + k * 3, none⟩ = _ := (hb.cell (p := ⟨b, off + k * 3, none⟩) hbl).trans h1
      have g2 : wr.cell? ⟨b, off + k * 3 + 1, none⟩ = _ := (hb.cell (p := ⟨b, off + k * 3 + 1, none⟩) hbl).trans h2
      have g3 : wr.cell? ⟨b, off + k * 3 + 2, none⟩ = _ := (hb.cell (p := ⟨b, off + k * 3 + 2, none⟩) hbl).trans h3
      clear hc h1 h2 h3
      have GB := HG.out k hlt
      have E : Hid (cs[k] = cA cs k) := Lib.hid (by rw [cA_of hlt])
      rw [E.out] at GB
      generalize cA cs k = c at *
      obtain ⟨K, A, B⟩ := c
      obtain ⟨⟨a1, a2⟩, ⟨b1, b2⟩, c1, c2⟩ := GB
      simp only at a1 a2 b1 b2 c1 c2 g1 g2 g3
      have hb1 : Below w.heap.size w (wr.alloc (.cells #[.int .i64 K, .int .i64 A, .int .i64 B] 73)) := hb.alloc hb.size _
      obtain ⟨W1, eW⟩ : ∃ W1, wr.alloc (.cells #[.int .i64 K, .int .i64 A, .int .i64 B] 73) = W1 := ⟨_, rfl⟩
      have SA := fun (W' : World) (h : Below W1.heap.size W1 W') => Lib.hid (bx3 (show W1.heap[wr.heap.size]? = some (.cells #[.int .i64 K, .int .i64 A, .int .i64 B] 73 (0, 0)) by rw [← eW]; exact heap_alloc_new wr _) h)
      rw [eW] at hb1
      obtain ⟨DK, eK⟩ : ∃ D, bstr (dd K) = D := ⟨_, rfl⟩
      obtain ⟨DA, eA⟩ : ∃ D, bstr (dd A) = D := ⟨_, rfl⟩
      obtain ⟨DB, eB⟩ : ∃ D, bstr (dd B) = D := ⟨_, rfl⟩
      have zK : DK.size ≤ 10001 := by rw [← eK, bstr_size]; exact dd_len (by omega)
      have zA : DA.size ≤ 10001 := by rw [← eA, bstr_size]; exact dd_len (by omega)
      have zB : DB.size ≤ 10001 := by rw [← eB, bstr_size]; exact dd_len (by omega)
      have HK : ∀ w, Hid _ := fun w => Lib.hid (numP_any K w a1 a2)
      have HAA : ∀ w, Hid _ := fun w => Lib.hid (numP_any A w b1 b2)
      have HB : ∀ w, Hid _ := fun w => Lib.hid (numP_any B w c1 c2)
      rw [eK] at HK
      rw [eA] at HAA
      rw [eB] at HB
      have EK := Lib.hid eK
      have EA := Lib.hid eA
      have EB := Lib.hid eB
      clear eK eA eB a1 a2 b1 b2 c1 c2
      by_cases h0 : k = 0
      · subst h0
        simp only [Nat.zero_mul, Nat.add_zero] at g1 g2 g3
        have zd : (⟨#[46]⟩ : ByteArray).size = 1 := rfl
        have zc : (⟨#[44]⟩ : ByteArray).size = 1 := rfl
        have q1 : ¬ DK.size + (⟨#[46]⟩ : ByteArray).size > 9223372036854775807 := by first | (simp only [ByteArray.size_append]; omega) | omega
        have q2 : ¬ (DK ++ (⟨#[46]⟩ : ByteArray)).size + DA.size > 9223372036854775807 := by first | (simp only [ByteArray.size_append]; omega) | omega
        have q2b : ¬ (DK.size + (⟨#[46]⟩ : ByteArray).size) + DA.size > 9223372036854775807 := by omega
        have q3 : ¬ (DK ++ (⟨#[46]⟩ : ByteArray) ++ DA).size + (⟨#[46]⟩ : ByteArray).size > 9223372036854775807 := by first | (simp only [ByteArray.size_append]; omega) | omega
        have q3b : ¬ (DK.size + (⟨#[46]⟩ : ByteArray).size + DA.size) + (⟨#[46]⟩ : ByteArray).size > 9223372036854775807 := by omega
        have q4 : ¬ (DK ++ (⟨#[46]⟩ : ByteArray) ++ DA ++ (⟨#[46]⟩ : ByteArray)).size + DB.size > 9223372036854775807 := by first | (simp only [ByteArray.size_append]; omega) | omega
        have q4b : ¬ (DK.size + (⟨#[46]⟩ : ByteArray).size + DA.size + (⟨#[46]⟩ : ByteArray).size) + DB.size > 9223372036854775807 := by omega
        have q5 : ¬ S.size + (DK ++ (⟨#[46]⟩ : ByteArray) ++ DA ++ (⟨#[46]⟩ : ByteArray) ++ DB).size > 9223372036854775807 := by first | (simp only [ByteArray.size_append]; omega) | omega
        have q5b : ¬ S.size + (DK.size + (⟨#[46]⟩ : ByteArray).size + DA.size + (⟨#[46]⟩ : ByteArray).size + DB.size) > 9223372036854775807 := by omega
        have q1c : ¬ DK.size + 1 > 9223372036854775807 := by omega
        have q2c : ¬ (DK.size + 1) + DA.size > 9223372036854775807 := by omega
        have q3c : ¬ (DK.size + 1 + DA.size) + 1 > 9223372036854775807 := by omega
        have q4c : ¬ (DK.size + 1 + DA.size + 1) + DB.size > 9223372036854775807 := by omega
        have q5c : ¬ S.size + (DK.size + 1 + DA.size + 1 + DB.size) > 9223372036854775807 := by omega
        clear zd zc
        go_upto_region 7 with (fail)
        try rw [eW]
        go_region_held3 (fun w' => w'.cell? ⟨wr.heap.size, 0, none⟩ = some (.int .i64 K) ∧ w'.cell? ⟨wr.heap.size, 1, none⟩ = some (.int .i64 A) ∧ w'.cell? ⟨wr.heap.size, 2, none⟩ = some (.int .i64 B) ∧ Below W1.heap.size W1 w') ((first | assumption | exact (SA _ (below_drewN (Below.refl _ _) 1)).out | exact (SA _ (Below.refl _ _)).out | exact SB.out | exact SC.out | exact SD.out)) ((first
          | (go_at_call 54; with_reducible refine ((HK _).out).mono ?_; rintro e w6 ⟨rfl, b6⟩; have SB := SA w6 (nxt (bx3b wr.heap.size _ _ _ (by assumption)) b6))
          | (go_at_call 54; with_reducible refine ((HAA _).out).mono ?_; rintro e w7 ⟨rfl, b7⟩; have SC := SA w7 (nxt (bx3b wr.heap.size _ _ _ (by assumption)) b7))
          | (go_at_call 54; with_reducible refine ((HB _).out).mono ?_; rintro e w8 ⟨rfl, b8⟩; have SD := SA w8 (nxt (bx3b wr.heap.size _ _ _ (by assumption)) b8))))
        have hB8 := nxt hb1 SD.out.2.2.2
        clear SA SB SC SD
        go_wp2_with fail
        go_roundw
        case rel => exact ⟨0 + 1, _, by omega, by go_num, rfl, by simp only [ByteArray.size_append, show (⟨#[46]⟩ : ByteArray).size = 1 from rfl]; omega, Lib.hid (by have T := TxtPAt.first hlt E.out HA.out; rw [EK.out, EA.out, EB.out] at T; exact T), hB8⟩
        case measure => simp [intOf]; omega
      · have hk0 : 0 < (k : Int) := by omega
        have zd : (⟨#[46]⟩ : ByteArray).size = 1 := rfl
        have zc : (⟨#[44]⟩ : ByteArray).size = 1 := rfl
        have q1 : ¬ DK.size + (⟨#[46]⟩ : ByteArray).size > 9223372036854775807 := by first | (simp only [ByteArray.size_append]; omega) | omega
        have q2 : ¬ (DK ++ (⟨#[46]⟩ : ByteArray)).size + DA.size > 9223372036854775807 := by first | (simp only [ByteArray.size_append]; omega) | omega
        have q2b : ¬ (DK.size + (⟨#[46]⟩ : ByteArray).size) + DA.size > 9223372036854775807 := by omega
        have q3 : ¬ (DK ++ (⟨#[46]⟩ : ByteArray) ++ DA).size + (⟨#[46]⟩ : ByteArray).size > 9223372036854775807 := by first | (simp only [ByteArray.size_append]; omega) | omega
        have q3b : ¬ (DK.size + (⟨#[46]⟩ : ByteArray).size + DA.size) + (⟨#[46]⟩ : ByteArray).size > 9223372036854775807 := by omega
        have q4 : ¬ (DK ++ (⟨#[46]⟩ : ByteArray) ++ DA ++ (⟨#[46]⟩ : ByteArray)).size + DB.size > 9223372036854775807 := by first | (simp only [ByteArray.size_append]; omega) | omega
        have q4b : ¬ (DK.size + (⟨#[46]⟩ : ByteArray).size + DA.size + (⟨#[46]⟩ : ByteArray).size) + DB.size > 9223372036854775807 := by omega
        have q5 : ¬ (S ++ (⟨#[44]⟩ : ByteArray)).size + (DK ++ (⟨#[46]⟩ : ByteArray) ++ DA ++ (⟨#[46]⟩ : ByteArray) ++ DB).size > 9223372036854775807 := by first | (simp only [ByteArray.size_append]; omega) | omega
        have q5b : ¬ (S.size + (⟨#[44]⟩ : ByteArray).size) + (DK.size + (⟨#[46]⟩ : ByteArray).size + DA.size + (⟨#[46]⟩ : ByteArray).size + DB.size) > 9223372036854775807 := by omega
        have q1c : ¬ DK.size + 1 > 9223372036854775807 := by omega
        have q2c : ¬ (DK.size + 1) + DA.size > 9223372036854775807 := by omega
        have q3c : ¬ (DK.size + 1 + DA.size) + 1 > 9223372036854775807 := by omega
        have q4c : ¬ (DK.size + 1 + DA.size + 1) + DB.size > 9223372036854775807 := by omega
        have q5c : ¬ (S.size + 1) + (DK.size + 1 + DA.size + 1 + DB.size) > 9223372036854775807 := by omega
        clear zd zc
        go_upto_region 7 with (fail)
        try rw [eW]
        go_region_held3 (fun w' => w'.cell? ⟨wr.heap.size, 0, none⟩ = some (.int .i64 K) ∧ w'.cell? ⟨wr.heap.size, 1, none⟩ = some (.int .i64 A) ∧ w'.cell? ⟨wr.heap.size, 2, none⟩ = some (.int .i64 B) ∧ Below W1.heap.size W1 w') ((first | assumption | exact (SA _ (below_drewN (Below.refl _ _) 1)).out | exact (SA _ (Below.refl _ _)).out | exact SB.out | exact SC.out | exact SD.out)) ((first
          | (go_at_call 54; with_reducible refine ((HK _).out).mono ?_; rintro e w6 ⟨rfl, b6⟩; have SB := SA w6 (nxt (bx3b wr.heap.size _ _ _ (by assumption)) b6))
          | (go_at_call 54; with_reducible refine ((HAA _).out).mono ?_; rintro e w7 ⟨rfl, b7⟩; have SC := SA w7 (nxt (bx3b wr.heap.size _ _ _ (by assumption)) b7))
          | (go_at_call 54; with_reducible refine ((HB _).out).mono ?_; rintro e w8 ⟨rfl, b8⟩; have SD := SA w8 (nxt (bx3b wr.heap.size _ _ _ (by assumption)) b8))))
        have hB8 := nxt hb1 SD.out.2.2.2
        clear SA SB SC SD
        go_wp2_with fail
        go_roundw
        case rel => exact ⟨k + 1, _, by omega, by go_num, rfl, by simp only [ByteArray.size_append, show (⟨#[46]⟩ : ByteArray).size = 1 from rfl, show (⟨#[44]⟩ : ByteArray).size = 1 from rfl]; omega, Lib.hid (by have T := TxtPAt.next (by omega) hlt E.out HA.out; rw [EK.out, EA.out, EB.out] at T; exact T), hB8⟩
        case measure => simp [intOf]; omega
    · obtain rfl : k = cs.length := by omega
      have R := Lib.hid (show S = bstr (txtP cs cs.length) from HA.out)
      go_wp2
      go_ret
      exact ⟨by rw [R.out]; rfl, hb⟩
end Go.Proofs.YtgojlabkngnkdaaDoor
