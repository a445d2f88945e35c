/-
  PuzzleText: the model and the program give the same text. Conditions: the library's table of powers of ten is as it was laid.
-/
import Derived.Test.YtgojlabkngnkdaaDoorYpt
namespace Go.Proofs.YtgojlabkngnkdaaDoor
open Go.RowKit

theorem joinTail_lenM (b : UInt8) (m : Nat) : ∀ ls : List (List UInt8), (∀ l ∈ ls, l.length ≤ m) → (Lib.joinTail [b] ls).length ≤ (m + 1) * ls.length := by
  intro ls
  induction ls with
  | nil => intro _; simp [Lib.joinTail]
  | cons a t ih =>
    intro h
    rw [joinTail_cons, List.length_append, List.length_append, List.length_singleton, List.length_cons, Nat.mul_add, Nat.mul_one]
    have h1 := h a (by simp)
    have h2 := ih fun l hl => h l (by simp [hl])
    omega
theorem join_lenM (b : UInt8) (m : Nat) (ls : List (List UInt8)) (h : ∀ l ∈ ls, l.length ≤ m) : (Lib.join ls [b]).length ≤ (m + 1) * ls.length := by
  cases ls with
  | nil => simp [Lib.join_nil]
  | cons a t =>
    rw [Lib.join_cons, List.length_append, List.length_cons, Nat.mul_add, Nat.mul_one]
    have h1 := h a (by simp)
    have h2 := joinTail_lenM b m t fun l hl => h l (by simp [hl])
    omega
/-- The library's join at a slice of texts that the call owns. -/
theorem joinW_any (b : UInt8) (v : Value) (ls : List (List UInt8)) (B : Nat) (w : World) (h : Ws w B v (ls.map bstr)) (hl : ls.length ≤ 1000) (hz : ∀ l ∈ ls, l.length ≤ 100000) :
    Calls Tryd.prog 32 #[v, .string ⟨#[b]⟩] w fun e w' => e = .returned (.string (bstr (Lib.join ls [b]))) ∧ Below w.heap.size w w' := by
  have hj := join_lenM b 100000 ls hz
  cases ls with
  | nil =>
    obtain ⟨a, c, rfl⟩ : ∃ a c, v = .slice a 0 c := by
      rcases h.2 with ⟨hv, _⟩ | ⟨g, cap, cur, hv, _⟩
      · exact ⟨_, _, hv⟩
      · exact ⟨_, _, hv⟩
    refine (Tryd.strings_Join_none a c ⟨#[b]⟩ w).mono ?_
    rintro e w' ⟨rfl, rfl⟩
    exact ⟨by rw [Lib.join_nil]; rfl, Below.refl _ _⟩
  | cons a t =>
    obtain ⟨g, c, rfl, gb, gc, gcell⟩ := h.cells (by simp)
    have e3 : Lib.join (((a :: t).map bstr).map (·.data.toList)) (⟨#[b]⟩ : ByteArray).data.toList = Lib.join (a :: t) [b] := by
      rw [List.map_map]
      congr 1
      rw [show ((·.data.toList) ∘ bstr : List UInt8 → List UInt8) = id from rfl, List.map_id]
    refine (Tryd.strings_Join g 0 c ((a :: t).map bstr) ⟨#[b]⟩ w gcell gb (by rw [List.length_map]; omega) gc (by rw [e3]; omega)).mono ?_
    rintro e w' ⟨rfl, hw⟩
    exact ⟨by rw [e3]; rfl, hw⟩
theorem sv_lit3 (W : World) (K A B : Int) : Sv (W.alloc (.cells #[.int .i64 K, .int .i64 A, .int .i64 B] 3)) (.slice (some ⟨W.heap.size, 0, none⟩) 3 3) [K, A, B] := by
  refine ⟨_, _, rfl, fun _ => ⟨W.heap.size, 0, rfl, by simp, fun j hj => ?_⟩⟩
  rw [cell_of_row _ _ _ _ _ _ (heap_alloc_new W _)]
  match j, hj with
  | 0, _ => rfl
  | 1, _ => rfl
  | 2, _ => rfl
theorem itoa_ddP {x : Int} (h : 0 ≤ x) : Lib.itoa x = dd x := by unfold Lib.itoa dd; rw [if_neg (by omega)]
theorem clT_it {c : Cl} (hk : 0 ≤ c.k) (ha : 0 ≤ c.a) (hb : 0 ≤ c.b) : itG 46 [c.k, c.a, c.b] = clT c := by
  unfold itG clT
  rw [List.map_cons, List.map_cons, List.map_cons, List.map_nil, itoa_ddP hk, itoa_ddP ha, itoa_ddP hb, Lib.join_cons, joinTail_cons, joinTail_cons]
  simp [Lib.joinTail]
theorem clT_len {c : Cl} (hk : c.k ≤ 1000) (ha : c.a ≤ 1000) (hb : c.b ≤ 1000) : (clT c).length ≤ 100000 := by
  have h1 := dd_len (show c.k ≤ 10000 by omega)
  have h2 := dd_len (show c.a ≤ 10000 by omega)
  have h3 := dd_len (show c.b ≤ 10000 by omega)
  unfold clT
  simp only [List.length_append, List.length_singleton]
  omega
noncomputable def ptA (cs : List Cl) : ByteArray := if pzB cs = true then bstr (txtP cs cs.length) else ⟨#[]⟩
theorem ptA_bad {cs : List Cl} (h : pzB cs = false) : ptA cs = ⟨#[]⟩ := by unfold ptA; rw [h]; rfl
theorem ptA_good {cs : List Cl} (h : pzB cs = true) : ptA cs = bstr (txtP cs cs.length) := by unfold ptA; rw [if_pos h]
theorem ret_text {a b : ByteArray} {g : Bool} (h : a = b) : Ending.returned (.tuple #[.string a, .bool g]) = .returned (.tuple #[.string b, .bool g]) := by rw [h]

set_option maxHeartbeats 2000000 in
theorem specPT_any (v : Value) (cs : List Cl) (w : World) (h : Cv w v cs) (hl : cs.length ≤ 1099511627776) :
    Calls Tryd.prog 17 #[.agg #[v]] w fun e w' => e = .returned (.tuple #[.string (ptA cs), .bool (pzB cs)]) ∧ Below w.heap.size w w' := by
  have hb0 : Below w.heap.size w (w.alloc (.cells #[v] 43)) := (Below.refl _ _).alloc (Nat.le_refl _) _
  obtain ⟨p, cap, rfl⟩ := h.shape
  obtain ⟨W, eW⟩ : ∃ W, w.alloc (.cells #[.slice p cs.length cap] 43) = W := ⟨_, rfl⟩
  rw [eW] at hb0
  have A : Bx W w.heap.size (.slice p cs.length cap) := by rw [← eW]; exact bx_new _ _ _
  have HS := Lib.hid (h.below hb0 (Nat.le_refl _))
  have PG := Lib.hid (pzGood_any _ cs W HS.out hl)
  have HA := Lib.hid A
  clear h
  have cA := A.cell
  clear A
  cases hg : pzB cs with
  | false =>
    have HAn := Lib.hid (ptA_bad hg)
    rw [hg] at PG
    clear hg
    go_enter Tryd.func17, Tryd.ntmps17
    go_wp2_with fail
    clear eW
    refine PG.out.mono ?_
    rintro e w1 ⟨rfl, b1⟩
    go_wp2_with fail
    go_ret2
    exact ⟨ret_text HAn.out.symm, nxt hb0 b1⟩
  | true =>
    have HAn := Lib.hid (ptA_good hg)
    have TT := fun W' (hW : Below W.heap.size W W') => Lib.hid (pzText_any _ cs W' (HS.out.below hW (Nat.le_refl _)) hg)
    rw [hg] at PG
    clear hg
    go_enter Tryd.func17, Tryd.ntmps17
    go_wp2_with fail
    clear eW cA
    refine PG.out.mono ?_
    rintro e w1 ⟨rfl, b1⟩
    have cA := (HA.out.below b1).cell
    go_wp2_with fail
    refine (TT _ b1).out.mono ?_
    rintro e w2 ⟨rfl, b2⟩
    go_wp2_with fail
    go_ret2
    exact ⟨ret_text HAn.out.symm, nxt hb0 (nxt b1 b2)⟩

set_option maxHeartbeats 8000000 in
set_option maxRecDepth 100000 in
theorem implPT_any (v : Value) (cs : List Cl) (w : World) (h : Cv w v cs) (hl : cs.length ≤ 1099511627776) (ht : Ten w) :
    Calls Tryd.prog 19 #[.agg #[v]] w fun e w' => e = .returned (.tuple #[.string (ptA cs), .bool (pzB cs)]) ∧ Below w.heap.size w w' := by
  have hb0 : Below w.heap.size w (w.alloc (.cells #[v] 43)) := (Below.refl _ _).alloc (Nat.le_refl _) _
  obtain ⟨p, cap, rfl⟩ := h.shape
  obtain ⟨W, eW⟩ : ∃ W, w.alloc (.cells #[.slice p cs.length cap] 43) = W := ⟨_, rfl⟩
  rw [eW] at hb0
  have A : Bx W w.heap.size (.slice p cs.length cap) := by rw [← eW]; exact bx_new _ _ _
  have HS := Lib.hid (h.below hb0 (Nat.le_refl _))
  have PG := Lib.hid (implIsPuzzle_any _ cs W HS.out hl)
  have HA := Lib.hid A
  have HT := Lib.hid (fun W' (hW : Below w.heap.size w W') => ht.below hW (Nat.le_refl _))
  clear h ht
  have xA := A.cell
  clear A
  cases hg : pzB cs with
  | false =>
    have HAn := Lib.hid (ptA_bad hg)
    rw [hg] at PG
    clear hg
    go_enter Tryd.func19, Tryd.ntmps19
    go_wp2_with fail
    clear eW
    refine PG.out.mono ?_
    rintro e w1 ⟨rfl, b1⟩
    go_wp2_with fail
    go_ret2
    exact ⟨ret_text HAn.out.symm, nxt hb0 b1⟩
  | true =>
    have HAn := Lib.hid (ptA_good hg)
    have HG := Lib.hid (pz_cl hg).2
    have h6 := (pz_cl hg).1
    rw [hg] at PG
    clear hg
    go_enter Tryd.func19, Tryd.ntmps19
    go_wp2_with fail
    clear eW xA
    refine PG.out.mono ?_
    rintro e w1 ⟨rfl, b1⟩
    have xA := (HA.out.below b1).cell
    have xA2 : (w1.alloc (.cells #[] 9)).cell? ⟨w.heap.size, 0, none⟩ = some (.slice p cs.length cap) := (World.cell?_alloc_past _ _ _ (HA.out.below b1).lt).trans xA
    have hb1 := nxt hb0 b1
    have hx := (HS.out.below b1 (Nat.le_refl _))
    obtain ⟨p', cap', e', _, _, hx⟩ := hx
    cases e'
    have HX := Lib.hid hx
    have hB1 : Below w1.heap.size w1 (w1.alloc (.cells #[] 9)) := (Below.refl _ _).alloc (Nat.le_refl _) _
    have ho0 := os_empty w1
    clear hx b1 HS PG
    go_wp2_with fail
    go_loopw [4, 14] (fun t i wr => ∃ (k : Nat), k ≤ cs.length ∧ i = .int .i64 k ∧ Ws wr w1.heap.size t ((cs.take k).map fun c => bstr (clT c)) ∧ Below w1.heap.size w1 wr) (fun _ i _ => cs.length - (intOf i).toNat)
    case atStart => exact ⟨0, Nat.zero_le _, rfl, ho0, hB1⟩
    case round =>
      clear ho0 hB1
      obtain ⟨k, hk, rfl, ho, hB⟩ := hrel
      by_cases hlt : k < cs.length
      · obtain ⟨b, off, rfl, hbl, hc⟩ := HX.out (by omega)
        obtain ⟨h1, h2, h3⟩ := hc k hlt
        have g1 : wr.cell? ⟨b, off + k * 3, none⟩ = _ := (hB.cell (p := ⟨b, off + k * 3, none⟩) hbl).trans h1
        have g2 : wr.cell? ⟨b, off + k * 3 + 1, none⟩ = _ := (hB.cell (p := ⟨b, off + k * 3 + 1, none⟩) hbl).trans h2
        have g3 : wr.cell? ⟨b, off + k * 3 + 2, none⟩ = _ := (hB.cell (p := ⟨b, off + k * 3 + 2, none⟩) hbl).trans h3
        clear hc h1 h2 h3
        have GB := HG.out k hlt
        have E : Hid (cs[k] = cA cs k) := Lib.hid (by rw [cA_of hlt])
        rw [E.out] at GB
        generalize Go.Proofs.YtgojlabkngnkdaaDoor.cA cs k = c at *
        obtain ⟨K, A, B⟩ := c
        obtain ⟨⟨a1, a2⟩, ⟨b1, b2⟩, c1, c2⟩ := GB
        simp only at a1 a2 b1 b2 c1 c2 g1 g2 g3
        have IT := clT_it (c := ⟨K, A, B⟩) a1 b1 c1
        simp only at IT
        obtain ⟨W1, eW⟩ : ∃ W1, (wr.alloc (.cells #[.int .i64 K, .int .i64 A, .int .i64 B] 73)).alloc (.cells #[.int .i64 K, .int .i64 A, .int .i64 B] 3) = W1 := ⟨_, rfl⟩
        have hbW : Below wr.heap.size wr W1 := by rw [← eW]; exact ((Below.refl _ _).alloc (Nat.le_refl _) _).alloc (by simp) _
        have sl : Sv W1 (.slice (some ⟨wr.heap.size + 1, 0, none⟩) 3 3) [K, A, B] := by
          have s0 := sv_lit3 (wr.alloc (.cells #[.int .i64 K, .int .i64 A, .int .i64 B] 73)) K A B
          rw [show (wr.alloc (.cells #[.int .i64 K, .int .i64 A, .int .i64 B] 73)).heap.size = wr.heap.size + 1 by simp, eW] at s0
          exact s0
        have hN := numbersText_any 46 _ [K, A, B] W1 sl (by simp) (by simp) (by intro x hx; simp at hx; rcases hx with rfl | rfl | rfl <;> omega) (HT.out W1 (nxt hb1 (nxt hB hbW)))
        rw [IT] at hN
        have HN := Lib.hid hN
        have S1 := Lib.hid (show (cs.take (k + 1)).map (fun c => bstr (clT c)) = (cs.take k).map (fun c => bstr (clT c)) ++ [bstr (clT ⟨K, A, B⟩)] by rw [cl_take hlt E.out, List.map_append]; rfl)
        generalize eD : bstr (clT ⟨K, A, B⟩) = D at *
        have EW := Lib.hid eW
        have HL := Lib.hid (show ((cs.take k).map (fun c => bstr (clT c))).length ≤ 6 by simp; omega)
        clear hN sl eW IT a1 a2 b1 b2 c1 c2 eD
        go_wp2_with (first
          | (go_at_call 30; (try rw [EW.out]); go_must (with_reducible refine (HN.out).mono ?_); rintro e w2 ⟨rfl, b2⟩; have o2 := (ho.below hbW (Nat.le_refl _)).below b2 (Nat.le_refl _); have B2 : Below w1.heap.size w1 w2 := nxt hB (nxt hbW b2); have Z2 := B2.size; clear ho hB b2)
          | (at_builtin; refine wpList_append_str rfl _ _ rfl w1.heap.size _ _ rfl (o2.alloc _) _ D rfl (by simp) (by have := HL.out; omega) (by simp; omega) ?_; intro v' w3 h3 g3; have B3 : Below w1.heap.size w1 w3 := (B2.alloc Z2 _).trans ((o2.alloc _).grown (by simp; omega) g3); clear o2 g3 B2 Z2))
        go_roundw
        case rel => exact ⟨k + 1, by omega, by go_num, by rw [S1.out]; exact h3, B3⟩
        case measure => simp [intOf]; omega
      · obtain rfl : k = cs.length := by omega
        rw [List.take_length] at ho
        rw [show (cs.map fun c => bstr (clT c)) = (cs.map clT).map bstr by rw [List.map_map]; rfl] at ho
        have HJ := Lib.hid (joinW_any 44 _ (cs.map clT) w1.heap.size wr ho (by rw [List.length_map]; omega) (by
          intro l hl'
          obtain ⟨c, hc, rfl⟩ := List.mem_map.1 hl'
          obtain ⟨j, hj, rfl⟩ := List.getElem_of_mem hc
          have := HG.out j hj
          exact clT_len this.1.2 this.2.1.2 this.2.2.2))
        have R := Lib.hid (show Lib.join (cs.map clT) [44] = txtP cs cs.length by unfold txtP; rw [List.take_length])
        clear ho
        go_wp2_with (go_at_call 32; refine (HJ.out).mono ?_; rintro e w2 ⟨rfl, b2⟩)
        go_ret2
        exact ⟨ret_text (by rw [HAn.out, R.out]), nxt hb1 (nxt hB b2)⟩
end Go.Proofs.YtgojlabkngnkdaaDoor
