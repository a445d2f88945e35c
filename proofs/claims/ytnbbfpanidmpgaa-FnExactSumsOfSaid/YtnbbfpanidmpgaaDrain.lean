/-
  The law on SumsOf, walked: whatever slice comes in, it returns true and writes nothing that was there. No condition but a length that fits int.
-/
import Derived.Test.YtnbbfpanidmpgaaColl
import Derived.Test.YtnbbfpanidmpgaaSort
import Derived.Test.YtnbbfpanidmpgaaSms
namespace Go.Proofs.Ytnbbfpanidmpgaa
open Go.RowKit Go.Maps Go.WideMaps

theorem Come.le {D : DataW Unit} {S : Int → Bool} {left : Lit → Bool} {cnt cnt' : Nat} {src : List Int} (c : Come D S left cnt src) (h : cnt' ≤ cnt) : Come D S left cnt' src := ⟨c.mem, c.sub, by have := c.len; omega, c.nodup⟩
theorem cell_keep {w3 w5 : World} {B : Nat} {v : Value} {ys : List Int} {s : Int} {c3 : Array Value} {t t3 : TypeId} (_h : 0 = 0) (g5 : ((w3.alloc (.cells #[.int .i64 s] t)).alloc (.cells c3 t3)).grownBy w5 v.ownBlock) (ho3 : Ow w3 B v ys) : w5.cell? ⟨w3.heap.size, 0, none⟩ = some (.int .i64 s) := by
  have hk : w5.heap[w3.heap.size]? = _ := g5.block w3.heap.size (by simp; omega) (fun e => by have := (World.ownsRow.lt ho3 _ e.symm).2; omega)
  rw [blk_a] at hk
  simp only [World.cell?, hk]
  rfl
theorem grow_two {w3 w5 : World} {n : Nat} {o o' : Obj} {row : Option Nat} (h : n ≤ w3.heap.size) (g5 : ((w3.alloc o).alloc o').grownBy w5 row) : n ≤ w5.heap.size := by
  have := g5.size
  simp only [World.size_alloc] at this
  omega
theorem src_two (w : World) (o : Obj) (n : Int) : Src ((w.alloc o).alloc (.cells #[.int .i64 n] 3)) (.slice (some ⟨w.heap.size + 1, 0, none⟩) 1 1) [n] := by
  have h := src_one (w.alloc o) n
  rwa [World.size_alloc] at h
theorem wy_mk {xs : List Int} : ∀ (k : Nat) (s : Int), k ≤ xs.length → (Wy (xs.take k) s ≠ 0 ↔ mk xs k s = true) := by
  intro k
  induction k with
  | zero => intro s _; simp [Wy, mk]
  | succ k ih =>
    intro s hk
    rw [Wy_step (by omega) rfl]
    have h1 := ih s (by omega)
    have h2 := ih (s - xs.getD k 0) (by omega)
    have b1 := (Wy_bd (xs.take k) s).1
    have b2 := (Wy_bd (xs.take k) (s - xs.getD k 0)).1
    simp only [mk, Bool.or_eq_true, ← h1, ← h2]
    omega
theorem selTo_mem (P : Nat → Bool) : ∀ (k : Nat) (s : Int), s ∈ selTo P k ↔ ∃ j : Nat, j < k ∧ s = (j : Int) ∧ P j = true := by
  intro k
  induction k with
  | zero => intro s; simp [selTo]
  | succ k ih =>
    intro s
    rw [selTo, List.mem_append, ih]
    constructor
    · rintro (⟨j, h1, h2, h3⟩ | h)
      · exact ⟨j, by omega, h2, h3⟩
      · by_cases hp : P k = true
        · rw [if_pos hp] at h
          exact ⟨k, by omega, by simpa using h, hp⟩
        · rw [if_neg hp] at h; cases h
    · rintro ⟨j, h1, h2, h3⟩
      by_cases e : j = k
      · subst e
        right
        rw [if_pos h3]; simpa using h2
      · exact .inl ⟨j, by omega, h2, h3⟩
theorem selTo_pw (P : Nat → Bool) : ∀ (k : Nat), (selTo P k).Pairwise (fun x y => x < y) := by
  intro k
  induction k with
  | zero => simp [selTo]
  | succ k ih =>
    rw [selTo, List.pairwise_append]
    refine ⟨ih, by split <;> simp, fun a ha b hb => ?_⟩
    obtain ⟨j, h1, rfl, _⟩ := (selTo_mem P k a).1 ha
    by_cases hp : P k = true
    · rw [if_pos hp] at hb
      have : b = (k : Int) := by simpa using hb
      omega
    · rw [if_neg hp] at hb; cases hb
/-- The sums that came out of the map, sorted: those of the model. -/
theorem drained {xs : List Int} (hg : Good xs) {src : List Int} (hn : src.Nodup) (hm : ∀ s, s ∈ src ↔ inS s ∧ mk xs xs.length s = true) : sortL src = selTo (isS xs) (top xs + 1) := by
  refine (sortL_eq ((selTo_pw _ _).imp (by intro a b h; omega)) ?_).symm
  refine (List.perm_ext_iff_of_nodup ?_ hn).2 fun s => ?_
  · rw [List.nodup_iff_pairwise_ne]
    exact (selTo_pw _ _).imp (by intro a b h; omega)
  · rw [selTo_mem, hm]
    have ht := hg.top
    have key : ∀ j : Nat, isS xs j = true ↔ mk xs xs.length (j : Int) = true := fun j => by
      have := wy_mk (xs := xs) xs.length (j : Int) (Nat.le_refl _)
      rw [List.take_length] at this
      rw [← this]
      simp [isS]
    constructor
    · rintro ⟨j, h1, rfl, h2⟩
      have h3 := (key j).1 h2
      exact ⟨⟨by omega, by omega⟩, h3⟩
    · rintro ⟨h1, h2⟩
      have h3 := mk_sum hg s h2
      refine ⟨s.toNat, by omega, by omega, (key _).2 ?_⟩
      rwa [show ((s.toNat : Nat) : Int) = s by omega]

set_option maxHeartbeats 8000000 in
set_option maxRecDepth 100000 in
theorem drainSums_any (b n : Nat) (S : Int → Bool) (D : DataW Unit) (w : World) (hown : w.ownsMap Try.prog 69 (plainElem Try.prog 4) b n D) (hset : SetIs D S) (hn : n ≤ 1048576) (hne : ∃ s, inS s ∧ S s = true) :
    Calls Try.prog 90 #[.map (some b)] w fun e w' => ∃ u src, e = .returned u ∧ Ow w' w.heap.size u (sortL src) ∧ src.Nodup ∧ (∀ s, s ∈ src ↔ inS s ∧ S s = true) ∧ w.grownBy w' (some b) := by
  have hbz := hown.lt
  have hsz := hown.size_le
  have HS := Lib.hid hset
  have HNE := Lib.hid hne
  clear hset hne
  have ho0 := ow_empty w
  have hg0 := World.grownBy_alloc w (.cells #[] 3) (some b)
  go_enter Try.func90, Try.ntmps90
  go_wp2_with (at_range; refine wpList_range_own _ rfl _ 59 rfl 69 4 KK Try.underlying59 _ b n D rfl (hown.alloc _) ?_; intro w2 hrg2 hg2 hs2)
  go_frame
  simp only [World.size_alloc] at hrg2 hs2
  simp only [World.size_alloc]
  have ho2 : Ow w2 w.heap.size (.slice (some ⟨w.heap.size, 0, none⟩) 0 0) [] := ho0.kept hg2 (.inr (by simp [Value.ownBlock]))
  have hg2 : w.grownBy w2 (some b) := hg0.andThen hg2 (fun j hj => by cases hj)
  clear ho0 hg0 hown
  go_loopw [3] (fun a wr => ∃ (left : Lit → Bool) (cnt : Nat) (src : List Int) (D' : DataW Unit), wr.ranges Try.prog 69 (plainElem Try.prog 4) b (w.heap.size + 1) n D' left cnt ∧ Ow wr w.heap.size a src ∧ Come D S left cnt src ∧ w.grownBy wr (some b) ∧ w.heap.size + 2 ≤ wr.heap.size) (fun _ wr => wr.rangeLeft b (w.heap.size + 1))
  case atStart => exact ⟨_, _, [], _, hrg2, ho2, Come.start HS.out, hg2, by omega⟩
  case round =>
    clear hrg2 ho2 hg2
    obtain ⟨left, cnt, src, D', hrg, ho, hc, hgw, hzw⟩ := hrel
    have hcl := hc.len
    go_wp2_with (at_next; refine wpList_next_ranges _ rfl _ rfl 69 KK _ (fun s => Value.agg #[Value.int .i64 s]) (fun c : Value => c) (fun key kl hk => (key_inv key kl hk).elim fun s hs => ⟨s, hs.1⟩) (fun v y hv => ⟨v, rfl⟩) b (w.heap.size + 1) n D' left cnt rfl hrg ?_ ?_)
    · intro _ hl0
      have hend := Lib.hid (hc.end hl0)
      have hnd := Lib.hid hc.nodup
      have hsne : src ≠ [] := by
        intro e
        obtain ⟨s, h1, h2⟩ := HNE.out
        have := (hend.out s).2 ⟨h1, h2⟩
        rw [e] at this; cases this
      have HSN := Lib.hid hsne
      have hsl : src.length ≤ 1099511627776 := by omega
      clear hc hcl hl0 hrg hsne
      go_wp2_with fail
      refine (sort_own _ _ _ _ ho HSN.out hsl).mono ?_
      rintro e w3 ⟨rfl, o3, g3⟩
      have g4 := hgw.andThen g3 (fun j hj => .inl (World.ownsRow.lt ho j hj).1)
      clear ho g3 hgw
      go_wp2_with fail
      go_ret
      exact ⟨_, src, rfl, o3, hnd.out, hend.out, g4⟩
    · intro s c kl y1 y2 w3 cnt3 hkey hlk hv hat hrg3 hlt3 hg3 hs3 hen
      obtain ⟨s', es', hws⟩ := key_inv _ _ hkey
      have e0 : s = s' := by simpa [sumV] using es'
      subst e0
      have ek : KL s = kl := by have := key_of hws; unfold sumV at this; rw [hkey] at this; exact (Option.some.inj this).symm
      subst ek
      obtain ⟨hsb, hcn⟩ := hc.next HS.out hws hlk hlt3
      have hz3 := hg3.size
      have hg3' := hgw.andThen hg3 (fun j hj => by cases hj; exact .inl (by omega))
      have ho3 : Ow w3 w.heap.size _ src := ho.kept hg3 (.inr (fun h => row_ne_iter ho hrg h.symm))
      have HCN := Lib.hid hcn
      have HKY := Lib.hid (key_of hws)
      have hz3 : w.heap.size + 2 ≤ w3.heap.size := by omega
      clear ho hgw hg3 hkey hv hat hlk hc hcn es' hsb hws hs3
      go_wp2_with (first
        | (at_builtin; refine wpList_append_src rfl _ _ rfl w.heap.size _ src rfl ((ho3.alloc _).alloc _) _ [s] rfl (src_two _ _ _) (by simp only [List.length_cons, List.length_nil]; omega) (by simp; omega) ?_; intro v5 w5 h5 g5; have hcB := cell_keep rfl g5 ho3; have hrg5 := ((hrg3.alloc _).alloc _).kept g5 (row_ne_low ho3 hbz) (row_ne_iter ho3 hrg3); have g7 := ((hg3'.andThen (World.grownBy_alloc w3 (.cells #[.int .i64 s] 69) none) (fun j hj => by cases hj)).andThen (World.grownBy_alloc _ (.cells #[.int .i64 s] 3) none) (fun j hj => by cases hj)).andThen g5 (fun j hj => .inl (World.ownsRow.lt ho3 j hj).1); have z5 : w.heap.size + 2 ≤ w5.heap.size := grow_two hz3 g5; clear hg3' hrg3 g5 ho3)
        | (at_delete; refine wpList_delete_ranges _ rfl _ _ 59 69 rfl 4 KK Try.underlying59 _ b (w.heap.size + 1) n _ _ _ rfl hrg5 (sumV s) (KL s) rfl HKY.out ?_; intro w6 cnt6 hrg6 hle6 ht6; go_frame))
      rw [strike_twice] at hrg6
      have hne3 : some b ≠ v5.ownBlock := row_ne_low h5 hbz
      have h6 : Ow w6 w.heap.size v5 (src ++ [s]) := h5.kept ht6.grown (.inr (fun h => hne3 h.symm))
      have g8 := g7.andThen ht6.grown (fun j hj => by cases hj; exact .inr rfl)
      have z6 := ht6.grown.size
      clear hrg5 h5 g7 ht6 hne3 hcB
      go_roundw
      case rel => exact ⟨_, cnt6, src ++ [s], _, hrg6, h6, HCN.out.le hle6, g8, by omega⟩
      case measure => rw [hrg6.left_eq, hrg.left_eq]; omega

noncomputable def smsB (xs : List Int) : Bool := goodB xs && decide (xs.length ≤ 12)
noncomputable def smsR (xs : List Int) : List Int := if smsB xs = true then selTo (isS xs) (top xs + 1) else []
theorem smsR_yes {xs : List Int} (h : smsB xs = true) : smsR xs = selTo (isS xs) (top xs + 1) := by simp [smsR, h]
theorem smsR_no {xs : List Int} (h : smsB xs = false) : smsR xs = [] := by simp [smsR, h]
theorem smsB_good {xs : List Int} (h : goodB xs = false) : smsB xs = false := by simp [smsB, h]
theorem smsB_long {xs : List Int} (h : ¬ xs.length ≤ 12) : smsB xs = false := by simp [smsB, h]
theorem smsB_yes {xs : List Int} (h : goodB xs = true) (g : xs.length ≤ 12) : smsB xs = true := by simp [smsB, h, g]
theorem smsR_len (xs : List Int) : (smsR xs).length ≤ 1099511627776 := by
  unfold smsR
  by_cases h : smsB xs = true
  · rw [if_pos h]
    simp only [smsB, Bool.and_eq_true] at h
    have := (goodB_iff.1 h.1).top
    have := selTo_len (isS xs) (top xs + 1)
    omega
  · rw [if_neg h]; simp
theorem mk_zero (xs : List Int) : ∀ k, mk xs k 0 = true := by
  intro k
  induction k with
  | zero => simp [mk]
  | succ k ih => simp [mk, ih]

set_option maxHeartbeats 4000000 in
theorem specSumsOf_any (v : Value) (xs : List Int) (w : World) (h : Sp w v xs) (hl : xs.length ≤ 1099511627776) :
    Calls Try.prog 56 #[v] w fun e w' => ∃ u, e = .returned (.tuple #[u, .bool (smsB xs)]) ∧ Ow w' w.heap.size u (smsR xs) ∧ Below w.heap.size w w' := by
  by_cases hgb : goodB xs = true
  · have hg := goodB_iff.1 hgb
    by_cases h12 : xs.length ≤ 12
    · have hb := smsB_yes hgb h12
      have HR := Lib.hid (smsR_yes hb)
      have HG := Lib.hid hb
      have d12 : decide ((12 : Int) < (xs.length : Int)) = false := by rw [decide_eq_false_iff_not]; omega
      have hh := h
      obtain ⟨bb, off, cap, rfl, _, _, hbl, hcl⟩ := hh
      clear hb hcl
      go_enter Try.func56, Try.ntmps56
      go_wp2_with fail
      refine (piGood_any _ _ _ h.sv hl).mono ?_
      rintro e w1 ⟨rfl, b1⟩
      have h1 := h.below b1 (Nat.le_refl _)
      have z1 := b1.size
      go_wp2_with fail
      refine (piSums_any _ _ _ h1.sv hg).mono ?_
      rintro e w2 ⟨u2, rfl, o2, b2⟩
      have b3 := nxt b1 b2
      clear b1 b2 h1
      go_wp2_with fail
      go_ret2
      exact ⟨_, ret_lb rfl HG.out.symm, by rw [HR.out]; exact o2.mono z1, b3⟩
    · have hb := smsB_long h12
      have HR := Lib.hid (smsR_no hb)
      have HG := Lib.hid hb
      have d12 : decide ((12 : Int) < (xs.length : Int)) = true := by rw [decide_eq_true_eq]; omega
      have hh := h
      obtain ⟨bb, off, cap, rfl, _, _, hbl, hcl⟩ := hh
      clear hb hcl
      go_enter Try.func56, Try.ntmps56
      go_wp2_with fail
      refine (piGood_any _ _ _ h.sv hl).mono ?_
      rintro e w1 ⟨rfl, b1⟩
      go_wp2_with fail
      go_ret2
      exact ⟨_, ret_lb rfl HG.out.symm, by rw [HR.out]; exact ow_nil _ _, b1⟩
  · have hgb : goodB xs = false := by simpa using hgb
    have hb := smsB_good hgb
    have HR := Lib.hid (smsR_no hb)
    have HG := Lib.hid hb
    have hh := h
    obtain ⟨bb, off, cap, rfl, _, _, hbl, hcl⟩ := hh
    clear hb hcl
    go_enter Try.func56, Try.ntmps56
    go_wp2_with fail
    refine (piGood_any _ _ _ h.sv hl).mono ?_
    rintro e w1 ⟨rfl, b1⟩
    go_wp2_with fail
    go_ret2
    exact ⟨_, ret_lb rfl HG.out.symm, by rw [HR.out]; exact ow_nil _ _, b1⟩

set_option maxHeartbeats 4000000 in
theorem implSumsOf_any (v : Value) (xs : List Int) (w : World) (h : Sp w v xs) (hl : xs.length ≤ 1099511627776) :
    Calls Try.prog 57 #[v] w fun e w' => ∃ u, e = .returned (.tuple #[u, .bool (smsB xs)]) ∧ Ow w' w.heap.size u (smsR xs) ∧ Below w.heap.size w w' := by
  by_cases hgb : goodB xs = true
  · have hg := goodB_iff.1 hgb
    by_cases h12 : xs.length ≤ 12
    · have hb := smsB_yes hgb h12
      have HR := Lib.hid (smsR_yes hb)
      have HG := Lib.hid hb
      have d12 : decide ((12 : Int) < (xs.length : Int)) = false := by rw [decide_eq_false_iff_not]; omega
      have hh := h
      obtain ⟨bb, off, cap, rfl, _, _, hbl, hcl⟩ := hh
      clear hb hcl
      go_enter Try.func57, Try.ntmps57
      go_wp2_with fail
      refine (arePieces_any _ _ _ h.sv hl).mono ?_
      rintro e w1 ⟨rfl, b1⟩
      have h1 := h.below b1 (Nat.le_refl _)
      have z1 := b1.size
      go_wp2_with fail
      refine (collectSums_any _ _ _ h1.sv hg).mono ?_
      rintro e w2 ⟨rfl, ⟨D, hown, hset⟩, b2⟩
      have b2' := nxt b1 b2
      have hp2 := pow_bd (k := xs.length) (by omega)
      have hex : ∃ s, inS s ∧ mk xs xs.length s = true := ⟨0, ⟨by omega, by omega⟩, mk_zero xs _⟩
      have HEX := Lib.hid hex
      have HSET := Lib.hid hset
      have HGO := Lib.hid hg
      clear b1 b2 h1 hex hset
      go_wp2_with fail
      refine (drainSums_any w1.heap.size (2 ^ xs.length) (mk xs xs.length) D _ hown HSET.out hp2 HEX.out).mono ?_
      rintro e w3 ⟨u3, src, rfl, o3, hnd, hmem, g3⟩
      have b3 := b2'.grown g3 b2'.size (fun k e => by cases e; exact z1)
      have z2 := b2'.size
      have DR := Lib.hid (drained HGO.out hnd hmem)
      clear b2' hown hnd hmem g3
      go_wp2_with fail
      go_ret2
      exact ⟨_, ret_lb rfl HG.out.symm, by rw [HR.out, ← DR.out]; exact o3.mono z2, b3⟩
    · have hb := smsB_long h12
      have HR := Lib.hid (smsR_no hb)
      have HG := Lib.hid hb
      have d12 : decide ((12 : Int) < (xs.length : Int)) = true := by rw [decide_eq_true_eq]; omega
      have hh := h
      obtain ⟨bb, off, cap, rfl, _, _, hbl, hcl⟩ := hh
      clear hb hcl
      go_enter Try.func57, Try.ntmps57
      go_wp2_with fail
      refine (arePieces_any _ _ _ h.sv hl).mono ?_
      rintro e w1 ⟨rfl, b1⟩
      go_wp2_with fail
      go_ret2
      exact ⟨_, ret_lb rfl HG.out.symm, by rw [HR.out]; exact ow_nil _ _, b1⟩
  · have hgb : goodB xs = false := by simpa using hgb
    have hb := smsB_good hgb
    have HR := Lib.hid (smsR_no hb)
    have HG := Lib.hid hb
    have hh := h
    obtain ⟨bb, off, cap, rfl, _, _, hbl, hcl⟩ := hh
    clear hb hcl
    go_enter Try.func57, Try.ntmps57
    go_wp2_with fail
    refine (arePieces_any _ _ _ h.sv hl).mono ?_
    rintro e w1 ⟨rfl, b1⟩
    go_wp2_with fail
    go_ret2
    exact ⟨_, ret_lb rfl HG.out.symm, by rw [HR.out]; exact ow_nil _ _, b1⟩

set_option maxHeartbeats 4000000 in
theorem lawSumsOf (v : Value) (xs : List Int) (w : World) (h : Sv w v xs) (hm : xs.length ≤ 9223372036854775807) :
    Calls Try.prog 19 #[v] w fun e w' => e = .returned (.bool true) ∧ Below w.heap.size w w' := by
  have hs := h
  obtain ⟨p, cap, rfl, hx⟩ := h
  clear hx
  by_cases hbig : 1048576 < xs.length
  · go_enter Try.func19, Try.ntmps19
    go_wp2
    go_ret
    exact ⟨rfl, Below.refl _ _⟩
  · have hl : xs.length ≤ 1099511627776 := by omega
    have hyl : (smsR xs).length ≤ 1099511627776 := smsR_len _
    go_enter Try.func19, Try.ntmps19
    go_wp2_with fail
    refine (toIntS_any _ _ _ hs hl).mono ?_
    rintro e w1 ⟨u1, rfl, o1, a1', b1⟩
    go_wp2_with fail
    refine (specSumsOf_any _ _ _ (o1.sp a1') hl).mono ?_
    rintro e w2 ⟨v2, rfl, o2, b2⟩
    have z1 := b1.size
    have o2 := o2.mono z1
    have t2 := nxt b1 b2
    clear o1 b1 b2 a1'
    go_wp2_with fail
    refine (toIntS_any _ _ _ (hs.below t2 (Nat.le_refl _)) hl).mono ?_
    rintro e w3 ⟨u3, rfl, o3, a3, b3⟩
    have z2 := t2.size
    have p2 := ap_below o2 a3 (Nat.le_refl _)
    have lt3 := own_lt o3 a3
    have q2 := o2.below b3 (Nat.le_refl _)
    have t3 := nxt t2 b3
    clear b3 t2
    go_wp2_with fail
    refine (implSumsOf_any _ _ _ (o3.sp a3) hl).mono ?_
    rintro e w4 ⟨g4, rfl, o4, b4⟩
    have z3 := t3.size
    have p4 := ap_above o4 a3 lt3
    have p24 := ap_two o2 o4 (by omega)
    have o4 := o4.mono z3
    have q2 := q2.below b4 (Nat.le_refl _)
    have q3 := o3.below b4 (Nat.le_refl _)
    have t4 := nxt t3 b4
    clear o3 b4 t3 o2
    go_wp2_with fail
    refine (eqIntS_yes _ _ _ _ _ o4.sv q2.sv rfl hyl).mono ?_
    rintro e w5 ⟨rfl, b5⟩
    have o4 := o4.below b5 (Nat.le_refl _)
    have q2 := q2.below b5 (Nat.le_refl _)
    have q3 := q3.below b5 (Nat.le_refl _)
    have t5 := nxt t4 b5
    clear b5 t4
    go_wp2_with fail
    refine (toIntS_any _ _ _ (hs.below t5 (Nat.le_refl _)) hl).mono ?_
    rintro e w6 ⟨u6, rfl, o6, -, b6⟩
    have o4 := o4.below b6 (Nat.le_refl _)
    have q2 := q2.below b6 (Nat.le_refl _)
    have q3 := q3.below b6 (Nat.le_refl _)
    have t6 := nxt t5 b6
    clear b6 t5
    go_wp2_with fail
    refine (eqIntS_yes _ _ _ _ _ q3.sv o6.sv rfl hl).mono ?_
    rintro e w7 ⟨rfl, b7⟩
    have o4 := o4.below b7 (Nat.le_refl _)
    have q2 := q2.below b7 (Nat.le_refl _)
    have q3 := q3.below b7 (Nat.le_refl _)
    have t7 := nxt t6 b7
    have z7 := t7.size
    clear b7 t6 o6
    go_wp2_with fail
    refine (markIntS_any _ xs _ 1 _ q3 hl (by omega) (by omega)).mono ?_
    rintro e w8 ⟨rfl, -, g8⟩
    have o4 := o4.kept g8 p4
    have q2 := q2.kept g8 p2
    have t8 := t7.trans (q3.marked z2 (Nat.le_of_lt (own_lt q3 a3)) g8)
    have z8 := t8.size
    clear q3 g8 t7 a3
    go_wp2_with fail
    refine (eqIntS_yes _ _ _ _ _ o4.sv q2.sv rfl hyl).mono ?_
    rintro e w9 ⟨rfl, b9⟩
    have o4 := o4.below b9 (Nat.le_refl _)
    have q2 := q2.below b9 (Nat.le_refl _)
    have t9 := nxt t8 b9
    have z9 := t9.size
    clear b9 t8
    go_wp2_with fail
    refine (markIntS_any _ (smsR xs) _ 1 _ o4 hyl (by omega) (by omega)).mono ?_
    rintro e w10 ⟨rfl, o10, g10⟩
    have q2 := q2.kept g10 p24
    have t10 := t9.trans (o4.marked (Nat.le_refl _) z9 g10)
    clear o4 g10 t9
    go_wp2_with fail
    refine (heldIntS_any _ (smsR xs).length 1 _ o10.sv hyl (by omega) (by omega)).mono ?_
    rintro e w10' ⟨rfl, rfl⟩
    go_wp2_with fail
    refine (toIntS_any _ _ _ (hs.below t10 (Nat.le_refl _)) hl).mono ?_
    rintro e w11 ⟨u11, rfl, o11, a11, b11⟩
    have o10 := o10.below b11 (Nat.le_refl _)
    have q2 := q2.below b11 (Nat.le_refl _)
    have t11 := nxt t10 b11
    clear b11 t10
    go_wp2_with fail
    refine (implSumsOf_any _ _ _ (o11.sp a11) hl).mono ?_
    rintro e w12 ⟨h12, rfl, o12, b12⟩
    have o10 := o10.below b12 (Nat.le_refl _)
    have q2 := q2.below b12 (Nat.le_refl _)
    have t12 := nxt t11 b12
    clear b12 t11 o11 a11
    go_wp2_with fail
    refine (eqIntS_yes _ _ _ _ _ o12.sv q2.sv rfl hyl).mono ?_
    rintro e w13 ⟨rfl, b13⟩
    have o10 := o10.below b13 (Nat.le_refl _)
    have t13 := nxt t12 b13
    clear b13 t12 o12 q2
    go_wp2_with fail
    refine (heldIntS_any _ (smsR xs).length 1 _ o10.sv hyl (by omega) (by omega)).mono ?_
    rintro e w13' ⟨rfl, rfl⟩
    go_wp2_with fail
    go_ret
    exact ⟨rfl, t13⟩
end Go.Proofs.Ytnbbfpanidmpgaa
