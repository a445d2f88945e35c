/-
  The sums of pieces, collected in a map by the program, by its contract. Conditions: pieces.
-/
import Derived.Test.YtkadmopnfmbedaaMapb
namespace Go.Proofs.Ytkadmopnfmbedaa
open Go.RowKit Go.Maps Go.WideMaps

/-- The program's map of sums. -/
def MapOf (w : World) (b n : Nat) (S : Int → Bool) : Prop := ∃ D : DataW Unit, w.ownsMap Try.prog 72 (plainElem Try.prog 4) b n D ∧ SetIs D S
theorem mk_inS {xs : List Int} (hg : Good xs) {k : Nat} (hk : k ≤ xs.length) {s : Int} (h : mk xs k s = true) : 0 ≤ s ∧ s ≤ 200000 := by
  have := mk_bd hg k s hk h; have := hg.len; omega
theorem mk_next {xs : List Int} (hg : Good xs) {k : Nat} (hk : k < xs.length) {x : Int} (hx : xs.getD k 0 = x) {src : List Int} (hs : ∀ s, s ∈ src ↔ inS s ∧ mk xs k s = true) (s : Int) :
    (mk xs k s || decide (s ∈ src.map (· + x))) = mk xs (k + 1) s := by
  simp only [mk, hx]
  congr 1
  rw [Bool.eq_iff_iff, decide_eq_true_eq, List.mem_map]
  constructor
  · rintro ⟨t, ht, rfl⟩
    have := ((hs t).1 ht).2
    rwa [show t + x - x = t by omega]
  · intro h
    have := mk_inS hg (by omega) h
    exact ⟨s - x, (hs _).2 ⟨by unfold inS; omega, h⟩, by omega⟩
theorem take_mem (ys : List Int) (j : Nat) (h : j < ys.length) (s : Int) : decide (s ∈ ys.take (j + 1)) = (decide (s ∈ ys.take j) || decide (s = ys.getD j 0)) := by
  rw [List.take_add_one, List.getElem?_eq_getElem h, List.getD_eq_getElem?_getD, List.getElem?_eq_getElem h]
  rw [Bool.eq_iff_iff]
  simp only [Option.toList_some, List.mem_append, List.mem_singleton, decide_eq_true_eq, Bool.or_eq_true, Option.getD_some]
theorem pow_bd {k : Nat} (h : k ≤ 20) : 2 ^ k ≤ 1048576 := by
  have := Nat.pow_le_pow_right (n := 2) (by omega) h
  simpa using this

set_option maxHeartbeats 8000000 in
set_option maxRecDepth 100000 in
theorem collectSums_any (v : Value) (xs : List Int) (w : World) (h : Sv w v xs) (hg : Good xs) :
    Calls Try.prog 58 #[v] w fun e w' => e = .returned (.map (some w.heap.size)) ∧ MapOf w' w.heap.size (2 ^ xs.length) (mk xs xs.length) ∧ Below w.heap.size w w' := by
  have hl := hg.len
  obtain ⟨p, cap, rfl, hx⟩ := h
  have hmm := @run_makeMap Try.prog
  have hown0 := World.ownsMap_made w Try.prog 72 (plainElem (H := Unit) Try.prog 4)
  have hb00 : Below w.heap.size w (w.alloc (.map #[] 0)) := (Below.refl _ _).alloc (Nat.le_refl _) _
  have HG := Lib.hid hg
  clear hg
  go_enter Try.func58, Try.ntmps58
  go_wp2_with (refine wpList_insert_own _ rfl _ _ _ 62 rfl 72 4 KK Try.underlying62 _ w.heap.size 0 _ rfl hown0 (by unfold maxLen; omega) (sumV 0) _ (KL 0) rfl rfl (key_of (wf_sum (by omega) (by omega))) _ [] (plainElem_bool Try.underlying4 true) ?_; intro w1 hown1 hg1)
  have hb1 : Below w.heap.size w w1 := hb00.grown hg1 (by simp) (fun k e => by cases e; exact Nat.le_refl _)
  have hset1 : MapOf w1 w.heap.size (2 ^ 0) (mk xs 0) := ⟨_, hown1, (SetIs.empty.put isMap_empty (s := 0) ⟨by omega, by omega⟩ _).congr (fun s _ => by simp [mk])⟩
  clear hown0 hown1 hg1 hb00 hmm
  have HM1 := Lib.hid hset1
  clear hset1
  go_loopw [15] (fun i wr => ∃ k : Nat, k ≤ xs.length ∧ i = .int .i64 k ∧ MapOf wr w.heap.size (2 ^ k) (mk xs k) ∧ Below w.heap.size w wr) (fun i _ => xs.length - (intOf i).toNat)
  case atStart => exact ⟨0, Nat.zero_le _, rfl, HM1.out, hb1⟩
  case round =>
    clear hb1
    obtain ⟨k, hk, rfl, ⟨D, hown, hset⟩, hb⟩ := hrel
    by_cases hlt : k < xs.length
    · obtain ⟨b, off, rfl, hbl, hcl⟩ := hx (by omega)
      have hcell := (hb.cell (p := ⟨b, off + k, none⟩) hbl).trans (hcl k hlt)
      obtain ⟨hxb1, hxb2⟩ := HG.out.2.1 k hlt
      obtain ⟨x, ex⟩ : ∃ x, xs.getD k 0 = x := ⟨_, rfl⟩
      rw [ex] at hcell hxb1 hxb2
      have EX := Lib.hid ex
      clear ex hcl hx
      have hbz := hown.lt
      have hsz := hown.size_le
      have hpk := pow_bd (k := k) (by omega)
      obtain ⟨N, eN⟩ : ∃ N, 2 ^ k = N := ⟨_, rfl⟩
      rw [eN] at hown hsz hpk
      have EN := Lib.hid eN
      have HS := Lib.hid hset
      clear eN hset
      have ho0 := OwS.empty wr
      go_wp2_with (at_range; refine wpList_range_own _ rfl _ 62 rfl 72 4 KK Try.underlying62 _ w.heap.size N D rfl (hown.alloc _) ?_; intro w2 hrg2 hg2 hs2)
      go_frame
      simp only [World.size_alloc] at hrg2 hs2
      simp only [World.size_alloc]
      have hb2 : Below w.heap.size w w2 := (hb.alloc (by omega) _).grown hg2 (by simp; omega) (fun k e => by cases e)
      have ho2 : OwS w2 wr.heap.size (.slice (some ⟨wr.heap.size, 0, none⟩) 0 0) [] := ho0.kept hg2 (.inr (by simp [Value.ownBlock]))
      clear ho0 hb hown hg2 hcell
      obtain ⟨Z, hZ⟩ : ∃ Z, wr.heap.size = Z := ⟨_, rfl⟩
      rw [hZ] at hrg2 hs2 ho2 hbz ⊢
      clear hZ
      go_loopw [6] (fun a wr2 => ∃ (left : Lit → Bool) (cnt : Nat) (src : List Int), wr2.ranges Try.prog 72 (plainElem Try.prog 4) w.heap.size (Z + 1) N D left cnt ∧ OwS wr2 Z a (src.map (· + x)) ∧ Come D (mk xs k) left cnt src ∧ Below w.heap.size w wr2 ∧ Z + 2 ≤ wr2.heap.size) (fun _ wr2 => wr2.rangeLeft w.heap.size (Z + 1))
      case atStart => exact ⟨_, _, [], hrg2, ho2, Come.start HS.out, hb2, by omega⟩
      case round =>
        clear hrg2 ho2 hb2
        obtain ⟨left, cnt, src, hrg, ho, hc, hbw, hzw⟩ := hrel
        have hcl := hc.len
        go_wp2_with (at_next; refine wpList_next_ranges _ rfl _ rfl 72 KK _ (fun s => Value.agg #[Value.int .i64 s]) (fun c : Value => c) (fun key kl hk => (key_inv key kl hk).elim fun s hs => ⟨s, hs.1⟩) (fun v y hv => ⟨v, rfl⟩) w.heap.size (Z + 1) N D left cnt rfl hrg ?_ ?_)
        · intro _ hl0
          have hend := Lib.hid (hc.end hl0)
          have hown := hrg.owns
          obtain ⟨ys, ey⟩ : ∃ ys, src.map (· + x) = ys := ⟨_, rfl⟩
          rw [ey] at ho
          have EY := Lib.hid ey
          have hyl : ys.length = src.length := by rw [← ey]; simp
          have hyN : ys.length ≤ N := by omega
          have hys : ∀ s, s ∈ ys → 0 ≤ s ∧ s ≤ 1000000 := by
            intro s hs
            rw [← ey, List.mem_map] at hs
            obtain ⟨t, ht, rfl⟩ := hs
            have := mk_inS HG.out (by omega) ((hend.out t).1 ht).2
            omega
          have HYS := Lib.hid hys
          clear ey hys hrg hc hyl hcl hl0
          obtain ⟨q, cap2, rfl, hrd⟩ := ho.read
          clear hrd
          go_wp2_with fail
          go_loopw [34] (fun i wr3 => ∃ j : Nat, j ≤ ys.length ∧ i = .int .i64 j ∧ (∃ D2 : DataW Unit, wr3.ownsMap Try.prog 72 (plainElem Try.prog 4) w.heap.size (N + j) D2 ∧ SetIs D2 (fun s => mk xs k s || decide (s ∈ ys.take j))) ∧ OwS wr3 Z (.slice q ys.length cap2) ys ∧ Below w.heap.size w wr3 ∧ Z + 2 ≤ wr3.heap.size) (fun i _ => ys.length - (intOf i).toNat)
          case atStart => exact ⟨0, Nat.zero_le _, rfl, ⟨D, hown, HS.out.congr (fun s _ => by simp)⟩, ho, hbw, hzw⟩
          case round =>
            clear hown ho hbw hzw
            obtain ⟨j, hj, rfl, ⟨D2, hown2, hset2⟩, ho2, hb2, hz2⟩ := hrel
            have HS2 := Lib.hid hset2
            clear hset2
            by_cases hjl : j < ys.length
            · obtain ⟨q', cap', e, hrd⟩ := ho2.read
              obtain ⟨g, hq, hg1, hg2, hcells⟩ := hrd (by omega)
              simp only [Value.slice.injEq] at e
              obtain ⟨rfl, _, rfl⟩ := e
              subst hq
              have hcy := hcells j hjl
              have TM := Lib.hid (take_mem ys j hjl)
              have hin := HYS.out (ys.getD j 0) (by rw [List.getD_eq_getElem?_getD, List.getElem?_eq_getElem hjl]; simp)
              obtain ⟨y, ey⟩ : ∃ y, ys.getD j 0 = y := ⟨_, rfl⟩
              rw [ey] at hcy hin
              have EY2 := Lib.hid ey
              clear ey hcells hrd
              have hky := key_of (s := y) (wf_sum hin.1 hin.2)
              have HKY := Lib.hid hky
              clear hky
              have hne : some w.heap.size ≠ (Value.slice (some ⟨g, 0, none⟩) ys.length cap2).ownBlock := row_ne_low ho2 hbz
              have HNE := Lib.hid hne
              clear hne
              go_wp2_with (at_mapUpdate; refine wpList_mapUpdate_own _ rfl _ _ _ 62 rfl 72 4 KK Try.underlying62 _ w.heap.size (N + j) D2 rfl (hown2.alloc _) (by unfold maxLen; omega) (sumV y) _ (KL y) rfl rfl HKY.out _ [] (plainElem_bool Try.underlying4 true) ?_; intro w6 hown6 hg6)
              have hb6 := (hb2.alloc (by omega) _).grown hg6 (by simp; omega) (fun k e => by cases e; exact Nat.le_refl _)
              have ho6 : OwS w6 Z (.slice (some ⟨g, 0, none⟩) ys.length cap2) ys := (ho2.alloc _).kept hg6 (.inr (fun h => HNE.out h.symm))
              have hz6 := hg6.size
              have hz6 := Nat.le_trans (Nat.le_trans hz2 (show wr.heap.size ≤ _ by rw [World.size_alloc]; omega)) hz6
              have him := hown2.isMap
              clear ho2 hb2 hown2 hg6
              go_roundw
              case rel => exact ⟨j + 1, by omega, by go_num, ⟨_, hown6, (HS2.out.put him hin _).congr (fun s _ => by rw [TM.out, EY2.out, Bool.or_assoc])⟩, ho6, hb6, by omega⟩
              case measure => simp only [intOf]; omega
            · have e : ys.take j = ys := List.take_of_length_le (by omega)
              have hm : MapOf wr w.heap.size (2 ^ (k + 1)) (mk xs (k + 1)) := by
                refine ⟨D2, hown2.mono (by rw [Nat.pow_succ, EN.out]; omega), HS2.out.congr (fun s _ => ?_)⟩
                rw [e, ← EY.out]
                exact mk_next HG.out hlt EX.out hend.out s
              have HMM := Lib.hid hm
              clear hm hown2 ho2 e
              go_wp2
              go_roundw
              case rel => exact ⟨k + 1, by omega, by go_num, HMM.out, hb2⟩
              case measure => simp only [intOf]; omega
        · intro s c kl y1 y2 w3 cnt3 hkey hlk hv hat hrg3 hlt3 hg3 hs3 hen
          obtain ⟨s', es', hws⟩ := key_inv _ _ hkey
          have e0 : s = s' := by simpa [sumV] using es'
          subst e0
          have ek : KL s = kl := by have := key_of hws; unfold sumV at this; rw [hkey] at this; exact (Option.some.inj this).symm
          subst ek
          obtain ⟨hsb, hcn⟩ := hc.next HS.out hws hlk hlt3
          have hmk : 0 ≤ s ∧ s ≤ 200000 := by
            have h1 := (HS.out.has s hsb).symm.trans (hc.sub _ hlk)
            exact mk_inS HG.out (by omega) h1
          have hz3 := hg3.size
          have hb3 := hbw.grown hg3 (by omega) (fun k e => by cases e; omega)
          have ho3 : OwS w3 Z _ (src.map (· + x)) := ho.kept hg3 (.inr (fun h => row_ne_iter ho hrg h.symm))
          have hw1 := hmk.1
          have hw2 := hmk.2
          have HCN := Lib.hid hcn
          clear ho hbw hg3 hkey hv hat hlk hc hcn es' hsb hmk hws
          go_wp2_with fail
          refine (with_any s x _ hw1 (by omega) (by omega) (by omega)).mono ?_
          rintro e w4 ⟨rfl, b4⟩
          have ho4 : OwS w4 Z _ (src.map (· + x)) := (ho3.alloc _).below b4 (Nat.le_refl _)
          have hrg4 := (hrg3.alloc (.cells #[.int .i64 s] 72)).kept (gb_below b4) (by simp) (by simp)
          have hb4 := (hb3.alloc (by omega) (.cells #[.int .i64 s] 72)).trans (b4.mono (by simp; omega))
          have hz4 := b4.size
          simp at hz4
          clear ho3 hrg3 hb3 b4
          go_wp2_with (at_builtin; refine wpList_append_sum rfl _ _ rfl Z _ (src.map (· + x)) rfl (s + x) (ho4.alloc _) rfl (by simp; omega) (by omega) ?_; intro v5 w5 h5 g5)
          have hne1 : some w.heap.size ≠ _ := row_ne_low ho4 hbz
          have hne2 : some (Z + 1) ≠ _ := row_ne_iter ho4 hrg4
          have hrg5 := (hrg4.alloc _).kept g5 hne1 hne2
          have hb5 := (hb4.alloc (by omega) _).grown g5 (by simp; omega) (fun k hk => by have := (World.ownsRow.lt ho4 k hk).1; omega)
          have hz5 := g5.size
          simp at hz5
          clear ho4 hrg4 hb4 g5
          go_roundw
          case rel => exact ⟨_, cnt3, src ++ [s], hrg5, by rw [List.map_append]; exact h5, HCN.out, hb5, by omega⟩
          case measure => rw [hrg5.left_eq, hrg.left_eq]; exact hlt3
    · clear hx
      have hkl : k = xs.length := by omega
      subst hkl
      have HMM := Lib.hid (show MapOf wr w.heap.size (2 ^ xs.length) (mk xs xs.length) from ⟨D, hown, hset⟩)
      clear hown hset
      go_wp2
      go_ret
      exact ⟨rfl, HMM.out, hb⟩
end Go.Proofs.Ytkadmopnfmbedaa
