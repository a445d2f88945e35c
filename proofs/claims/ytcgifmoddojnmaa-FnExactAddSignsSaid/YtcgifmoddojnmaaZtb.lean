/-
  The program's table of both sides, by contract. Condition: pieces.
-/
import Derived.Test.YtcgifmoddojnmaaZbk
import Derived.RangeFuncNested
import Derived.RangeFuncBound
import Derived.RangeFuncCalls
namespace Go.Proofs.Ytcgifmoddojnmaa
open Go.RowKit Go.Shelf

attribute [local go_sem] Oper.semAt_some

/-- What is told behind some rounds: the pieces so far, and the starts. -/
def stp (q : List Int × (Int → Int)) (x : Int × Int) : List Int × (Int → Int) := (x.2 :: q.1, gcons q.1 q.2 x.1 x.2)
def stT (n : Int) (ps : List (Int × Int)) : List Int × (Int → Int) := ps.foldl stp ([], fun s => if s = 0 then n else 0)
theorem stT_snoc (n : Int) (ps : List (Int × Int)) (x : Int × Int) : stT n (ps ++ [x]) = stp (stT n ps) x := by simp [stT]
theorem stT_all (n : Int) (ps : List (Int × Int)) (hp : ∀ x ∈ ps, 1 ≤ x.2 ∧ x.2 ≤ 10000) : StOk (stT n ps).1 (stT n ps).2 ∧ (∀ x ∈ (stT n ps).1, 1 ≤ x ∧ x ≤ 10000) ∧ (stT n ps).1.length = ps.length := by
  have gen : ∀ (ps : List (Int × Int)) (q : List Int × (Int → Int)), (∀ x ∈ ps, 1 ≤ x.2 ∧ x.2 ≤ 10000) → StOk q.1 q.2 → (∀ x ∈ q.1, 1 ≤ x ∧ x ≤ 10000) →
      StOk (ps.foldl stp q).1 (ps.foldl stp q).2 ∧ (∀ x ∈ (ps.foldl stp q).1, 1 ≤ x ∧ x ≤ 10000) ∧ (ps.foldl stp q).1.length = ps.length + q.1.length := by
    intro ps
    induction ps with
    | nil => intro q _ h1 h2; exact ⟨h1, h2, by simp⟩
    | cons x ps ih =>
      intro q hp h1 h2
      have := ih (stp q x) (fun y hy => hp y (by simp [hy])) (h1.cons x.1 x.2) (fun y hy => by
        simp only [stp, List.mem_cons] at hy
        rcases hy with rfl | hy
        · exact hp x (by simp)
        · exact h2 y hy)
      refine ⟨this.1, this.2.1, ?_⟩
      have h3 := this.2.2
      simp only [List.foldl_cons, List.length_cons, stp] at h3 ⊢
      omega
  have := gen ps ([], fun s => if s = 0 then n else 0) hp ⟨fun s => by by_cases h : s = 0 <;> simp [h], fun s h => by
    have h : (if s = 0 then (1 : Int) else 0) = 0 := h
    show (if s = 0 then n else 0) = 0
    by_cases e : s = 0
    · rw [if_pos e] at h; omega
    · rw [if_neg e]⟩ (by simp)
  simpa [stT] using this
/-- The rounds that came. -/
def rds (xs : List Int) (ks : List (Fin xs.length)) : List (Int × Int) := ks.map fun k => bkF xs k.1
theorem rds_snoc (xs : List Int) (ks : List (Fin xs.length)) (k : Fin xs.length) : rds xs (ks ++ [k]) = rds xs ks ++ [bkF xs k.1] := by simp [rds]
theorem rds_in {xs : List Int} (h : Good xs) (ks : List (Fin xs.length)) : ∀ x ∈ rds xs ks, 1 ≤ x.2 ∧ x.2 ≤ 10000 := by
  intro x hx
  simp only [rds, List.mem_map] at hx
  obtain ⟨k, _, rfl⟩ := hx
  exact h.2.1 _ (by omega)
theorem stT_to (xs : List Int) : ∀ k, k ≤ xs.length → (stT xs.length (rds xs (finTo xs.length k))).1 = xs.drop (xs.length - k) ∧ ∀ s, (stT xs.length (rds xs (finTo xs.length k))).2 s = Gs ((xs.length - k : Nat) : Int) (xs.drop (xs.length - k)) s := by
  intro k
  induction k with
  | zero => intro _; rw [Nat.sub_zero, List.drop_length]; exact ⟨rfl, fun s => rfl⟩
  | succ k ih =>
    intro hk
    obtain ⟨h1, h2⟩ := ih (by omega)
    rw [finTo_succ (show k < xs.length by omega), rds_snoc, stT_snoc]
    have e : xs.length - k = (xs.length - (k + 1)) + 1 := by omega
    have e3 : xs.length - 1 - k = xs.length - (k + 1) := by omega
    have hd := drop_cons xs (xs.length - (k + 1)) (by omega)
    rw [e] at h1 h2
    refine ⟨?_, fun s => ?_⟩
    · rw [hd]
      simp only [stp, h1, bkF, e3]
    · rw [hd]
      have h3 : (stT xs.length (rds xs (finTo xs.length k))).2 = Gs ((xs.length - (k + 1) + 1 : Nat) : Int) (xs.drop (xs.length - (k + 1) + 1)) := funext h2
      simp only [stp, gcons, h1, h3, Gs, bkF, e3]
      rw [show ((xs.length : Int) - 1 - k) = ((xs.length - (k + 1) : Nat) : Int) by omega, show ((xs.length - (k + 1) + 1 : Nat) : Int) = ((xs.length - (k + 1) : Nat) : Int) + 1 by omega]
theorem kpB_b {n₀ Bs : Nat} {w : World} (hn : n₀ ≤ w.heap.size) (hB : Bs < w.heap.size) (W : World) (l : Nat) (o o' : Obj) (hl : w.heap.size ≤ l) (h : W.heap[l]? = some o) (h1 : o.isCells = false) (h2 : o.isWalk = false) : KpB n₀ Bs W (W.putObj l o') :=
  ⟨belowK_b hn W l o o' hl h h1 h2, (grownBy_putObj' W l o').block Bs (by have := (Array.getElem?_eq_some_iff.1 h).1; omega) (fun e => by have := Option.some.inj e; omega)⟩
/-- The loop's state: the variable holds a slice of the table told so far. -/
structure TbJ (w : World) (N : Nat) (xs : List Int) (b off cap : Nat) (pre : List (Fin xs.length)) (W : World) : Prop where
  box : ∃ g n : Nat, N ≤ g ∧ g ≠ N + 1 ∧ g ≠ N + 2 ∧ Boxed W (N + 1) 55 (.slice (some ⟨g, 0, none⟩) n n) ∧ n = (sumFrom 0 (stT xs.length (rds xs pre)).1).toNat + 1 ∧ Tbs W g (stT xs.length (rds xs pre)).2 (stT xs.length (rds xs pre)).1
  it : Boxed W (N + 2) 22 (.slice (some ⟨b, off, none⟩) xs.length cap)
  bel : Below N w W
theorem tbJ_own {w : World} {N : Nat} {xs : List Int} {b off cap : Nat} (B : Nat) (hN : N ≤ w.heap.size) (hB : N ≤ B) : OwnFrom B (TbJ w N xs b off cap) := by
  intro pre W W' row h hg hr
  obtain ⟨⟨g, n, h1, h2, h3, h4, h5, h6⟩, h7, h8⟩ := h
  have keep : ∀ (k : Nat) (c : Array Value) (t : TypeId) (f : Nat × Nat), W.heap[k]? = some (.cells c t f) → W'.heap[k]? = some (.cells c t f) := fun k c t f hk => by
    refine (hg.block k (Array.getElem?_eq_some_iff.1 hk).1 (fun e => ?_)).trans hk
    obtain ⟨_, o, ho, hc⟩ := hr k e.symm
    rw [hk] at ho
    cases ho
    cases hc
  refine ⟨⟨g, n, h1, h2, h3, keep _ _ _ _ h4, h5, ?_⟩, keep _ _ _ _ h7, ?_⟩
  · obtain ⟨c, hc, r⟩ := h6
    exact ⟨c, keep _ _ _ _ hc, r⟩
  · exact ownFrom_below hN hB pre W W' row h8 hg hr

theorem kf_below {B : Nat} {W W' : World} (h : Below W.heap.size W W') : KeepsFrom B W W' := ⟨h.size, fun k _ _ hk _ => (h.block k (Array.getElem?_eq_some_iff.1 hk).1).trans hk⟩
theorem Boxed.below {W W' : World} {g : Nat} {t : TypeId} {v : Value} (h : Boxed W g t v) (k : Below W.heap.size W W') : Boxed W' g t v := (k.block g h.lt).trans h
theorem blk_other (w : World) (a : Addr) (v : Value) {g : Nat} (h : g ≠ a.block) : (w.setCell a v).heap[g]? = w.heap[g]? := by simp [World.setCell, Array.getElem?_modify, Ne.symm h]
theorem Tb.other {w : World} {g n : Nat} {A B C : Nat → Int} (h : Tb w g n A B C) {a : Addr} (ha : g ≠ a.block) (v : Value) : Tb (w.setCell a v) g n A B C := by
  obtain ⟨c, hg, r⟩ := h
  exact ⟨c, (blk_other _ _ _ ha).trans hg, r⟩
theorem sum_cons (m : Int) (l : List Int) : sumFrom 0 (m :: l) = m + sumFrom 0 l := by simp only [sumFrom]; rw [sumFrom_shift]

set_option maxRecDepth 100000 in
set_option maxHeartbeats 8000000 in
theorem tableBoth_in (F : Fence) (n : Nat) (hF : ∀ k, F.fn k) (hro : F.round = none) (hn : 5 ≤ n) (hW : ∀ (k f : Nat) (args : Array Value) (w : World) (R : Ending → World → Prop), Calls Try.prog f args w R → CallsIn F k Try.prog f args w R)
    (v : Value) (xs : List Int) (w : World) (h : Sp w v xs) (hg : Good xs) :
    CallsIn F n Try.prog 60 #[v] w fun e w' => ∃ g, e = .returned (.slice (some ⟨g, 0, none⟩) (top xs + 1) (top xs + 1)) ∧ w.heap.size ≤ g ∧ Tbs w' g (Gs 0 xs) xs ∧ Below w.heap.size w w' := by
  have h1 : 1 ≤ n := by omega
  have h1m : 1 ≤ n - 1 - 1 := by omega
  have hl20 := hg.len
  have HG := Lib.hid hg
  obtain ⟨b, off, cap, rfl, _, _, hbl, hcl⟩ := h
  have HCL := Lib.hid hcl
  clear hcl hg
  refine callsIn_of_wp_marks Try.func60 rfl (hF _) ?_ hro
  simp only [Try.ntmps60, List.size_toArray, List.length_cons, List.length_nil, Nat.reduceAdd, Nat.reduceSub, Array.replicate_succ, Array.replicate_zero, List.push_toArray, List.append_toArray, List.nil_append, List.cons_append]
  gi_wp2_with (gi_at_call 93; refine (backward_in F (n - 1) (hF _) hro _ _ _ _).mono ?_; rintro e w' ⟨rfl, rfl⟩)
  have W0 : Below w.heap.size w (((w.alloc (.cells #[.int .i64 1, .int .i64 0, .int .i64 (xs.length : Int)] 52)).alloc (.cells #[.slice (some ⟨w.heap.size, 0, none⟩) 1 1] 55)).alloc (.cells #[.slice (some ⟨b, off, none⟩) xs.length cap] 22)) := (((Below.refl _ _).alloc (Nat.le_refl _) _).alloc (by simp) _).alloc (by simp; omega) _
  have hbT := (Boxed.new (w.alloc (.cells #[.int .i64 1, .int .i64 0, .int .i64 (xs.length : Int)] 52)) 55 (.slice (some ⟨w.heap.size, 0, none⟩) 1 1)).alloc (.cells #[.slice (some ⟨b, off, none⟩) xs.length cap] 22)
  have hbS := Boxed.new ((w.alloc (.cells #[.int .i64 1, .int .i64 0, .int .i64 (xs.length : Int)] 52)).alloc (.cells #[.slice (some ⟨w.heap.size, 0, none⟩) 1 1] 55)) 22 (.slice (some ⟨b, off, none⟩) xs.length cap)
  have hT0 : Tbs (((w.alloc (.cells #[.int .i64 1, .int .i64 0, .int .i64 (xs.length : Int)] 52)).alloc (.cells #[.slice (some ⟨w.heap.size, 0, none⟩) 1 1] 55)).alloc (.cells #[.slice (some ⟨b, off, none⟩) xs.length cap] 22)) w.heap.size (stT xs.length (rds xs [])).2 (stT xs.length (rds xs [])).1 := by
    refine ⟨_, (Below.heap_alloc _ _ _ (by simp; omega)).trans (blk_a _ _ _), rfl, fun j hj => ?_⟩
    obtain rfl : j = 0 := by simpa [stT, rds, sumFrom] using hj
    exact ⟨rfl, rfl, rfl⟩
  simp only [World.size_alloc] at hbT hbS
  have hzl : (((w.alloc (.cells #[.int .i64 1, .int .i64 0, .int .i64 (xs.length : Int)] 52)).alloc (.cells #[.slice (some ⟨w.heap.size, 0, none⟩) 1 1] 55)).alloc (.cells #[.slice (some ⟨b, off, none⟩) xs.length cap] 22)).heap.size = w.heap.size + 1 + 1 + 1 := by simp
  obtain ⟨Wl, hWl⟩ : ∃ Wl, (((w.alloc (.cells #[.int .i64 1, .int .i64 0, .int .i64 (xs.length : Int)] 52)).alloc (.cells #[.slice (some ⟨w.heap.size, 0, none⟩) 1 1] 55)).alloc (.cells #[.slice (some ⟨b, off, none⟩) xs.length cap] 22)) = Wl := ⟨_, rfl⟩
  rw [hWl] at W0 hbT hbS hT0 hzl ⊢
  obtain ⟨N, hN⟩ : ∃ N, w.heap.size = N := ⟨_, rfl⟩
  rw [hN] at W0 hbT hbS hT0 hzl hbl ⊢
  have hcs : ∀ j, j < xs.length → Wl.cell? ⟨b, off + j, none⟩ = some (.int .i64 (xs.getD j 0)) := fun j hj => (W0.cell (p := ⟨b, off + j, none⟩) hbl).trans (HCL.out j hj)
  clear hWl
  refine wpIn_rangeFunc_ownG hro h1 (gf := 103) (lb := #[.pointer (some ⟨N + 1 + 1, 0, none⟩)]) rfl (hF _) (enters_of Try.func103 (by kernel_rfl) rfl)
    (back_stops F (n - 1) (hF _) hro (by omega) (N + 1 + 1) N b off cap xs (by omega) Wl (by omega) (by omega) (by omega) hbS.cell hcs) KpB.trans (kpB_b (by omega) (by omega)) (Below.refl _ _) (fun _ => rfl)
    (TbJ w N xs b off cap)
    (fun _ _ _ => False)
    (tbJ_own _ (by omega) (by omega))
    (fun _ _ _ _ _ hs _ _ => hs)
    ⟨⟨N, 1, Nat.le_refl _, by omega, by omega, hbT, rfl, hT0⟩, hbS, W0⟩
    (fun x => { tmps := #[.slice (some ⟨b, off, none⟩) xs.length cap, undef, .slice none 0 0, .pointer (some ⟨N + 1, 0, none⟩), .int .i64 (bkF xs x.1).1, .int .i64 (bkF xs x.1).2, .slice (some ⟨b, off, none⟩) xs.length cap, .int .i64 (xs.length : Int), .agg #[.int .i64 1, .int .i64 0, .int .i64 (xs.length : Int)], .slice (some ⟨N, 0, none⟩) 1 1, .slice (some ⟨b, off, none⟩) xs.length cap, .func (.func 103) #[] #[.pointer (some ⟨N + 1 + 1, 0, none⟩)], .int .i64 (bkF xs x.1).1, .int .i64 (bkF xs x.1).2, undef, undef, undef, undef, undef], defers := [] }) ?assign ?body ?done ?stop
  case assign =>
    intro l x W K hK
    gi_wp2
    exact hK
  case body =>
    rintro lo pre x W ⟨⟨g, c, hg1, hg2, hg3, hv, hc, hT⟩, hs, hB⟩ hlt
    have SA := stT_all xs.length (rds xs pre) (rds_in HG.out pre)
    have SN := stT_snoc xs.length (rds xs pre) (bkF xs x.1)
    rw [← rds_snoc] at SN
    have hx := HG.out.2.1 (xs.length - 1 - x.1) (by have := x.2; omega)
    have hbk : bkF xs x.1 = (((xs.length - 1 - x.1 : Nat) : Int), ((xs.getD (xs.length - 1 - x.1) 0).toNat : Int)) := by
      unfold bkF
      rw [show ((xs.length : Int) - 1 - x.1) = ((xs.length - 1 - x.1 : Nat) : Int) by have := x.2; omega]
      congr 1
      omega
    have hlen : (stT xs.length (rds xs pre)).1.length ≤ 19 := by
      rw [SA.2.2]; simp only [rds, List.length_map]; omega
    rw [hbk] at SN ⊢
    obtain ⟨k, ek⟩ : ∃ k, xs.length - 1 - x.1 = k := ⟨_, rfl⟩
    rw [ek] at hx SN ⊢
    obtain ⟨m, em⟩ : ∃ m, (xs.getD k 0).toNat = m := ⟨_, rfl⟩
    rw [em] at SN ⊢
    have hm1 : 1 ≤ m := by omega
    have hm2 : m ≤ 10000 := by omega
    obtain ⟨q, eq⟩ : ∃ q, stT xs.length (rds xs pre) = q := ⟨_, rfl⟩
    rw [eq] at SA hlen SN hc hT
    have hM := CallsIn.inRound lo (hW (n - 1 - 1 - 1) _ _ _ _ (withSides_any g c k m q.1 q.2 W hT SA.1 hc SA.2.1 hlen hm1 hm2))
    have hvc := hv.cell
    have hvf := hv.frozen
    have hBz := hB.size
    rw [hN] at hBz
    have HS := Lib.hid SN
    have HC := Lib.hid hc
    have HSA := Lib.hid SA.2.1
    clear SA SN eq hbk hx em ek hlen hc
    gi_wp2_with (gi_at_call 94; refine hM.mono ?_; rintro e w2 ⟨rfl, T2, b2⟩; have hv2 := Boxed.below hv b2; have hvc2 := hv2.cell; have hvf2 := hv2.frozen)
    have hs2 := Boxed.below hs b2
    have hsl := hs.lt
    have hvl := hv.lt
    refine ⟨(kf_below b2).trans ((KeepsOthers.setCell _ _ _).from _), ⟨(b2.mono (by omega)).setCell (p := ⟨N + 1, 0, none⟩) (by show N ≤ N + 1; omega) _, (blk_other _ _ _ (by show N + 1 + 1 ≠ N + 1; omega)).trans (b2.block (N + 1 + 1) hsl)⟩, ⟨⟨W.heap.size, c + m, by omega, by omega, by omega, by simpa using hv2.set _, ?_, ?_⟩, hs2.other (B' := N + 1) (by omega) _, (hB.trans (b2.mono (by omega))).setCell (p := ⟨N + 1, 0, none⟩) (by show N ≤ N + 1; omega) _⟩⟩
    · rw [HS.out]
      show c + m = (sumFrom 0 ((m : Int) :: q.1)).toNat + 1
      have h0 := (sumFrom_bd q.1 0 HSA.out).1
      have := HC.out
      rw [sum_cons]
      omega
    · rw [HS.out]
      have h0 := (sumFrom_bd q.1 0 HSA.out).1
      have e : (sumFrom 0 (stp q ((k : Int), (m : Int))).1).toNat + 1 = c + m := by
        show (sumFrom 0 ((m : Int) :: q.1)).toNat + 1 = c + m
        have := HC.out
        rw [sum_cons]
        omega
      unfold Tbs
      rw [e]
      exact Tb.other T2 (by show W.heap.size ≠ N + 1; omega) _
  case done =>
    rintro D ys W hD rfl ⟨⟨g, c, hg1, hg2, hg3, hv, hc, hT⟩, hs, hB⟩ hK
    have hvc := hv.cell
    obtain ⟨e1, e2⟩ := stT_to xs xs.length (Nat.le_refl _)
    rw [Nat.sub_self, List.drop_zero] at e1
    have e3 : (stT xs.length (rds xs (finTo xs.length xs.length))).2 = Gs 0 xs := funext fun s => by rw [e2, Nat.sub_self, List.drop_zero]; rfl
    rw [e1] at hc
    rw [e1, e3] at hT
    have hct : c = top xs + 1 := hc
    subst hct
    clear hc e1 e2 e3
    gi_wp2
    refine ⟨by simp, .inl ⟨_, _, rfl, run_takeDeferred hK, ?_⟩⟩
    have hbe : Below N w (W.putObj D (.deferred none)) := hB.trans (belowK_b (w := Wl) (by omega) W D _ _ hD hK rfl rfl)
    refine ⟨_, (by simp [results, Try.results60, go_sem]), g, rfl, by omega, ?_, by rw [hN]; exact hbe⟩
    obtain ⟨cs, hcs', r⟩ := hT
    have hne : g ≠ D := by
      rintro rfl
      rw [hcs'] at hK
      cases hK
    exact ⟨cs, (World.putObj_heap_other (by omega)).trans hcs', r⟩
  case stop =>
    rintro D c pre W _ _ h _
    exact h.elim

theorem tableBoth_any (v : Value) (xs : List Int) (w : World) (h : Sp w v xs) (hg : Good xs) :
    Calls Try.prog 60 #[v] w fun e w' => ∃ g, e = .returned (.slice (some ⟨g, 0, none⟩) (top xs + 1) (top xs + 1)) ∧ w.heap.size ≤ g ∧ Tbs w' g (Gs 0 xs) xs ∧ Below w.heap.size w w' :=
  callsIn_wide.1 (tableBoth_in Fence.wide 8 (fun _ => trivial) rfl (by omega) (fun _ _ _ _ _ h => callsIn_wide.2 h) v xs w h hg)
end Go.Proofs.Ytcgifmoddojnmaa
