/-
  The program's search for the best sets of stamps, by its contract. Conditions: 1..3 kinds, a room of 1..5.
-/
import Derived.Test.YtmllokooceghiaaTos
import Derived.Test.YtmllokooceghiaaTwp
import Derived.Deep.RegionWith
import Derived.Deep.CutRange
import Derived.Deep.CutBlock
import Derived.Sort.CutIn
namespace Go.Proofs.Ytmllokooceghiaa
open Go.RowKit

attribute [local go_sem] b3

/-- The variable that holds the best so far. -/
def C3 (W : World) (g : Nat) (f : Int) (p : Option Addr) (n c : Nat) (k : Int) : Prop := W.heap[g]? = some (.cells #[.int .i64 f, .slice p n c, .int .i64 k] 61 (0, 0))
theorem C3.lt {W : World} {g : Nat} {f k : Int} {p : Option Addr} {n c : Nat} (h : C3 W g f p n c k) : g < W.heap.size := (Array.getElem?_eq_some_iff.1 h).1
theorem C3.below {W W' : World} {g : Nat} {f k : Int} {p : Option Addr} {n c : Nat} (h : C3 W g f p n c k) (b : Below W.heap.size W W') : C3 W' g f p n c k := (b.block g h.lt).trans h
theorem C3.cells {W : World} {g : Nat} {f k : Int} {p : Option Addr} {n c : Nat} (h : C3 W g f p n c k) : W.cell? ⟨g, 0, none⟩ = some (.int .i64 f) ∧ W.cell? ⟨g, 1, none⟩ = some (.slice p n c) ∧ W.cell? ⟨g, 2, none⟩ = some (.int .i64 k) ∧ W.frozen? ⟨g, 0, none⟩ = false ∧ W.frozen? ⟨g, 1, none⟩ = false ∧ W.frozen? ⟨g, 2, none⟩ = false := by
  unfold C3 at h
  refine ⟨?_, ?_, ?_, ?_, ?_, ?_⟩ <;> simp [World.cell?, World.frozen?, h]
theorem C3.set {W : World} {g : Nat} {f k : Int} {p : Option Addr} {n c : Nat} (h : C3 W g f p n c k) (f' k' : Int) (p' : Option Addr) (n' c' : Nat) :
    C3 (((W.setCell ⟨g, 0, none⟩ (.int .i64 f')).setCell ⟨g, 1, none⟩ (.slice p' n' c')).setCell ⟨g, 2, none⟩ (.int .i64 k')) g f' p' n' c' k' := by
  unfold C3 at h ⊢
  simp [World.setCell, Array.getElem?_modify, h]
theorem flat_take {α β : Type} (f : α → List β) (L : List α) (d : α) {j : Nat} (hj : j < L.length) : (L.take (j + 1)).flatMap f = (L.take j).flatMap f ++ f (L.getD j d) := by
  rw [List.take_add_one, List.getElem?_eq_getElem hj, List.flatMap_append, List.getD_eq_getElem?_getD, List.getElem?_eq_getElem hj]
  simp
theorem getD_mem {α : Type} (L : List α) (d : α) {j : Nat} (hj : j < L.length) : L.getD j d ∈ L := by
  rw [List.getD_eq_getElem?_getD, List.getElem?_eq_getElem hj]; exact List.getElem_mem hj
theorem flat_len {r : Nat} (L : List (List Int)) : (L.flatMap fun x => nxS (rch x r) x).length ≤ 500 * L.length := by
  induction L with
  | nil => simp
  | cons x L ih =>
    have := nxS_len (rch x r) x
    simp only [List.flatMap_cons, List.length_append, List.length_cons]
    omega
/-- A row of a slice of slices whose blocks are as they were. -/
theorem ows_mid {w1 wi : World} {B g c : Nat} {L : List (List Int)} (h : Ows w1 B (.slice (some ⟨g, 0, none⟩) L.length c) L) (k : Mid B w1.heap.size w1 wi) {j : Nat} (hj : j < L.length) :
    ∃ gj cj, wi.cell? ⟨g, j, none⟩ = some (.slice (some ⟨gj, 0, none⟩) (L.getD j []).length cj) ∧ gj < wi.heap.size ∧ (∀ i, i < (L.getD j []).length → wi.cell? ⟨gj, 0 + i, none⟩ = some (.int .i64 ((L.getD j []).getD i 0))) := by
  rcases h.form with ⟨e, _⟩ | ⟨g2, cap, hv, hg, hlt, hc⟩
  · simp at e
  · simp only [Value.slice.injEq, Option.some.injEq, Addr.mk.injEq, and_true, true_and] at hv
    obtain ⟨rfl, rfl⟩ := hv
    obtain ⟨u, hu, ho⟩ := hc j hj
    obtain ⟨gj, cj, rfl, hg2, hl⟩ := (ho.mid (Nat.le_refl _) k.2).lies
    exact ⟨gj, cj, (cell_of_heap (k.2 g hg hlt)).trans hu, hg2, hl⟩

/-- A row, as it lies now and as it lay. -/
theorem ows_both {w1 wi : World} {B g c : Nat} {L : List (List Int)} (h : Ows w1 B (.slice (some ⟨g, 0, none⟩) L.length c) L) (k : Below w1.heap.size w1 wi) {j : Nat} (hj : j < L.length) :
    ∃ gj cj, wi.cell? ⟨g, j, none⟩ = some (.slice (some ⟨gj, 0, none⟩) (L.getD j []).length cj) ∧ gj < wi.heap.size ∧ (∀ i, i < (L.getD j []).length → wi.cell? ⟨gj, 0 + i, none⟩ = some (.int .i64 ((L.getD j []).getD i 0))) ∧ OwP w1 B (.slice (some ⟨gj, 0, none⟩) (L.getD j []).length cj) (L.getD j []) := by
  rcases h.form with ⟨e, _⟩ | ⟨g2, cap, hv, hg, hlt, hc⟩
  · simp at e
  · simp only [Value.slice.injEq, Option.some.injEq, Addr.mk.injEq, and_true, true_and] at hv
    obtain ⟨rfl, rfl⟩ := hv
    obtain ⟨u, hu, ho⟩ := hc j hj
    have ho2 := ho
    obtain ⟨gj, cj, rfl, _, _⟩ := ho2.lies
    obtain ⟨gj2, cj2, e, hg2, hl⟩ := (ho.below k (Nat.le_refl _)).lies
    simp only [Value.slice.injEq, Option.some.injEq, Addr.mk.injEq, and_true, true_and] at e
    obtain ⟨rfl, rfl⟩ := e
    exact ⟨gj, cj, (k.cell (p := ⟨g, j, none⟩) hlt).trans hu, hg2, hl, ho⟩
theorem App.blk_some {w w' : World} {B : Nat} {v v' : Value} {L : List (List Int)} (h : App w w' B v v' L) (hv : ∃ g, v.ownBlock = some g) : ∃ g, v'.ownBlock = some g := by
  obtain ⟨g, hg⟩ := hv
  rcases h.blk with e | e
  · exact ⟨g, e.trans hg⟩
  · exact ⟨_, e⟩
theorem Ows.formS {w : World} {B : Nat} {v : Value} {L : List (List Int)} (h : Ows w B v L) (hv : ∃ g, v.ownBlock = Option.some g) : ∃ g c, v = .slice (Option.some ⟨g, 0, none⟩) L.length c := by
  rcases h.form with ⟨rfl, _⟩ | ⟨g, c, e, _⟩
  · obtain ⟨g, hg⟩ := hv
    simp [Value.ownBlock] at hg
  · exact ⟨g, c, e⟩
theorem bsS_bd (a : BsR) (x : List Int) (X : Nat) (h : 0 ≤ a.2.2) : 0 ≤ (bsS a (x, (X : Int), 1)).2.2 ∧ (bsS a (x, (X : Int), 1)).2.2 ≤ a.2.2 + 1 := by
  rcases Int.lt_trichotomy a.2.1 (X : Int) with g | g | g
  · rw [bsS_lt (f := (x, (X : Int), 1)) g]; simp only; omega
  · rw [bsS_eq (f := (x, (X : Int), 1)) g.symm]; simp only; omega
  · rw [bsS_gt (f := (x, (X : Int), 1)) g]; omega
theorem ow_mid {w w' : World} {B hi : Nat} {u : Value} {xs : List Int} (h : Ow w B u xs) (hh : w.heap.size ≤ hi) (k : ∀ i, B ≤ i → i < hi → w'.heap[i]? = w.heap[i]?) : Ow w' B u xs := by
  obtain ⟨h1, h2⟩ := h
  refine ⟨h1, ?_⟩
  rcases h2 with h2 | ⟨g, cap, cur, hv, hg, hb, r⟩
  · exact .inl h2
  · exact .inr ⟨g, cap, cur, hv, hg, (k g hg (Nat.lt_of_lt_of_le (Array.getElem?_eq_some_iff.1 hb).1 hh)).trans hb, r⟩
theorem pow500 {j k : Nat} (hj : j < k) (hk : k ≤ 3) : 500 ^ j ≤ 250000 := by
  have h : 500 ^ j ≤ 500 ^ 2 := Nat.pow_le_pow_right (by decide) (by omega)
  exact h

set_option maxHeartbeats 8000000 in
set_option maxRecDepth 20000 in
theorem bestSets_yes (k r : Nat) (w : World) (k1 : 1 ≤ k) (k3 : k ≤ 3) (r1 : 1 ≤ r) (r5 : r ≤ 5) :
    Calls Try.prog 68 #[.int .i64 (k : Int), .int .i64 (r : Int)] w fun e w' => ∃ p n c, e = .returned (.tuple #[b3 (bs r (k - 1) [1]).2.1 p n c (bs r (k - 1) [1]).2.2, .bool true]) ∧ Ow w' w.heap.size (.slice p n c) (bs r (k - 1) [1]).1 ∧ Below w.heap.size w w' := by
  have FIN := Lib.hid (best_fold r1 r5 k1 k3)
  have G0 : Hid (∀ x ∈ ([[]] : List (List Int)), GdS k x) := Lib.hid fun x hx => by
    rw [List.mem_singleton] at hx
    subst hx
    exact ⟨.inl rfl, by simp [lastS], by simpa using k3⟩
  obtain ⟨T, eT⟩ : ∃ T, lev r k [[]] = T := ⟨_, rfl⟩
  rw [eT] at FIN
  have LV : Hid (lev r (k - 0) [[]] = T) := Lib.hid eT
  obtain ⟨A, eA⟩ : ∃ A, bs r (k - 1) [1] = A := ⟨_, rfl⟩
  rw [eA] at FIN ⊢
  clear eT eA
  obtain ⟨V, hV⟩ : ∃ V, w.alloc (.cells #[.int .i64 0, .slice none 0 0, .int .i64 0] 61) = V := ⟨_, rfl⟩
  have hVz : V.heap.size = w.heap.size + 1 := by rw [← hV]; simp
  have hr0 : C3 V w.heap.size 0 none 0 0 0 := by rw [← hV]; exact World.alloc_heap_new w _
  have hbV : Below w.heap.size w V := by rw [← hV]; exact (Below.refl _ _).alloc (Nat.le_refl _) _
  have hO0 : Ows ((V.alloc (.cells #[] 3)).alloc (.cells #[.slice (some ⟨w.heap.size + 1, 0, none⟩) 0 0] 22)) V.heap.size (.slice (some ⟨w.heap.size + 1 + 1, 0, none⟩) 1 1) [[]] := by
    have := Ows.lit1 (owp_empty V) (by simp)
    simp only [World.size_alloc, hVz] at this ⊢
    exact this
  have hB0 : Below V.heap.size V ((V.alloc (.cells #[] 3)).alloc (.cells #[.slice (some ⟨w.heap.size + 1, 0, none⟩) 0 0] 22)) := ((Below.refl _ _).alloc (Nat.le_refl _) _).alloc (by simp) _
  have d1 : decide ((k : Int) < 1) = false := by simp; omega
  have d2 : decide ((3 : Int) < (k : Int)) = false := by simp; omega
  have d3 : decide ((r : Int) < 1) = false := by simp; omega
  have d4 : decide ((5 : Int) < (r : Int)) = false := by simp; omega
  go_enter Try.func68, Try.ntmps68
  go_wp2
  try rw [hV]
  clear hV
  go_loopw [6, 31] (fun x i wr => ∃ (j g c : Nat) (L : List (List Int)), j ≤ k ∧ i = .int .i64 (j : Int) ∧ x = .slice (some ⟨g, 0, none⟩) L.length c ∧ Hid (Ows wr V.heap.size (.slice (some ⟨g, 0, none⟩) L.length c) L) ∧ Hid (lev r (k - j) L = T) ∧ Hid (∀ y ∈ L, GdS (k - j) y) ∧ L.length ≤ 500 ^ j ∧ Below V.heap.size V wr) (fun _ i _ => k - (intOf i).toNat)
  case atStart => exact ⟨0, w.heap.size + 1 + 1, 1, [[]], Nat.zero_le _, rfl, rfl, Lib.hid hO0, LV, G0, by simp, hB0⟩
  case round =>
    clear hO0 hB0
    obtain ⟨j, g, c, L, hj, rfl, rfl, HO, HLV, HG, hLn, hb⟩ := hrel
    have hz := hb.size
    obtain ⟨w0, rfl⟩ : ∃ x, x = wr := ⟨wr, rfl⟩
    by_cases hlt : j < k
    · have hL25 := Nat.le_trans hLn (pow500 hlt k3)
      obtain ⟨d, hd⟩ : ∃ d, k - j = d + 1 := ⟨k - j - 1, by omega⟩
      have hd2 : k - (j + 1) = d := by omega
      have HLV2 : Hid (lev r (k - (j + 1)) (L.flatMap fun x => nxS (rch x r) x) = T) := Lib.hid (by rw [hd2]; have := HLV.out; rw [hd] at this; exact this)
      have HG2 : Hid (∀ y ∈ L.flatMap (fun x => nxS (rch x r) x), GdS (k - (j + 1)) y) := Lib.hid (fun y hy => by
        rw [List.mem_flatMap] at hy
        obtain ⟨x, hx, hy⟩ := hy
        have := HG.out x hx
        rw [hd] at this
        rw [hd2]
        exact this.next r5 hy)
      have HGS : Hid (∀ x ∈ L, x = [] ∨ Stm x) := Lib.hid fun x hx => (HG.out x hx).st
      have hLn2 : (L.flatMap fun x => nxS (rch x r) x).length ≤ 500 ^ (j + 1) := by
        have h1 := @flat_len r L
        have h2 : 500 * L.length ≤ 500 * 500 ^ j := Nat.mul_le_mul_left _ hLn
        rw [Nat.pow_succ]
        omega
      have HLN2 := Lib.hid hLn2
      have he0 := Ows.empty w0 hz
      have hb1 := hb.alloc hz (.cells #[] 22)
      have hm0 : Mid V.heap.size w0.heap.size w0 (w0.alloc (.cells #[] 22)) := Mid.below ((Below.refl _ _).alloc (Nat.le_refl _) _) (Nat.le_refl _)
      have hap0 : Apt (.slice (some ⟨w0.heap.size, 0, none⟩) 0 0) V.heap.size w0.heap.size := fun g hg => by
        simp [Value.ownBlock] at hg; omega
      have hkj : (j : Int) < (k : Int) := by omega
      clear HLV HG hd hLn2 hLn
      go_wp2
      go_loopw [7, 36] (fun y i wi => ∃ (jj : Nat) (M : List (List Int)), jj ≤ L.length ∧ i = .int .i64 (jj : Int) ∧ Ows wi V.heap.size y M ∧ (∃ g, y.ownBlock = some g) ∧ Hid (M = (L.take jj).flatMap fun x => nxS (rch x r) x) ∧ M.length ≤ 500 * jj ∧ Apt y V.heap.size w0.heap.size ∧ Mid V.heap.size w0.heap.size w0 wi ∧ Below V.heap.size V wi) (fun _ i _ => L.length - (intOf i).toNat)
      case atStart => exact ⟨0, [], Nat.zero_le _, rfl, he0, ⟨_, rfl⟩, Lib.hid (by simp), by simp, hap0, hm0, hb1⟩
      case round =>
        clear he0 hb1 hm0 hap0
        obtain ⟨jj, M, hjj, rfl, ho, hsm, HM, hMn, hap, hmd, hb1⟩ := hrel
        have hz1 := hmd.1
        have hz2 := hb1.size
        by_cases hjl : jj < L.length
        · obtain ⟨gj, cj, hcj, hgj, hlj⟩ := ows_mid HO.out hmd hjl
          have NS := Lib.hid (nextSets_any gj 0 cj r (L.getD jj []) wr (HGS.out _ (getD_mem L [] hjl)) hgj hlj (by omega))
          have FT := Lib.hid (flat_take (fun x => nxS (rch x r) x) L [] hjl)
          have hNl := nxS_len (rch (L.getD jj []) r) (L.getD jj [])
          obtain ⟨N, eN⟩ : ∃ N, nxS (rch (L.getD jj []) r) (L.getD jj []) = N := ⟨_, rfl⟩
          have FT2 : Hid (M ++ N = (L.take (jj + 1)).flatMap fun x => nxS (rch x r) x) := Lib.hid (by rw [FT.out, HM.out, eN])
          rw [eN] at NS hNl
          obtain ⟨X, eX⟩ : ∃ X, L.getD jj [] = X := ⟨_, rfl⟩
          rw [eX] at hcj NS
          have hjl2 : (jj : Int) < (L.length : Int) := by omega
          clear hlj eN eX FT
          go_wp2_with (first
            | (go_at_call 65; refine NS.out.mono ?_; rintro e w3 ⟨u3, rfl, o3, hne3, b3⟩; have z3 := b3.size)
            | (at_builtin; refine wpList_append_rowA rfl _ _ rfl V.heap.size _ M N rfl (ho.below b3 (Nat.le_refl _)) u3 rfl (o3.mono (by omega)) hne3 (by omega) (by omega) ?_; intro v7 w7 A7))
          have m8 := A7.mid hap (by omega)
          have hmd2 := hmd.trans ((Mid.below b3 (by omega)).trans m8.1)
          have hb8 := hb1.trans ((b3.mono hz2).trans A7.bel)
          have hs8 := A7.blk_some hsm
          have hMN : (M ++ N).length ≤ 500 * (jj + 1) := by rw [List.length_append]; omega
          clear ho hmd hb1 b3 o3
          go_roundw
          case rel => exact ⟨jj + 1, M ++ N, by omega, by go_num, A7.ows, hs8, FT2, hMN, m8.2, hmd2, hb8⟩
          case measure => simp [intOf]; omega
        · obtain rfl : jj = L.length := by omega
          have hM : M = L.flatMap fun x => nxS (rch x r) x := by have := HM.out; rwa [List.take_length] at this
          rw [← hM] at HLV2 HG2 HLN2
          obtain ⟨g', c', rfl⟩ := ho.formS hsm
          have HO2 := Lib.hid ho
          clear ho hmd HM hsm hM
          go_wp2
          go_roundw
          case rel => exact ⟨j + 1, g', c', M, by omega, by go_num, rfl, HO2, HLV2, HG2, HLN2.out, hb1⟩
          case measure => simp [intOf]; omega
    · obtain rfl : j = k := by omega
      have hLT : L = T := by have := HLV.out; rwa [Nat.sub_self] at this
      have HGS : Hid (∀ x ∈ L, x = [] ∨ Stm x) := Lib.hid fun x hx => (HG.out x hx).st
      have hLb : L.length ≤ 125000000 := Nat.le_trans hLn (by
        have h : 500 ^ j ≤ 500 ^ 3 := Nat.pow_le_pow_right (by decide) k3
        exact h)
      rw [← hLT] at FIN
      clear HLV HG hLn hLT
      have hc0 : C3 (w0.alloc (.cells #[.int .i64 0, .slice none 0 0, .int .i64 0] 61)) w0.heap.size 0 none 0 0 0 := World.alloc_heap_new w0 _
      have hb1 : Below w0.heap.size w0 (w0.alloc (.cells #[.int .i64 0, .slice none 0 0, .int .i64 0] 61)) := (Below.refl _ _).alloc (Nat.le_refl _) _
      go_wp2
      go_loopw [51] (fun i wi => ∃ (jj : Nat) (l : List Int) (f kk : Int) (p : Option Addr) (n c : Nat), jj ≤ L.length ∧ i = .int .i64 (jj : Int) ∧ C3 wi w0.heap.size f p n c kk ∧ Hid (Ow w0 V.heap.size (.slice p n c) l) ∧ 0 ≤ kk ∧ kk ≤ (jj : Int) ∧ Hid ((L.take jj).foldl (stp r) ([], 0, 0) = (l, f, kk)) ∧ Below w0.heap.size w0 wi) (fun i _ => L.length - (intOf i).toNat)
      case atStart => exact ⟨0, [], 0, 0, none, 0, 0, Nat.zero_le _, rfl, hc0, Lib.hid (World.ownsRow_nil _ _ _ _), by omega, by omega, Lib.hid rfl, hb1⟩
      case round =>
        clear hc0 hb1
        obtain ⟨jj, l, f, kk, p, n, c2, hjj, rfl, hC, HOL, hk0, hk1, HF, hb1⟩ := hrel
        have hz1 := hb1.size
        by_cases hjl : jj < L.length
        · obtain ⟨gj, cj, hcj, hgj, hlj, hoX⟩ := ows_both HO.out hb1 hjl
          have hSX := HGS.out _ (getD_mem L [] hjl)
          have FT := fold_take (stp r) ([], 0, 0) L [] hjl
          rw [HF.out] at FT
          obtain ⟨X, eX⟩ : ∃ X, L.getD jj [] = X := ⟨_, rfl⟩
          rw [eX] at hcj hlj hoX hSX FT
          have RX : ∀ W, Below wr.heap.size wr W → Hid (Calls Try.prog 58 #[.slice (some ⟨gj, 0, none⟩) X.length cj, .int .i64 (r : Int)] W fun e w' => e = .returned (.int .i64 (rch X r : Nat)) ∧ Below W.heap.size W w') := fun W hB =>
            Lib.hid (reachOf_any gj 0 cj r X W hSX (Nat.lt_of_lt_of_le hgj hB.size) (fun i hi => (hB.cell (p := ⟨gj, 0 + i, none⟩) hgj).trans (hlj i hi)) (by omega))
          obtain ⟨x, ex⟩ : ∃ x, rch X r = x := ⟨_, rfl⟩
          have FT2 : (L.take (jj + 1)).foldl (stp r) ([], 0, 0) = bsS (l, f, kk) (X, (x : Int), 1) := by rw [FT, ← ex]; rfl
          rw [ex] at RX
          have OS := orSet_any (l, f, kk) X x p (some ⟨gj, 0, none⟩) n c2 X.length cj
          have kb := bsS_bd (l, f, kk) X x hk0
          obtain ⟨a2, ea⟩ : ∃ a2, bsS (l, f, kk) (X, (x : Int), 1) = a2 := ⟨_, rfl⟩
          rw [ea] at OS FT2 kb
          obtain ⟨l2, f2, k2⟩ := a2
          simp only [b3] at OS
          have OSH : ∀ W, Hid (Calls Try.prog 72 #[.agg #[.int .i64 f, .slice p n c2, .int .i64 kk], .slice (some ⟨gj, 0, none⟩) X.length cj, .int .i64 (x : Int)] W fun e w' => ∃ p' n' c', e = .returned (.agg #[.int .i64 f2, .slice p' n' c', .int .i64 k2]) ∧ ((l2 = l ∧ p' = p ∧ n' = n ∧ c' = c2) ∨ (l2 = X ∧ p' = some ⟨gj, 0, none⟩ ∧ n' = X.length ∧ c' = cj)) ∧ Below W.heap.size W w') := fun W => Lib.hid (OS W hk0 (show kk ≤ 1073741824 by omega))
          have HFT := Lib.hid FT2
          have HOX := Lib.hid hoX.1
          have hkb : 0 ≤ k2 ∧ k2 ≤ kk + 1 := kb
          obtain ⟨q1, q2, q3, q4, q5, q6⟩ := hC.cells
          have hjl2 : (jj : Int) < (L.length : Int) := by omega
          clear FT FT2 eX ex ea OS kb hlj hoX hSX HF
          go_wp2
          go_region_with (first
            | (go_at_call 58; refine (RX _ (by first | exact (Below.refl _ wr).drew | exact Below.refl _ wr)).out.mono ?_; rintro e w2 ⟨rfl, b2⟩; have B2 : Below wr.heap.size wr w2 := (by first | exact (Below.refl wr.heap.size wr).drew.trans b2 | exact b2); have hC2 := hC.below B2; obtain ⟨y1, y2, y3, y4, y5, y6⟩ := hC2.cells; have Z2 := B2.size; clear b2)
            | (go_at_call 72; refine (OSH _).out.mono ?_; rintro e w3 ⟨p', n', c', rfl, hor, b3⟩; have B3 : Below wr.heap.size wr w3 := (by first | exact B2.trans (b3.mono Z2) | exact B2.drew.trans (b3.mono Z2)); have hC3 := hC.below B3; obtain ⟨z1, z2, z3, z4, z5, z6⟩ := hC3.cells; clear b3))
          all_goals
            have HO4 : Hid (Ow w0 V.heap.size (.slice p' n' c') l2) := Lib.hid (by
              rcases hor with ⟨rfl, rfl, rfl, rfl⟩ | ⟨rfl, rfl, rfl, rfl⟩
              · exact HOL.out
              · exact HOX.out)
            have hC4 := hC3.set f2 k2 p' n' c'
            have hb4 := (((hb1.trans (B3.mono hz1)).setCell (p := ⟨w0.heap.size, 0, none⟩) (Nat.le_refl _) (.int .i64 f2)).setCell (p := ⟨w0.heap.size, 1, none⟩) (Nat.le_refl _) (.slice p' n' c')).setCell (p := ⟨w0.heap.size, 2, none⟩) (Nat.le_refl _) (.int .i64 k2)
            clear hor RX OSH hC hC3 hb1 B3
            go_wp2
            go_roundw
            case rel => exact ⟨jj + 1, l2, f2, k2, p', n', c', by omega, by go_num, hC4, HO4, hkb.1, by omega, HFT, hb4⟩
            case measure => simp [intOf]; omega
        · obtain rfl : jj = L.length := by omega
          have E : (l, f, kk) = A := by
            have := HF.out
            rw [List.take_length] at this
            rw [← this]; exact FIN.out
          obtain ⟨q1, q2, q3, q4, q5, q6⟩ := hC.cells
          have hcr : C3 wr w.heap.size 0 none 0 0 0 := (hb1.block w.heap.size (by omega)).trans ((hb.block w.heap.size (by omega)).trans hr0)
          obtain ⟨s1, s2, s3, s4, s5, s6⟩ := hcr.cells
          go_wp2
          obtain ⟨t1, t2, t3, t4, t5, t6⟩ := (hcr.set f kk p n c2).cells
          subst E
          refine bodyPost_ret (v := .tuple #[b3 f p n c2 kk, .bool true]) (by simp [results, Try.results68, go_sem, t1, t2, t3]) rfl ⟨p, n, c2, rfl, ?_, ?_⟩
          · refine (ow_mid HOL.out (Nat.le_refl _) fun i h1 h2 => ?_).mono (by omega)
            have hne : ¬ w.heap.size = i := by omega
            simpa [World.setCell, Array.getElem?_modify, hne] using hb1.block i h2
          · exact (((hbV.trans ((hb.mono (by omega)).trans (hb1.mono (by omega)))).setCell (Nat.le_refl _) _).setCell (Nat.le_refl _) _).setCell (Nat.le_refl _) _
end Go.Proofs.Ytmllokooceghiaa
