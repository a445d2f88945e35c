/-
  A map whose keys are sums: which sums it holds, how many; the sums that a slice of the call's own lists. Conditions: sums 0..1000000.
-/
import Derived.Test.YtkadmopnfmbedaaMap
import Derived.Sort.OwnSorted
namespace Go.Proofs.Ytkadmopnfmbedaa
open Go.RowKit Go.Maps Go.WideMaps

abbrev inS (s : Int) : Prop := 0 ≤ s ∧ s ≤ 1000000
theorem inS.wf {s : Int} (h : inS s) : (Lit.int .i64 s).wf = true := wf_sum h.1 h.2
/-- The map reads as the sums that S tells. -/
structure SetIs (D : DataW Unit) (S : Int → Bool) : Prop where
  has : ∀ s, inS s → Maps.has D (KL s) = S s
  keys : ∀ kl, Maps.has D kl = true → ∃ s, inS s ∧ kl = KL s
theorem SetIs.empty : SetIs (.map []) (fun _ => false) := ⟨fun _ _ => rfl, fun _ h => by cases h⟩
theorem SetIs.congr {D : DataW Unit} {S T : Int → Bool} (h : SetIs D S) (e : ∀ s, inS s → S s = T s) : SetIs D T := ⟨fun s hs => (h.has s hs).trans (e s hs), h.keys⟩
theorem SetIs.put {D : DataW Unit} {S : Int → Bool} (h : SetIs D S) (hm : IsMap D) {s : Int} (hs : inS s) (d : DataW Unit) : SetIs (D.put (KL s) d) (fun t => S t || decide (t = s)) := by
  refine ⟨fun t ht => ?_, fun kl hk => ?_⟩
  · by_cases e : t = s
    · subst e
      rw [has_put_same hm (KL_key ht.wf)]; simp
    · have hne : KL t ≠ KL s := fun h2 => e (KL_inj ht.wf hs.wf h2)
      rw [has_put_other hne, h.has t ht]; simp [e]
  · by_cases e : kl = KL s
    · exact ⟨s, hs, e⟩
    · rw [has_put_other e] at hk
      exact h.keys kl hk
/-- The sums of the map, each once. -/
theorem SetIs.list {D : DataW Unit} {S : Int → Bool} (h : SetIs D S) (he : ∃ es, D = .map es ∧ es.Pairwise (fun p q => p.1 ≠ q.1) ∧ ∀ p ∈ es, Go.WideAt.IsKeyLit p.1) :
    ∃ L : List Int, L.Nodup ∧ L.length = Maps.size D ∧ ∀ s, s ∈ L ↔ inS s ∧ S s = true := by
  obtain ⟨es, rfl, hp, hk⟩ := he
  have hex : ∀ p ∈ es, ∃ s, inS s ∧ p.1 = KL s := fun p hm => h.keys p.1 (by
    rw [has_eq, List.any_eq_true]; exact ⟨p, hm, Go.WideAt.sameKey_self (hk p hm)⟩)
  let f : Lit × DataW Unit → Int := fun p => @dite _ (∃ s, inS s ∧ p.1 = KL s) (Classical.propDecidable _) (fun h => h.choose) (fun _ => 0)
  have hf : ∀ p ∈ es, inS (f p) ∧ p.1 = KL (f p) := fun p hm => by
    have hx := hex p hm
    have e : f p = hx.choose := dif_pos hx
    rw [e]
    exact hx.choose_spec
  refine ⟨es.map f, ?_, by simp [size_eq], fun s => ⟨fun hs => ?_, fun ⟨h1, h2⟩ => ?_⟩⟩
  · rw [List.nodup_iff_pairwise_ne, List.pairwise_map]
    refine List.Pairwise.imp_of_mem ?_ hp
    intro a b ha hb hab e
    have := (hf a ha).2
    rw [e, ← (hf b hb).2] at this
    exact hab this
  · obtain ⟨p, hm, rfl⟩ := List.mem_map.1 hs
    refine ⟨(hf p hm).1, ?_⟩
    rw [← h.has _ (hf p hm).1, ← (hf p hm).2, has_eq, List.any_eq_true]
    exact ⟨p, hm, Go.WideAt.sameKey_self (hk p hm)⟩
  · rw [← h.has s h1, has_eq, List.any_eq_true] at h2
    obtain ⟨p, hm, hq⟩ := h2
    have e : p.1 = KL s := Go.WideAt.sameKey_eq hq
    rw [(hf p hm).2] at e
    rw [List.mem_map]
    exact ⟨p, hm, KL_inj (hf p hm).1.wf h1.wf e⟩

/-- What has come out of the map in a loop over it: the sums that aren't left. -/
structure Come (D : DataW Unit) (S : Int → Bool) (left : Lit → Bool) (cnt : Nat) (src : List Int) : Prop where
  mem : ∀ s, s ∈ src ↔ inS s ∧ S s = true ∧ left (KL s) = false
  sub : ∀ kl, left kl = true → Maps.has D kl = true
  len : src.length + cnt ≤ Maps.size D
  nodup : src.Nodup
theorem Come.start {D : DataW Unit} {S : Int → Bool} (h : SetIs D S) : Come D S (Maps.has D) (Maps.size D) [] :=
  ⟨fun s => ⟨(fun hn => by cases hn), fun ⟨h1, h2, h3⟩ => (by rw [h.has s h1, h2] at h3; cases h3)⟩, fun _ h => h, by simp, List.nodup_nil⟩
set_option maxRecDepth 100000 in
theorem Come.next {D : DataW Unit} {S : Int → Bool} {left : Lit → Bool} {cnt cnt' : Nat} {src : List Int} (h : SetIs D S) (c : Come D S left cnt src) {s : Int} (hs : (Lit.int .i64 s).wf = true) (hl : left (KL s) = true) (hc : cnt' < cnt) :
    inS s ∧ Come D S (fun z => left z && !z.sameKey (KL s)) cnt' (src ++ [s]) := by
  have hd := c.sub _ hl
  obtain ⟨s', hs', e⟩ := h.keys _ hd
  have e2 := KL_inj hs hs'.wf e
  subst e2
  have hS : S s = true := by rw [← h.has s hs']; exact hd
  refine ⟨hs', ⟨fun t => ?_, fun kl hk => ?_, by have := c.len; simp; omega, ?_⟩⟩
  · rw [List.mem_append, c.mem]
    simp only [List.mem_singleton]
    constructor
    · rintro (⟨h1, h2, h3⟩ | rfl)
      · exact ⟨h1, h2, by simp [h3]⟩
      · exact ⟨hs', hS, by rw [Go.WideAt.sameKey_self (KL_key hs)]; simp⟩
    · rintro ⟨h1, h2, h3⟩
      by_cases et : t = s
      · exact .inr et
      · refine .inl ⟨h1, h2, ?_⟩
        have hne : KL t ≠ KL s := fun h => et (KL_inj h1.wf hs h)
        rw [sameKey_ne hne] at h3
        simpa using h3
  · simp only [Bool.and_eq_true] at hk
    exact c.sub kl hk.1
  · rw [List.nodup_append]
    refine ⟨c.nodup, by simp, fun a ha b hb e9 => ?_⟩
    simp only [List.mem_singleton] at hb
    rw [e9, hb] at ha
    have := ((c.mem s).1 ha).2.2
    rw [hl] at this; cases this
theorem Come.end {D : DataW Unit} {S : Int → Bool} {left : Lit → Bool} {cnt : Nat} {src : List Int} (c : Come D S left cnt src) (hl : ∀ kl, left kl = false) : ∀ s, s ∈ src ↔ inS s ∧ S s = true := by
  intro s; rw [c.mem]; simp [hl]

/-- A slice of sums of the call's own. -/
def OwS (w : World) (B : Nat) (v : Value) (ys : List Int) : Prop := w.ownsRow B 72 1 v ys.length (ys.map (Value.int .i64))
theorem OwS.below {w w' : World} {B C : Nat} {v : Value} {ys : List Int} (h : OwS w B v ys) (hb : Below C w w') (hC : w.heap.size ≤ C) : OwS w' B v ys := by
  obtain ⟨h1, h2⟩ := h
  refine ⟨h1, ?_⟩
  rcases h2 with h2 | ⟨g, cap, cur, hv, hg, hh, r⟩
  · exact .inl h2
  · refine .inr ⟨g, cap, cur, hv, hg, ?_, r⟩
    rw [hb.block g (Nat.lt_of_lt_of_le (Array.getElem?_eq_some_iff.1 hh).1 hC)]; exact hh
theorem OwS.kept {w w' : World} {B : Nat} {v : Value} {ys : List Int} {row : Option Nat} (h : OwS w B v ys) (hg : w.grownBy w' row) (hne : v.ownBlock = none ∨ v.ownBlock ≠ row) : OwS w' B v ys := World.ownsRow.kept h hg hne
theorem OwS.alloc {w : World} {B : Nat} {v : Value} {ys : List Int} (h : OwS w B v ys) (o : Obj) : OwS (w.alloc o) B v ys := World.ownsRow.alloc h o
theorem OwS.empty (w : World) : OwS (w.alloc (.cells #[] 72)) w.heap.size (.slice (some ⟨w.heap.size, 0, none⟩) 0 0) [] :=
  World.ownsRow_made w #[] 0 (Nat.le_refl _) (by unfold maxLen; omega) rfl
theorem OwS.grown {w w' : World} {B : Nat} {v : Value} {ys : List Int} (h : OwS w B v ys) (hB : B ≤ w.heap.size) (hg : w.grownBy w' v.ownBlock) : Below B w w' :=
  (Below.refl B w).grown hg hB fun k hk => (World.ownsRow.lt h k hk).1
theorem OwS.mono {w : World} {B C : Nat} {v : Value} {ys : List Int} (h : OwS w B v ys) (hC : C ≤ B) : OwS w C v ys := by
  obtain ⟨h1, h2⟩ := h
  refine ⟨h1, ?_⟩
  rcases h2 with h2 | ⟨g, cap, cur, hv, hg, r⟩
  · exact .inl h2
  · exact .inr ⟨g, cap, cur, hv, Nat.le_trans hC hg, r⟩
/-- Read as a slice: each cell. -/
theorem OwS.read {w : World} {B : Nat} {v : Value} {ys : List Int} (h : OwS w B v ys) : ∃ p cap, v = .slice p ys.length cap ∧ (0 < ys.length → ∃ g, p = some ⟨g, 0, none⟩ ∧ B ≤ g ∧ g < w.heap.size ∧ ∀ j, j < ys.length → w.cell? ⟨g, j, none⟩ = some (.int .i64 (ys.getD j 0))) := by
  have h0 := h
  obtain ⟨_, h2⟩ := h
  rcases h2 with ⟨hv, hn⟩ | ⟨g, cap, cur, hv, hg, hh, hnc, hcm, hcs, htake⟩
  · exact ⟨none, 0, by rw [hv, hn], fun h0 => by omega⟩
  · refine ⟨some ⟨g, 0, none⟩, cap, hv, fun _ => ⟨g, rfl, hg, (Array.getElem?_eq_some_iff.1 hh).1, fun j hj => ?_⟩⟩
    subst hv
    have R := World.ownsRow.cellAt h0 j (by omega)
    rw [R, List.getElem?_map, List.getElem?_eq_getElem hj, List.getD_eq_getElem?_getD, List.getElem?_eq_getElem hj]; rfl
theorem Try.infoS : (Try.prog.info? 72).map (fun i => (i.zero, i.size, i.bytes)) = some (some (.agg #[.int .i64 0]), 1, 8) := by kernel_rfl
theorem wpList_append_sum {w : World} {ops : Array Oper} {rest : List Oper} {o : Oper} {a : Act} {Q : Exit → Act → World → Prop} (hgd : o.guard = none) (s x : Operand)
    (ho : o.op = .call { callee := .builtin .append, args := #[s, x], argTypes := #[73, 73] })
    (B : Nat) (v : Value) (ys : List Int) (hs : a.eval s = v) (n : Int) (hown : OwS (w.alloc (.cells #[.int .i64 n] 72)) B v ys) (hx : a.eval x = .slice (some ⟨w.heap.size, 0, none⟩) 1 1) (hlen : ys.length ≤ 1099511627776) (hB : B ≤ w.heap.size)
    (h : ∀ v' w', OwS w' B v' (ys ++ [n]) → (w.alloc (.cells #[.int .i64 n] 72)).grownBy w' v.ownBlock → wpList Try.prog ops Q rest (a.put o.dst v') w') : wpList Try.prog ops Q (o :: rest) a (w.alloc (.cells #[.int .i64 n] 72)) := by
  obtain ⟨i0, hi, hz0, hz1, hz2⟩ := info_parts Try.infoS
  refine wpList_append_own _ hgd s x 73 ho B 72 i0 (.agg #[.int .i64 0]) 1 8 Try.underlying73 hi hz0 hz1 hz2 rfl (by decide) v ys.length _ hs hown ⟨w.heap.size, 0, none⟩ 1 1 [.int .i64 n] hx rfl ?_ ?_ (by unfold maxLen; omega) (by omega) (by simp; omega) ?_
  · intro j u hu
    cases j with
    | zero =>
      simp at hu
      subst hu
      have h := heap_alloc_new w (.cells #[.int .i64 n] 72)
      have e : (⟨w.heap.size, 0, none⟩ : Addr).add 0 = ⟨w.heap.size, 0, none⟩ := by simp [Addr.add]
      rw [e]
      simp only [World.cell?, h]
      rfl
    | succ j => simp at hu
  · intro u hu; simp at hu; subst hu; rfl
  · intro v' w' h1 h2 _
    refine h v' w' ?_ h2
    unfold OwS
    rw [List.length_append, List.map_append]
    exact h1

theorem wpList_insert_own {H : Type} {P : Program} (w : World) {ops : Array Oper} {rest : List Oper} {o : Oper} {a : Act} {Q : Exit → Act → World → Prop}
    (hg : o.guard = none) (m x v : Operand) (t : TypeId) (hop : o.op = Op.insert t m x v)
    (k e : TypeId) (K : Keyed P k) (ht : P.underlying t = some (.map k e)) (R : Value → Option (DataW H × List MemPlace)) (b n : Nat) (D : DataW H)
    (hm : a.eval m = .map (some b)) (hown : w.ownsMap P k R b n D) (hn : n < maxLen) (key val : Value) (kl : Lit) (hx : a.eval x = key) (hv : a.eval v = val) (hkey : keyOf P k key = some kl)
    (d : DataW H) (ps : List MemPlace) (hval : R val = some (d, ps))
    (hK : ∀ w', w'.ownsMap P k R b (n + 1) (D.put kl d) → w.grownBy w' (some b) → wpList P ops Q rest (a.put o.dst undef) w') :
    wpList P ops Q (o :: rest) a w := by
  refine wpList_plain hg fun K' hK' => ?_
  obtain ⟨w', hrun, r1, r2⟩ := hown.update K ht hn hkey hval
  unfold Oper.wp
  simp [execOp, hop, hm, hx, hv, hrun, Result.andThen]
  exact hK' _ _ (hK w' r1 r2)
theorem gb_below {w w' : World} (h : Below w.heap.size w w') : w.grownBy w' none := ⟨h.os, h.tape, h.output, h.size, fun i hi _ => h.block i hi⟩
end Go.Proofs.Ytkadmopnfmbedaa
