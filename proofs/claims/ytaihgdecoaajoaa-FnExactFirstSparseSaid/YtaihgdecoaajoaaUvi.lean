/-
  What the program's search visits: its callback by its contract, for complete and for sparse rulers. Condition: a ruler.
-/
import Derived.Test.YtaihgdecoaajoaaUcc
import Derived.Test.YtaihgdecoaajoaaUpd
import Derived.Test.YtaihgdecoaajoaaUcm
namespace Go.Proofs.Ytaihgdecoaajoaa
open Go.RowKit

theorem vis_mono (c : Bool) (a : RsR) (x : List Int) : a.2 ≤ (vis c a x).2 := by
  unfold vis
  split
  · simp only; omega
  · exact Int.le_refl _
theorem vaG_mono {F : List Int → RsR → RsR} {ms : List Int} (hF : ∀ x a, a.2 ≤ (F x a).2) : ∀ (f n : Nat) (a : RsR), a.2 ≤ (vaG F ms f n a).2 := by
  intro f
  induction f with
  | zero => intro n a; exact Int.le_refl _
  | succ f ih => intro n a; rw [vaG]; exact Int.le_trans (hF _ _) (ih _ _)
theorem va_mono (c : Bool) (len : Nat) : ∀ (d : Nat) (ms : List Int) (a : RsR), a.2 ≤ (va c len d ms a).2 := by
  intro d
  induction d with
  | zero => intro ms a; exact vis_mono _ _ _
  | succ d ih => intro ms a; rw [va]; exact vaG_mono ih _ _ _

/-- Of all that lay there only block p turns. -/
structure Xp (p : Nat) (w w' : World) : Prop where
  os : w'.os = w.os
  tape : w'.tape = w.tape
  output : w'.output = w.output
  size : w.heap.size ≤ w'.heap.size
  same : ∀ k, k < w.heap.size → k ≠ p → w'.heap[k]? = w.heap[k]?
theorem Xp.refl (p : Nat) (w : World) : Xp p w w := ⟨rfl, rfl, rfl, Nat.le_refl _, fun _ _ _ => rfl⟩
theorem Xp.of_below {p : Nat} {w w' : World} (h : Below w.heap.size w w') : Xp p w w' := ⟨h.os, h.tape, h.output, h.size, fun k hk _ => h.block k hk⟩
theorem Xp.trans {p : Nat} {w w1 w2 : World} (h : Xp p w w1) (k : Xp p w1 w2) : Xp p w w2 :=
  ⟨k.os.trans h.os, k.tape.trans h.tape, k.output.trans h.output, Nat.le_trans h.size k.size, fun i hi hp => (k.same i (Nat.lt_of_lt_of_le hi h.size) hp).trans (h.same i hi hp)⟩
theorem Xp.setCell (p i : Nat) (w : World) (v : Value) : Xp p w (w.setCell ⟨p, i, none⟩ v) := by
  have hs := (Below.refl p w).setCell (p := ⟨p, i, none⟩) (Nat.le_refl p) v
  exact ⟨hs.os, hs.tape, hs.output, hs.size, fun k _ hk => heap_setCell_other _ _ _ _ hk⟩
theorem Xp.below {p n : Nat} {w0 w w' : World} (h : Xp p w w') (k : Below n w0 w) (hn : n ≤ p) (hz : n ≤ w0.heap.size) : Below n w0 w' :=
  ⟨h.os.trans k.os, h.tape.trans k.tape, h.output.trans k.output, Nat.le_trans k.size h.size, fun i hi => (h.same i (by have := k.size; omega) (by omega)).trans (k.block i hi)⟩
/-- What a search has found, in block p. -/
def FdV (w : World) (p B : Nat) (v : Value) (a : RsR) : Prop := w.heap[p]? = some (.cells #[v, .int .i64 a.2] 57 (0, 0)) ∧ Ow w B v a.1
def Fd (w : World) (p B : Nat) (a : RsR) : Prop := ∃ v, FdV w p B v a
theorem Ow.xp {w w' : World} {p B : Nat} {v : Value} {ys : List Int} {cs : Array Value} (h : Ow w B v ys) (hp : w.heap[p]? = some (.cells cs 57 (0, 0))) (k : Xp p w w') : Ow w' B v ys := by
  obtain ⟨h1, h2⟩ := h
  refine ⟨h1, ?_⟩
  rcases h2 with h2 | ⟨g, cap, cur, hv, hg, hh, r⟩
  · exact .inl h2
  · have hne : g ≠ p := by
      rintro rfl
      rw [hh] at hp
      have hp := Option.some.inj hp
      injection hp with _ e
      exact absurd e (by decide)
    exact .inr ⟨g, cap, cur, hv, hg, (k.same g (Array.getElem?_eq_some_iff.1 hh).1 hne).trans hh, r⟩
theorem FdV.below {w w' : World} {p B : Nat} {v : Value} {a : RsR} (h : FdV w p B v a) (k : Below w.heap.size w w') : FdV w' p B v a :=
  ⟨(k.block p (Array.getElem?_eq_some_iff.1 h.1).1).trans h.1, h.2.below k (Nat.le_refl _)⟩
theorem FdV.cells {w : World} {p B : Nat} {v : Value} {a : RsR} (h : FdV w p B v a) : w.cell? ⟨p, 0, none⟩ = some v ∧ w.cell? ⟨p, 1, none⟩ = some (.int .i64 a.2) ∧ w.frozen? ⟨p, 0, none⟩ = false ∧ w.frozen? ⟨p, 1, none⟩ = false := by
  refine ⟨?_, ?_, ?_, ?_⟩ <;> simp [World.cell?, World.frozen?, h.1]
theorem FdV.more {w : World} {p B : Nat} {v : Value} {a : RsR} (h : FdV w p B v a) (n : Int) : Fd (w.setCell ⟨p, 1, none⟩ (.int .i64 n)) p B (a.1, n) := by
  refine ⟨v, ?_, h.2.xp h.1 (Xp.setCell p 1 w _)⟩
  have := h.1
  simp [World.setCell, Array.getElem?_modify, this]
theorem FdV.first {w : World} {p B : Nat} {v u : Value} {a : RsR} {x : List Int} (h : FdV w p B v a) (hu : Ow w B u x) (n : Int) : Fd ((w.setCell ⟨p, 0, none⟩ u).setCell ⟨p, 1, none⟩ (.int .i64 n)) p B (x, n) := by
  have h1 := h.1
  have h2 : (w.setCell ⟨p, 0, none⟩ u).heap[p]? = some (.cells #[u, .int .i64 a.2] 57 (0, 0)) := by
    simp [World.setCell, Array.getElem?_modify, h1]
  refine ⟨u, ?_, (hu.xp h1 (Xp.setCell p 0 w _)).xp h2 (Xp.setCell p 1 _ _)⟩
  simp [World.setCell, Array.getElem?_modify, h1]
/-- The callback, by its contract. -/
def VisOk (c : Bool) (q p B : Nat) (Fq : Value) : Prop :=
  ∀ (x : List Int) (v : Value) (w : World) (a : RsR), Ow w B v x → Rul x → Fd w p B a → w.heap[q]? = some (.cells #[Fq] 23 (0, 0)) → 0 ≤ a.2 → (vis c a x).2 ≤ 1099511627776 →
    Calls Try.prog 90 #[v, .pointer (some ⟨q, 0, none⟩), .pointer (some ⟨p, 0, none⟩)] w fun e w' => e = .returned (.tuple #[]) ∧ Fd w' p B (vis c a x) ∧ Xp p w w'

set_option maxHeartbeats 4000000 in
set_option maxRecDepth 20000 in
theorem visit_true (q p B : Nat) : VisOk true q p B (.func (.func 66) #[] #[]) := by
  rintro x v w a ho R ⟨v0, hf⟩ hq h0 hb
  have h61 := R.last_bd.2.2
  have sp := ho.sp_ne (fun e => by have := R.two; rw [e] at this; simp at this)
  have IC := Lib.hid (isComplete_any v x w sp R)
  have OK : Hid (okR true x = okR true x) := Lib.hid (by simp [okR])
  have hqc : w.cell? ⟨q, 0, none⟩ = some (.func (.func 66) #[] #[]) := by simp [World.cell?, hq]
  have FB := fun W (hW : Below w.heap.size w W) => Lib.hid (hf.below hW)
  have OB := fun W (hW : Below w.heap.size w W) => Lib.hid (ho.below hW (Nat.le_refl _))
  have HV : Hid (∀ b, okR true x = b → vis true a x = if b = true then (if a.2 = 0 then x else a.1, a.2 + 1) else a) := Lib.hid (fun b e => by unfold vis; rw [e])
  rw [OK.out] at IC
  obtain ⟨g, off, cap, rfl, _, _, _, _⟩ := sp
  obtain ⟨T, eT⟩ : ∃ T, vis true a x = T := ⟨_, rfl⟩
  rw [eT] at HV hb ⊢
  obtain ⟨L, n⟩ := a
  dsimp only at h0
  by_cases hk : okR true x = true
  · have E := HV.out true hk
    rw [if_pos rfl] at E
    rw [hk] at IC
    subst E
    dsimp only at hb
    have hn : n ≤ 1099511627775 := by omega
    clear hk eT HV ho hf hb
    go_enter Try.func90, Try.ntmps90
    go_wp2_with fail
    refine IC.out.mono ?_
    rintro e w1 ⟨rfl, b1⟩
    have HF := FB w1 b1
    have HO := OB w1 b1
    obtain ⟨c0, c1, f0, f1⟩ := HF.out.cells
    dsimp only at c1
    have hx := Xp.of_below (p := p) b1
    clear FB OB IC
    by_cases hz : n = 0
    · subst hz
      go_wp2
      go_end0
      exact ⟨rfl, HF.out.first HO.out _, (hx.trans (Xp.setCell p 0 _ _)).trans (Xp.setCell p 1 _ _)⟩
    · have dz : (n == 0) = false := by simpa using hz
      go_wp2
      go_end0
      exact ⟨rfl, HF.out.more _, hx.trans (Xp.setCell p 1 _ _)⟩
  · have hk : okR true x = false := by simpa using hk
    have E := HV.out false hk
    rw [if_neg (by decide)] at E
    rw [hk] at IC
    subst E
    clear hk eT HV hb ho hf
    go_enter Try.func90, Try.ntmps90
    go_wp2_with fail
    refine IC.out.mono ?_
    rintro e w1 ⟨rfl, b1⟩
    have HF := FB w1 b1
    have hx := Xp.of_below (p := p) b1
    clear FB OB IC
    go_wp2_with fail
    refine bodyPost_ret (results_none rfl _ _ _) rfl ?_
    exact ⟨rfl, ⟨v0, HF.out⟩, hx⟩

set_option maxHeartbeats 4000000 in
set_option maxRecDepth 20000 in
theorem visit_false (q p B : Nat) : VisOk false q p B (.func (.func 68) #[] #[]) := by
  rintro x v w a ho R ⟨v0, hf⟩ hq h0 hb
  have h61 := R.last_bd.2.2
  have sp := ho.sp_ne (fun e => by have := R.two; rw [e] at this; simp at this)
  have IC := Lib.hid (isSparse_any v x w sp R)
  have OK : Hid (spB x = okR false x) := Lib.hid (by simp [okR])
  have hqc : w.cell? ⟨q, 0, none⟩ = some (.func (.func 68) #[] #[]) := by simp [World.cell?, hq]
  have FB := fun W (hW : Below w.heap.size w W) => Lib.hid (hf.below hW)
  have OB := fun W (hW : Below w.heap.size w W) => Lib.hid (ho.below hW (Nat.le_refl _))
  have HV : Hid (∀ b, okR false x = b → vis false a x = if b = true then (if a.2 = 0 then x else a.1, a.2 + 1) else a) := Lib.hid (fun b e => by unfold vis; rw [e])
  rw [OK.out] at IC
  obtain ⟨g, off, cap, rfl, _, _, _, _⟩ := sp
  obtain ⟨T, eT⟩ : ∃ T, vis false a x = T := ⟨_, rfl⟩
  rw [eT] at HV hb ⊢
  obtain ⟨L, n⟩ := a
  dsimp only at h0
  by_cases hk : okR false x = true
  · have E := HV.out true hk
    rw [if_pos rfl] at E
    rw [hk] at IC
    subst E
    dsimp only at hb
    have hn : n ≤ 1099511627775 := by omega
    clear hk eT HV ho hf hb
    go_enter Try.func90, Try.ntmps90
    go_wp2_with fail
    refine IC.out.mono ?_
    rintro e w1 ⟨rfl, b1⟩
    have HF := FB w1 b1
    have HO := OB w1 b1
    obtain ⟨c0, c1, f0, f1⟩ := HF.out.cells
    dsimp only at c1
    have hx := Xp.of_below (p := p) b1
    clear FB OB IC
    by_cases hz : n = 0
    · subst hz
      go_wp2
      go_end0
      exact ⟨rfl, HF.out.first HO.out _, (hx.trans (Xp.setCell p 0 _ _)).trans (Xp.setCell p 1 _ _)⟩
    · have dz : (n == 0) = false := by simpa using hz
      go_wp2
      go_end0
      exact ⟨rfl, HF.out.more _, hx.trans (Xp.setCell p 1 _ _)⟩
  · have hk : okR false x = false := by simpa using hk
    have E := HV.out false hk
    rw [if_neg (by decide)] at E
    rw [hk] at IC
    subst E
    clear hk eT HV hb ho hf
    go_enter Try.func90, Try.ntmps90
    go_wp2_with fail
    refine IC.out.mono ?_
    rintro e w1 ⟨rfl, b1⟩
    have HF := FB w1 b1
    have hx := Xp.of_below (p := p) b1
    clear FB OB IC
    go_wp2_with fail
    refine bodyPost_ret (results_none rfl _ _ _) rfl ?_
    exact ⟨rfl, ⟨v0, HF.out⟩, hx⟩
end Go.Proofs.Ytaihgdecoaajoaa
