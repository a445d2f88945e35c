/-
  The program's visit of all rulers, by its contract. Conditions: a list that a ruler may begin with, a length of at most 20, a callback that keeps its contract.
-/
import Derived.Test.YtaihgdecoaajoaaUvi
namespace Go.Proofs.Ytaihgdecoaajoaa
open Go.RowKit

def cloV (q p : Nat) : Value := .func (.func 90) #[] #[.pointer (some ⟨q, 0, none⟩), .pointer (some ⟨p, 0, none⟩)]
def EachOk (c : Bool) (len d q p B : Nat) (Fq : Value) : Prop :=
  ∀ (ms : List Int) (v : Value) (w : World) (a : RsR), Ow w B v ms → Beg ms len → Fd w p B a → w.heap[q]? = some (.cells #[Fq] 23 (0, 0)) → 0 ≤ a.2 → (va c len d ms a).2 ≤ 1099511627776 → B ≤ w.heap.size →
    Calls Try.prog 89 #[v, .int .i64 len, .int .i64 ((d : Int) + 1), .func (.func 90) #[] #[.pointer (some ⟨q, 0, none⟩), .pointer (some ⟨p, 0, none⟩)]] w fun e w' => e = .returned (.tuple #[]) ∧ Fd w' p B (va c len d ms a) ∧ Xp p w w'
theorem Fd.below {w w' : World} {p B : Nat} {a : RsR} (h : Fd w p B a) (k : Below w.heap.size w w') : Fd w' p B a := by
  obtain ⟨v, hv⟩ := h; exact ⟨v, hv.below k⟩
theorem box_below {w w' : World} {q : Nat} {o : Obj} (h : w.heap[q]? = some o) (k : Below w.heap.size w w') : w'.heap[q]? = some o :=
  (k.block q (Array.getElem?_eq_some_iff.1 h).1).trans h
theorem box_xp {w w' : World} {q p : Nat} {o : Obj} (h : w.heap[q]? = some o) (hqp : q ≠ p) (k : Xp p w w') : w'.heap[q]? = some o :=
  (k.same q (Array.getElem?_eq_some_iff.1 h).1 hqp).trans h

set_option maxHeartbeats 4000000 in
set_option maxRecDepth 20000 in
theorem each_zero (c : Bool) (len q p B : Nat) (Fq : Value) (VIS : VisOk c q p B Fq) : EachOk c len 0 q p B Fq := by
  rintro ms v w a ho hB hf hq h0 hb hBs
  have hle := hB.le
  have hsh := hB.short
  have R := hB.rul (n := (len : Int)) hB.lt (by omega)
  have hne : ms ≠ [] := fun e => by have := hB.one; rw [e] at this; simp at this
  have SR := ho.srcR hne
  obtain ⟨g, off, cap, hv, _, _, _, _⟩ := ho.sp_ne hne
  subst hv
  have hbl : Below w.heap.size w ((w.alloc (.cells #[.int .i64 len] 3)).alloc (.cells #[.slice (some ⟨g, off, none⟩) ms.length cap, .slice (some ⟨w.heap.size, 0, none⟩) 1 1] 22)) := ((Below.refl _ _).alloc (Nat.le_refl _) _).alloc (by simp) _
  have CC := Lib.hid (concat2_any (w.heap.size + 1) _ _ ms [(len : Int)] _ (blk_b w (.cells #[.int .i64 len] 3) (.cells #[.slice (some ⟨g, off, none⟩) ms.length cap, .slice (some ⟨w.heap.size, 0, none⟩) 1 1] 22)) (SR.below hbl (Nat.le_refl _)) ((src_one w len).below ((Below.refl _ _).alloc (Nat.le_refl _) _) (Nat.le_refl _)) (by omega) (by simp))
  have VV := fun u W (hW : Below w.heap.size w W) (hu : Ow W B u (ms ++ [(len : Int)])) => Lib.hid (VIS (ms ++ [(len : Int)]) u W a hu R (hf.below hW) (box_below hq hW) h0 hb)
  obtain ⟨T, eT⟩ : ∃ T, va c len 0 ms a = T := ⟨_, rfl⟩
  rw [show vis c a (ms ++ [(len : Int)]) = T from eT] at VV
  rw [eT, show ((0 : Nat) : Int) + 1 = 1 from rfl]
  clear SR ho R eT hb hf hq hB hne VIS
  go_enter Try.func89, Try.ntmps89
  go_wp2_with fail
  refine CC.out.mono ?_
  rintro e w2 ⟨u, rfl, o2, b2⟩
  have B2 := hbl.trans (b2.mono hbl.size)
  have VV := VV u w2 B2 (o2.mono (Nat.le_trans hBs hbl.size))
  clear CC o2 b2 hbl
  go_wp2_with fail
  refine VV.out.mono ?_
  rintro e w3 ⟨rfl, hf3, hx3⟩
  go_wp2_with fail
  refine bodyPost_ret (results_none rfl _ _ _) rfl ?_
  exact ⟨rfl, hf3, (Xp.of_below B2).trans hx3⟩

set_option maxHeartbeats 8000000 in
set_option maxRecDepth 20000 in
theorem each_step (c : Bool) (len d q p B : Nat) (Fq : Value) (hqp : q ≠ p) (hd : d ≤ 30) (ih : EachOk c len d q p B Fq) : EachOk c len (d + 1) q p B Fq := by
  rintro ms v w a ho hB hf hq h0 hb hBs
  have hle := hB.le
  have hlt := hB.lt
  have hsh := hB.short
  have hl0 := hB.last0
  have h1 := hB.one
  have HB := Lib.hid hB
  have IH := Lib.hid ih
  have hne : ms ≠ [] := fun e => by rw [e] at h1; simp at h1
  have RL := Lib.hid (rulerLength_any v ms w ho.sv h1 (by omega))
  have HO := Lib.hid ho
  have HF0 := Lib.hid hf
  obtain ⟨v0, hfv⟩ := hf
  have HFP := Lib.hid hfv.1
  have HQ := Lib.hid hq
  have HNE := Lib.hid hne
  have SPO := ho.sp_ne hne
  obtain ⟨l, el⟩ : ∃ l : Nat, lastM ms = l := ⟨(lastM ms).toNat, by omega⟩
  have TT : Hid (vaG (va c len d) ms (len - d - (l + 1)) (l + 1) a = va c len (d + 1) ms a) := Lib.hid (by rw [va, el]; rfl)
  obtain ⟨T, eT⟩ : ∃ T, va c len (d + 1) ms a = T := ⟨_, rfl⟩
  rw [eT] at TT hb ⊢
  have HL := Lib.hid el
  rw [el] at RL hlt
  obtain ⟨g, off, cap, hv, _, _, _, _⟩ := SPO
  subst hv
  have hm1 : IntKind.i64.wrap ((len : Int) - ((d : Int) + 2)) = (len : Int) - ((d : Int) + 2) := IntWalk.i64_in _ (by omega)
  have hm2 : IntKind.i64.wrap ((len : Int) - ((d : Int) + 2) + 1) = (len : Int) - (d : Int) - 1 := by rw [IntWalk.i64_in _ (by omega)]; omega
  have hm3 : IntKind.i64.wrap ((d : Int) + 2 - 1) = (d : Int) + 1 := by rw [IntWalk.i64_in _ (by omega)]; omega
  have hd1 : ((d : Int) + 2 == 1) = false := by rw [beq_eq_false_iff_ne]; omega
  rw [show ((d + 1 : Nat) : Int) + 1 = (d : Int) + 2 by omega]
  clear ih ho hfv hq hB el eT hne
  go_enter Try.func89, Try.ntmps89
  go_wp2_with fail
  refine RL.out.mono ?_
  rintro e w1 ⟨rfl, rfl⟩
  clear RL
  go_wp2
  go_loopw [8] (fun x wr => ∃ (k : Nat) (b : RsR), l + 1 ≤ k ∧ k ≤ len + 1 ∧ x = .int .i64 k ∧ Hid (vaG (va c len d) ms (len - d - k) k b = T) ∧ 0 ≤ b.2 ∧ Fd wr p B b ∧ Xp p w1 wr) (fun x _ => len + 2 - (intOf x).toNat)
  case atStart => exact ⟨l + 1, a, by omega, by omega, by go_num, TT, h0, HF0.out, Xp.refl _ _⟩
  case round =>
    obtain ⟨k, b, hk1, hk2, rfl, HK, hb0, hf, hx⟩ := hrel
    by_cases hkX : k + d < len
    · have d1 : decide ((k : Int) ≤ (len : Int) - (d : Int) - 1) = true := by rw [decide_eq_true_eq]; omega
      have PB := HB.out.push (n := (k : Int)) (by rw [HL.out]; omega) (by omega)
      obtain ⟨f, hff⟩ : ∃ f, len - d - k = f + 1 := ⟨len - d - k - 1, by omega⟩
      have hf2 : len - d - (k + 1) = f := by omega
      have E := HK.out
      rw [hff, vaG] at E
      have hbd : (va c len d (ms ++ [(k : Int)]) b).2 ≤ 1099511627776 := by
        have := vaG_mono (va_mono c len d) (ms := ms) f (k + 1) (va c len d (ms ++ [(k : Int)]) b)
        rw [E] at this
        omega
      have hbc0 : 0 ≤ (va c len d (ms ++ [(k : Int)]) b).2 := Int.le_trans hb0 (va_mono c len d _ b)
      have hbl : Below wr.heap.size wr ((wr.alloc (.cells #[.int .i64 k] 3)).alloc (.cells #[.slice (some ⟨g, off, none⟩) ms.length cap, .slice (some ⟨wr.heap.size, 0, none⟩) 1 1] 22)) := ((Below.refl _ _).alloc (Nat.le_refl _) _).alloc (by simp) _
      have HOr := HO.out.xp HFP.out hx
      have SR := HOr.srcR HNE.out
      have CC := Lib.hid (concat2_any (wr.heap.size + 1) _ _ ms [(k : Int)] _ (blk_b wr (.cells #[.int .i64 k] 3) (.cells #[.slice (some ⟨g, off, none⟩) ms.length cap, .slice (some ⟨wr.heap.size, 0, none⟩) 1 1] 22)) (SR.below hbl (Nat.le_refl _)) ((src_one wr k).below ((Below.refl _ _).alloc (Nat.le_refl _) _) (Nat.le_refl _)) (by omega) (by simp))
      have hqr := box_xp HQ.out hqp hx
      have hBr : B ≤ wr.heap.size := Nat.le_trans hBs hx.size
      have II := fun u W (hW : Below wr.heap.size wr W) (hu : Ow W B u (ms ++ [(k : Int)])) => Lib.hid (IH.out (ms ++ [(k : Int)]) u W b hu PB (hf.below hW) (box_below hqr hW) hb0 hbd (Nat.le_trans hBr hW.size))
      obtain ⟨b2, eb2⟩ : ∃ b2, va c len d (ms ++ [(k : Int)]) b = b2 := ⟨_, rfl⟩
      rw [eb2] at E II hbd hbc0
      have HE := Lib.hid E
      clear SR HOr PB E eb2 HK hqr hf
      go_wp2_with fail
      refine CC.out.mono ?_
      rintro e w2 ⟨u, rfl, o2, b2'⟩
      have B2 := hbl.trans (b2'.mono hbl.size)
      have II := II u w2 B2 (o2.mono (Nat.le_trans hBr hbl.size))
      clear CC o2 b2' hbl
      go_wp2_with fail
      refine II.out.mono ?_
      rintro e w3 ⟨rfl, hf3, hx3⟩
      have hx4 := hx.trans ((Xp.of_below B2).trans hx3)
      clear II hx hx3 B2
      go_wp2
      go_roundw
      case rel => exact ⟨k + 1, b2, by omega, by omega, by go_num, Lib.hid (by rw [hf2]; exact HE.out), hbc0, hf3, hx4⟩
      case measure => simp [intOf]; omega
    · have d1 : decide ((k : Int) ≤ (len : Int) - (d : Int) - 1) = false := by rw [decide_eq_false_iff_not]; omega
      have E := HK.out
      rw [show len - d - k = 0 by omega, vaG] at E
      subst E
      clear HK TT
      go_wp2
      go_end0
      exact ⟨rfl, hf, hx⟩
theorem each_any (c : Bool) (len q p B : Nat) (Fq : Value) (hqp : q ≠ p) (VIS : VisOk c q p B Fq) : ∀ d, d ≤ 30 → EachOk c len d q p B Fq := by
  intro d
  induction d with
  | zero => intro _; exact each_zero c len q p B Fq VIS
  | succ d ih => intro hd; exact each_step c len d q p B Fq hqp (by omega) (ih (by omega))
end Go.Proofs.Ytaihgdecoaajoaa
