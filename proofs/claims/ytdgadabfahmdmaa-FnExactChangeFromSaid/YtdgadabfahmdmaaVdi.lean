/-
  What the first change takes next: the program's closure, by its contract; ChangeFrom in the program. Condition: slices of at most 2^40 numbers.
-/
import Derived.Test.YtdgadabfahmdmaaVdc
import Derived.Deep.RegionWith
import Derived.Deep.DeepMust
namespace Go.Proofs.Ytdgadabfahmdmaa
open Go.RowKit

theorem drT_ok : ∀ (cs ps : List Nat) (k K : Nat), Pos cs → k + cs.length ≤ K → ∀ a, DrOk K a (drT k cs ps a) := by
  intro cs
  induction cs with
  | nil => intro ps k K _ hk a; exact dr0_ok (by simpa using hk) a
  | cons c cs ih =>
    intro ps k K hp hk a
    simp only [List.length_cons] at hk
    cases ps with
    | nil => exact dr0_ok (by omega) a
    | cons p ps => exact DrOk.pass (by omega) hp.head (ih ps (k + 1) K hp.tail (by omega)) a

set_option maxHeartbeats 4000000 in
set_option maxRecDepth 100000 in
theorem fnext_any (T g l m : Nat) (cs pl : List Nat) (w : World) (hT : Boxed w T 61 (.slice (some ⟨g, 0, none⟩) (m + 1) (m + 1))) (ht : Dp w g (m + 1) (drT 0 cs pl)) (hb : (drT 0 cs pl l).t ≤ 1048576) (hl : l ≤ m) :
    Calls Try.prog 75 #[.int .i64 (l : Int), .pointer (some ⟨T, 0, none⟩)] w fun e w' => ∃ u, e = .returned u ∧ Ow w' w.heap.size u (iL (fstep cs pl l)) ∧ Below w.heap.size w w' := by
  have x1 := hT.cell
  have HS : Hid (fstep cs pl l = List.replicate (drT 0 cs pl l).t (drT 0 cs pl l).k) := Lib.hid rfl
  obtain ⟨P, eP⟩ : ∃ P, drT 0 cs pl l = P := ⟨_, rfl⟩
  obtain ⟨c1, c2⟩ := dp_load ht (j := l) (by omega) eP
  rw [eP] at HS hb
  obtain ⟨z, ez⟩ : ∃ y, P.k = y := ⟨_, rfl⟩
  obtain ⟨t, et⟩ : ∃ y, P.t = y := ⟨_, rfl⟩
  rw [ez] at c1 HS
  rw [et] at c2 HS hb
  have i1 : (l : Int) < (m : Int) + 1 := by omega
  have i0 : (0 : Int) ≤ l := by omega
  have CK := Lib.hid (coinsOfKind_any z t w.drew hb)
  clear hT ht eP ez et hl
  go_enter Try.func75, Try.ntmps75
  go_wp2
  go_region_with (go_at_call 59; go_must (refine CK.out.mono ?_); rintro e w2 ⟨rfl, ho, b2⟩)
  all_goals
    go_wp2
    go_ret
    exact ⟨_, rfl, by rw [HS.out]; exact ho, (Below.refl _ w).drew.trans b2⟩

set_option maxHeartbeats 4000000 in
set_option maxRecDepth 100000 in
theorem implChangeFrom_any (v : Value) (xs : List Int) (u : Value) (ps : List Int) (a : Int) (w : World) (h : Sp w v xs) (hl : xs.length ≤ 1099511627776) (g : Sp w u ps) (gl : ps.length ≤ 1099511627776) :
    Calls Try.prog 43 #[v, u, .int .i64 a] w fun e w' => ∃ z, e = .returned (.tuple #[z, .bool (ccB xs ps a)]) ∧ Ow w' w.heap.size z (cfR xs ps a) ∧ Below w.heap.size w w' := by
  have hmf : ∀ (fn : Fn) (first cap : Array Value) (w : World), (Instr.makeFunc fn first cap).run Try.prog w = .ok (.func fn first cap) w := fun _ _ _ _ => rfl
  have AC := Lib.hid (isPurse_any v u xs ps w h.sv g.sv hl gl)
  have IA := Lib.hid (isAmount_any a w)
  by_cases hp : purB xs ps = true
  · by_cases ha : amB a = true
    · have hq : askP xs ps a = true := by simp [askP, hp, ha]
      rw [hp] at AC
      rw [ha] at IA
      obtain ⟨cs, pl, n, rfl, rfl, hc, hlp, rfl, hn⟩ := askP_iff hq
      have HC := Lib.hid (ccB_of hq)
      have h8 := hc.eight
      have h1 := hc.one
      have hlq := iL_len cs
      have hlq2 := iL_len pl
      obtain ⟨b, off, cap, rfl, hbl, hx, hxn⟩ := sp_parts h
      obtain ⟨b2, off2, cap2, rfl, hbl2, -, hx2⟩ := sp_parts g
      rw [show (iL pl).length = (iL cs).length by omega] at AC ⊢
      have TP := Lib.hid (tableDrawn_any cap b off cap2 b2 off2 cs pl n w hbl hbl2 hx (fun j hj => hx2 j (by omega)) hc.pos hlp h8 (by omega) (fun c hcc => by have := hc.mem c hcc; omega))
      have CB := co_first hc.pos hlp h1 n
      have HR : Hid (iL (if cB cs pl n = true then pf cs pl n else []) = cfR (iL cs) (iL pl) n) := Lib.hid (by
        have e := HC.out
        cases hz : cB cs pl n with
        | true => rw [if_pos rfl, cfR_yes (e.trans hz)]
        | false => rw [if_neg (by decide), cfR_no (e.trans hz)]; rfl)
      have TB : ∀ l, l ≤ n → (drT 0 cs pl l).t ≤ 1048576 := fun l hln => by
        have := (drT_ok cs pl 0 8 hc.pos (by omega) l).t
        omega
      have CO := fun (W : World) (T g : Nat) (hW : Below w.heap.size w W) (hT : Boxed W T 61 (.slice (some ⟨g, 0, none⟩) (n + 1) (n + 1))) (ht : Dp W g (n + 1) (drT 0 cs pl)) =>
        Lib.hid (countOutF_any W b off cap cs n (.pointer (some ⟨T, 0, none⟩)) (fstep cs pl) (Nat.lt_of_lt_of_le hbl hW.size)
        (fun j hj => by rw [hW.cell (p := ⟨b, off + j, none⟩) hbl]; exact hxn j hj) hc.pos (by omega) (by omega) (fstep_ok hc.pos hlp h1 n)
        (fun l W2 hW2 h0 hl => fnext_any T g l n cs pl W2 (boxed_keep hT hW2) (ht.below hW2 (Nat.le_refl _)) (TB l hl) hl))
      rw [CB.1, CB.2, HR.out, ← HC.out] at CO
      have CO := Lib.hid CO
      have HLQ := Lib.hid hlq
      rw [hlq] at AC TP ⊢
      clear h g hl gl hp ha hq hc hlp hlq hlq2 hx hxn hx2 CB TB h8 h1 hbl hbl2
      go_enter Try.func43, Try.ntmps43
      go_wp2_with (first | (go_at_call 73; refine AC.out.mono ?_; rintro e w' ⟨rfl, rfl⟩) | (go_at_call 55; refine IA.out.mono ?_; rintro e w' ⟨rfl, rfl⟩))
      refine TP.out.mono ?_
      rintro e w2 ⟨rfl, ht, b2⟩
      have hz2 := b2.size
      have hbx := Boxed.new w2 61 (.slice (some ⟨w.heap.size + 2, 0, none⟩) (n + 1) (n + 1))
      have ht3 := ht.below ((Below.refl _ w2).alloc (Nat.le_refl _) (.cells #[.slice (some ⟨w.heap.size + 2, 0, none⟩) (n + 1) (n + 1)] 61)) (Nat.le_refl _)
      have b3 : Below w.heap.size w (w2.alloc (.cells #[.slice (some ⟨w.heap.size + 2, 0, none⟩) (n + 1) (n + 1)] 61)) := b2.alloc hz2 _
      have C1 := CO.out _ w2.heap.size (w.heap.size + 2) b3 hbx ht3
      clear ht hbx ht3 CO
      go_wp2_with fail
      refine C1.out.mono ?_
      rintro e w4 ⟨z, rfl, ho, b4⟩
      go_wp2_with fail
      go_ret2
      exact ⟨_, rfl, ho.mono b3.size, nxt b3 b4⟩
    · have ha : amB a = false := by simpa using ha
      have HC := Lib.hid (ccB_no (askP_a (xs := xs) (ps := ps) ha))
      have HR := Lib.hid (cfR_no HC.out)
      rw [hp] at AC
      rw [ha] at IA
      clear hp ha
      go_enter Try.func43, Try.ntmps43
      go_wp2_with (first | (go_at_call 73; refine AC.out.mono ?_; rintro e w' ⟨rfl, rfl⟩) | (go_at_call 55; refine IA.out.mono ?_; rintro e w' ⟨rfl, rfl⟩))
      go_ret2
      exact ⟨_, ret_lb rfl HC.out.symm, by rw [HR.out]; exact ow_nil _ _, Below.refl _ _⟩
  · have hp : purB xs ps = false := by simpa using hp
    have HC := Lib.hid (ccB_no (askP_p (a := a) hp))
    have HR := Lib.hid (cfR_no HC.out)
    rw [hp] at AC
    clear hp
    go_enter Try.func43, Try.ntmps43
    go_wp2_with (go_at_call 73; refine AC.out.mono ?_; rintro e w' ⟨rfl, rfl⟩)
    go_ret2
    exact ⟨_, ret_lb rfl HC.out.symm, by rw [HR.out]; exact ow_nil _ _, Below.refl _ _⟩
end Go.Proofs.Ytdgadabfahmdmaa
