/-
  All solutions, in the program, by their contract. Conditions: clues.
-/
import Derived.Test.YtphjiicdodkfbaaYhf
import Derived.Test.YtphjiicdodkfbaaYfa
namespace Go.Proofs.Ytphjiicdodkfbaa
open Go.RowKit

theorem filter_take {α : Type} (f : α → Bool) (H : List α) (d : α) {j : Nat} (hj : j < H.length) : (H.take (j + 1)).filter f = (H.take j).filter f ++ (if f (H.getD j d) = true then [H.getD j d] else []) := by
  rw [List.take_add_one, List.getElem?_eq_getElem hj, List.filter_append, List.getD_eq_getElem?_getD, List.getElem?_eq_getElem hj]
  simp only [Option.toList_some, Option.getD_some]
  by_cases h : f H[j] = true <;> simp [h]
theorem RwAt.keptR {w w' : World} {B C : Nat} {v : Value} {vals : List Value} {pl : List (List Int)} {row : Option Nat} (h : RwAt w B C v vals pl) (k : w.grownBy w' row) (hne : v.ownBlock = none ∨ v.ownBlock ≠ row) (hrow : ∀ g, row = some g → ∃ c q, w.heap[g]? = some (.cells c 22 q)) : RwAt w' B C v vals pl := by
  refine ⟨h.out.kept k hne, fun j hj => (h.row j hj).kept k ?_, h.inc⟩
  cases e : (vals.getD j undef).ownBlock with
  | none => exact .inl rfl
  | some g =>
    refine .inr fun e2 => ?_
    obtain ⟨c, q, hc⟩ := hrow g e2.symm
    have h2 := h.row j hj
    obtain ⟨_, h2⟩ := h2
    rcases h2 with ⟨e3, _⟩ | ⟨g2, cap, cur, hv, _, hh, _⟩
    · rw [e3] at e; cases e
    · rw [hv] at e
      have e4 : g2 = g := by simpa [Value.ownBlock] using e
      rw [e4, hc] at hh
      simp at hh
theorem RwAt.rowT {w : World} {B C : Nat} {v : Value} {vals : List Value} {pl : List (List Int)} (h : RwAt w B C v vals pl) : ∀ g, v.ownBlock = some g → ∃ c q, w.heap[g]? = some (.cells c 22 q) := fun g hg => by
  rcases h.out.2 with ⟨e, _⟩ | ⟨g2, cap, cur, hv, _, hh, _⟩
  · rw [e] at hg; cases hg
  · rw [hv] at hg
    have e4 : g2 = g := by simpa [Value.ownBlock] using hg
    exact ⟨cur, (0, 0), by rw [← e4]; exact hh⟩

set_option maxHeartbeats 8000000 in
set_option maxRecDepth 20000 in
theorem solutionsOf_any (v : Value) (cs : List Cl) (w : World) (h : Cv w v cs) (hc : ∀ c ∈ cs, clB c = true) (hl : cs.length ≤ 1099511627776) :
    Calls Try.prog 76 #[v] w fun e w' => ∃ u vals, e = .returned u ∧ RwAt w' w.heap.size w.heap.size u vals (solL cs) ∧ Below w.heap.size w w' := by
  have HID := Lib.hid (hid_any 4)
  have HH := Lib.hid h
  have HC := Lib.hid hc
  have R0 := RwAt.empty w w.heap.size (Nat.le_refl _)
  have b0 : Below w.heap.size w (w.alloc (.cells #[] 22)) := (Below.refl _ _).alloc (Nat.le_refl _) _
  have HROW := Lib.hid (fun (j : Nat) (hj : j < allH.length) => allH_row hj)
  have HBD := Lib.hid allH_bd
  have HSOL : Hid (allH.filter (fitA cs) = solL cs) := Lib.hid rfl
  have HPOS : Hid (0 < allH.length) := Lib.hid (hs_pos 4 [])
  obtain ⟨H, eH⟩ : ∃ H, allH = H := ⟨_, rfl⟩
  have HCALL := fun (W : World) => (HID.out (.slice none 0 0) [] W.heap.size W (World.ownsRow_nil _ _ _ _) (Nat.le_refl _) (fun _ => rfl) HdOk.nil rfl)
  rw [show hs 4 [] = allH from rfl] at HCALL
  rw [eH] at HCALL HROW HBD HSOL HPOS
  have HHC := Lib.hid HCALL
  generalize solL cs = T at *
  clear HCALL eH HID h hc
  go_enter Try.func76, Try.ntmps76
  go_wp2_with fail
  refine (HHC.out _).mono ?_
  rintro e w2 ⟨u2, us, rfl, r2, b2⟩
  simp only [World.size_alloc] at r2 b2
  obtain ⟨g2, c2, rfl, hg2, hg2b, hc2⟩ := r2.cells HPOS.out
  have R2 := R0.below b2 (by simp)
  have hb2 := b0.trans (b2.mono (by omega))
  have HR2 := Lib.hid r2
  clear R0 b0 b2 hc2
  go_wp2
  go_loopw [3, 9] (fun x i wr => ∃ (j : Nat) (vals : List Value) (L : List (List Int)), j ≤ H.length ∧ i = .int .i64 j ∧ RwAt wr w.heap.size w.heap.size x vals L ∧ Hid (L = (H.take j).filter (fitA cs)) ∧
    Hid (∀ i, i < L.length → ∀ p, (vals.getD i undef).ownBlock = some p → ∀ i2, j ≤ i2 → i2 < H.length → ∀ q, (us.getD i2 undef).ownBlock = some q → p < q) ∧ Hid (x.ownBlock ≠ some g2) ∧ Hid (RwAt wr (w.heap.size + 1) (w.heap.size + 1) (.slice (some ⟨g2, 0, none⟩) H.length c2) us H) ∧ Below w.heap.size w wr) (fun _ i _ => H.length - (intOf i).toNat)
  case atStart => exact ⟨0, _, _, Nat.zero_le _, rfl, R2, Lib.hid (by simp), Lib.hid (fun i hi => by simp at hi), Lib.hid (fun e => by simp [Value.ownBlock] at e; omega), HR2, hb2⟩
  case round =>
    clear R2 HR2 hb2 r2
    obtain ⟨j, vals, L, hj, rfl, ho, HL, HX, HN, HR, hbw⟩ := hrel
    have z0 := hbw.size
    have hH := HBD.out
    by_cases hlt : j < H.length
    · obtain ⟨g3, c3, e3, -, hg3b, hcc⟩ := HR.out.cells (by omega)
      simp only [Value.slice.injEq, Option.some.injEq, Addr.mk.injEq, and_true, true_and] at e3
      obtain ⟨rfl, rfl⟩ := e3
      have hcell := hcc j hlt
      have hrow := HR.out.row j hlt
      have hok := HROW.out j hlt
      have FT := filter_take (fitA cs) H [] hlt
      have HU := Lib.hid (show us.getD j undef = us.getD j undef from rfl)
      unfold rowL at hrow
      obtain ⟨X, eX⟩ : ∃ X, H.getD j [] = X := ⟨_, rfl⟩
      rw [eX] at hrow hok FT
      obtain ⟨U, eU⟩ : ∃ U, us.getD j undef = U := ⟨_, rfl⟩
      rw [eU] at hrow hcell
      have HEU := Lib.hid eU
      have hgood := hok.good
      have FA := Lib.hid (fitsAll_any U v X cs wr hrow.sv hgood (HH.out.below hbw (Nat.le_refl _)) HC.out hl)
      have HFT := Lib.hid FT
      have HROWJ := Lib.hid hrow
      obtain ⟨pu, cu, rfl⟩ : ∃ p c, U = .slice p X.length c := by obtain ⟨p, c, e, _⟩ := hrow.sv; exact ⟨p, c, e⟩
      clear hcc hok FT HU eX eU hgood hrow
      have hLb : L.length ≤ 2401 := by
        have := congrArg List.length HL.out
        have h2 := List.length_filter_le (fitA cs) (H.take j)
        rw [List.length_take] at h2
        have := HBD.out
        omega
      cases hF : fitA cs X
      · rw [hF] at FA
        have N := Lib.hid (show L = (H.take (j + 1)).filter (fitA cs) by rw [HFT.out, hF, HL.out]; simp)
        clear HFT hF HROWJ
        go_wp2_with fail
        refine FA.out.mono ?_
        rintro e w3 ⟨rfl, b3⟩
        have o3 := ho.below b3 (Nat.le_refl _)
        have R3 := Lib.hid (HR.out.below b3 (Nat.le_refl _))
        have hb3 := hbw.trans (b3.mono z0)
        clear ho HR b3 FA
        go_wp2_with fail
        go_roundw
        case rel => exact ⟨j + 1, vals, L, by omega, by go_num, o3, N, Lib.hid (fun i hi p hp i2 h2 h3 q hq => HX.out i hi p hp i2 (by omega) h3 q hq), HN, R3, hb3⟩
        case measure => simp [intOf]; omega
      · rw [hF] at FA
        have N := Lib.hid (show L ++ [X] = (H.take (j + 1)).filter (fitA cs) by rw [HFT.out, hF, HL.out]; simp)
        clear HFT hF
        go_wp2_with fail
        refine FA.out.mono ?_
        rintro e w3 ⟨rfl, b3⟩
        have o3 := ho.below b3 (Nat.le_refl _)
        have R3 := Lib.hid (HR.out.below b3 (Nat.le_refl _))
        have RJ := Lib.hid (HROWJ.out.below b3 (Nat.le_refl _))
        have hb3 := hbw.trans (b3.mono z0)
        have z3 := hb3.size
        clear ho HR b3 FA HROWJ
        have HO3 := Lib.hid o3
        obtain ⟨px, cx, rfl⟩ := o3.form
        clear o3
        have ba := (Below.refl w3.heap.size w3).alloc (Nat.le_refl _) (.cells #[.slice pu X.length cu] 22)
        go_wp2_with (first
          | (at_builtin; refine wpList_append_rw1 rfl _ _ rfl w.heap.size w.heap.size _ vals L rfl (HO3.out.below ba (Nat.le_refl _)) w3.heap.size (.slice pu X.length cu) X rfl (by simp [go_sem]) ((RJ.out.below ba (Nat.le_refl _)).mono (by omega)) (fun i hi p q hp hq => HX.out i hi p hp j (Nat.le_refl _) hlt q (by rw [HEU.out]; exact hq)) (by omega) (by simp; omega) ?_; intro u8 w8 r8 b8 g8 k8))
        have hg3 : g2 < w3.heap.size := by have := R3.out.rowT g2 rfl; obtain ⟨c, q, h⟩ := this; exact (Array.getElem?_eq_some_iff.1 h).1
        have vl : vals.length = L.length := HO3.out.len
        have N1 := Lib.hid (show ∀ i, i < (L ++ [X]).length → ∀ p, ((vals ++ [Value.slice pu X.length cu]).getD i undef).ownBlock = some p → ∀ i2, j + 1 ≤ i2 → i2 < H.length → ∀ q, (us.getD i2 undef).ownBlock = some q → p < q from fun i hi x hx i2 h2 h3 q hq => by
          by_cases e : i < L.length
          · rw [getD_app_lt _ _ _ (by omega)] at hx
            exact HX.out i e x hx i2 (by omega) h3 q hq
          · rw [getD_app_ge _ _ _ (by omega)] at hx
            have e0 : i - vals.length = 0 := by simp at hi; omega
            rw [e0] at hx
            exact R3.out.inc j i2 (by omega) h3 x q (by rw [HEU.out]; exact hx) hq)
        have N2 := Lib.hid (show u8.ownBlock ≠ some g2 from fun e => by
          rcases k8 with k | k
          · exact HN.out (k ▸ e)
          · rw [k] at e; simp at e; omega)
        have g8 : (w3.alloc (.cells #[.slice pu X.length cu] 22)).grownBy w8 (Value.slice px L.length cx).ownBlock := g8
        have N3 := Lib.hid ((R3.out.below ba (Nat.le_refl _)).keptR g8 (.inr (fun e => HN.out e.symm)) (fun g hg => by
          obtain ⟨c, q, h⟩ := HO3.out.rowT g hg
          exact ⟨c, q, by rw [ba.block g (Array.getElem?_eq_some_iff.1 h).1]; exact h⟩))
        have hb8 := hb3.trans ((ba.mono z3).trans b8)
        exact ⟨⟨j + 1, _, _, by omega, by go_num, r8, N, N1, N2, N3, hb8⟩, by simp [intOf]; omega⟩
    · obtain rfl : j = H.length := by omega
      have E : L = T := by rw [HL.out, List.take_length]; exact HSOL.out
      subst E
      clear HL HX HN HR
      go_wp2
      go_ret
      exact ⟨_, vals, rfl, ho, hbw⟩
end Go.Proofs.Ytphjiicdodkfbaa
