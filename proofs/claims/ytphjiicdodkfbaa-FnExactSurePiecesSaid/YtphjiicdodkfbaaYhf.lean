/-
  All hidden pieces that begin with a list, in the program: a function that calls itself, by its contract. Condition: hidden pieces.
-/
import Derived.Test.YtphjiicdodkfbaaYro
import Derived.Test.YtphjiicdodkfbaaYpu
namespace Go.Proofs.Ytphjiicdodkfbaa
open Go.RowKit

def HidI (k : Nat) : Prop := ∀ (v : Value) (b : List Int) (C : Nat) (w : World), Ow w C v b → C ≤ w.heap.size → (b = [] → v = .slice none 0 0) → HdOk b → b.length + k = 4 →
  Calls Try.prog 105 #[v] w fun e w' => ∃ u vals, e = .returned u ∧ RwAt w' w.heap.size C u vals (hs k b) ∧ Below w.heap.size w w'

set_option maxHeartbeats 2000000 in
theorem hid_zero : HidI 0 := by
  intro v b C w h hC hn hb hl
  obtain ⟨p, cap, e⟩ : ∃ p cap, v = .slice p b.length cap := by obtain ⟨p, cap, e, _⟩ := h.sv; exact ⟨p, cap, e⟩
  have R := RwAt.lit (B := w.heap.size) h (Nat.le_refl _)
  have hl4 : b.length = 4 := by omega
  rw [hl4] at e
  rw [show hs 0 b = [b] from rfl]
  subst e
  clear h hn hb hl
  go_enter Try.func105, Try.ntmps105
  go_wp2
  go_ret
  exact ⟨_, _, rfl, R, (Below.refl _ _).alloc (Nat.le_refl _) _⟩

theorem hs_step (k : Nat) (b : List Int) {p : Int} {L : List (List Int)} (hp : p ≤ 6) (h : L ++ upF (fun n => hs k (b ++ [n])) (7 - p).toNat p = hs (k + 1) b) :
    (L ++ hs k (b ++ [p])) ++ upF (fun n => hs k (b ++ [n])) (7 - (p + 1)).toNat (p + 1) = hs (k + 1) b := by
  rw [← h, show (7 - p).toNat = (7 - (p + 1)).toNat + 1 by omega, upF, List.append_assoc]
theorem hs_end (k : Nat) (b : List Int) {p : Int} {L : List (List Int)} (hp : 6 < p) (h : L ++ upF (fun n => hs k (b ++ [n])) (7 - p).toNat p = hs (k + 1) b) : L = hs (k + 1) b := by
  rw [← h, show (7 - p).toNat = 0 by omega, upF, List.append_nil]

theorem hs_pos : ∀ (k : Nat) (b : List Int), 0 < (hs k b).length
  | 0, b => by simp [hs]
  | k + 1, b => by rw [hs]; simp
theorem Ow.blkform {w : World} {C : Nat} {v : Value} {b : List Int} (h : Ow w C v b) (h0 : b ≠ []) : ∃ g cap, v = .slice (some ⟨g, 0, none⟩) b.length cap ∧ b.length ≤ cap ∧ g < w.heap.size ∧ ∀ j, j < b.length → w.cell? ⟨g, 0 + j, none⟩ = some (.int .i64 (b.getD j 0)) := by
  rcases h.form with ⟨_, e⟩ | ⟨g, cap, e, _, hg⟩
  · exact (h0 e).elim
  · subst e
    refine ⟨g, cap, rfl, ?_, hg, fun j hj => by rw [Nat.zero_add]; exact h.cellAt rfl hj⟩
    obtain ⟨_, h2⟩ := h
    rcases h2 with ⟨e, _⟩ | ⟨g2, cap2, cur, hv, _, _, hl, _⟩
    · cases e
    · simp only [Value.slice.injEq] at hv
      omega

set_option maxHeartbeats 8000000 in
set_option maxRecDepth 20000 in
theorem hid_succ (k : Nat) (ih : HidI k) : HidI (k + 1) := by
  intro v b C w h hC hn hb hl
  have HIH := Lib.hid ih
  have R0 := RwAt.lit (B := w.heap.size) h (Nat.le_refl _)
  have hlst := hb.lst
  have hb0 : Below w.heap.size w (w.alloc (.cells #[v] 22)) := (Below.refl _ _).alloc (Nat.le_refl _) _
  have HB := Lib.hid hb
  have H0 : Hid ([b] ++ upF (fun n => hs k (b ++ [n])) (7 - lstL b).toNat (lstL b) = hs (k + 1) b) := Lib.hid rfl
  have HLEN := Lib.hid (hs_bd (k + 1) b hb hl)
  have HC := Lib.hid hC
  have HOW := Lib.hid h
  obtain ⟨T, eT⟩ : ∃ T, hs (k + 1) b = T := ⟨_, rfl⟩
  have ST := fun (p : Int) (L : List (List Int)) (hp : p ≤ 6) => hs_step k b (p := p) (L := L) hp
  have SE := fun (p : Int) (L : List (List Int)) (hp : 6 < p) => hs_end k b (p := p) (L := L) hp
  rw [eT] at H0 HLEN ST SE ⊢
  have HST := Lib.hid ST
  have HSE := Lib.hid SE
  have HK := Lib.hid hl
  clear eT ST SE ih
  by_cases he : b = []
  · have hv := hn he
    have hl0 : b.length = 0 := by rw [he]; rfl
    have el : lstL b = 1 := by rw [he]; rfl
    have HE := Lib.hid he
    have EL := Lib.hid el
    subst hv
    clear h hn hb hC he el hl hl0
    go_enter Try.func105, Try.ntmps105
    go_wp2
    go_loopw [3, 6] (fun x i wr => ∃ (p : Int) (vals : List Value) (L : List (List Int)), lstL b ≤ p ∧ p ≤ 7 ∧ i = .int .i64 p ∧ RwAt wr w.heap.size C x vals L ∧ Hid (L ++ upF (fun n => hs k (b ++ [n])) (7 - p).toNat p = T) ∧ Below w.heap.size w wr) (fun _ i _ => (7 - intOf i).toNat)
    case atStart => exact ⟨lstL b, _, _, Int.le_refl _, by omega, by rw [EL.out], R0, H0, hb0⟩
    case round =>
      clear R0 H0 hb0
      obtain ⟨p, vals, L, hp1, hp7, rfl, ho, HT, hbw⟩ := hrel
      by_cases hp6 : p ≤ 6
      · have N := Lib.hid (HST.out p L hp6 HT.out)
        have z0 := hbw.size
        have HLL : Hid (L.length ≤ 2401) := Lib.hid (by have := congrArg List.length HT.out; have := HLEN.out; simp only [List.length_append] at *; omega)
        have HM1 : Hid (0 < (hs k (b ++ [p])).length) := Lib.hid (hs_pos k _)
        have HOK : Hid (HdOk (b ++ [p])) := Lib.hid (HB.out.snoc (by have := HK.out; omega) hp1 hp6)
        have HM2 : Hid ((hs k (b ++ [p])).length ≤ 2401) := Lib.hid (hs_bd k _ HOK.out (by have := HK.out; simp; omega))
        have HCALL := fun (u6 : Value) (w6 : World) (o6 : Ow w6 (wr.heap.size + 1) u6 (b ++ [p])) (hz : wr.heap.size + 1 ≤ w6.heap.size) => HIH.out u6 (b ++ [p]) (wr.heap.size + 1) w6 o6 hz (fun e => by simp at e) HOK.out (by have := HK.out; simp; omega)
        obtain ⟨M, eM⟩ : ∃ M, hs k (b ++ [p]) = M := ⟨_, rfl⟩
        rw [eM] at N HM1 HM2 HCALL
        obtain ⟨Q, eQ⟩ : ∃ Q, b ++ [p] = Q := ⟨_, rfl⟩
        have HQ := Lib.hid eQ
        rw [eQ] at HCALL
        clear eM eQ HOK
        have HHC := Lib.hid HCALL
        clear HCALL
        have HO := Lib.hid ho
        obtain ⟨px, cx, rfl⟩ := ho.form
        clear ho
        go_wp2_with (first
          | (go_at_call 105; refine (HHC.out _ w6 o6 (by have := b6.size; simp at this; omega)).mono ?_; rintro e w7 ⟨u7, us, rfl, r7, b7⟩; obtain ⟨g7, c7, rfl, -, -, hc7⟩ := r7.cells HM1.out; have bb7 := bb6.trans (b7.mono bb6.size); clear bb6 b6)
          | (at_builtin; (refine wpList_append_cut rfl _ _ rfl _ b rfl (.inl ⟨rfl, HE.out⟩) wr.heap.size p rfl (by simp [go_sem]) (by have := HK.out; omega) ?_; intro u6 w6 o6 b6; rw [HQ.out] at o6; simp only [World.size_alloc] at o6 b6; have bb6 := ((Below.refl wr.heap.size wr).alloc (Nat.le_refl _) (.cells #[.int .i64 p] 3)).trans (b6.mono (by omega))))
          | (at_builtin; refine wpList_append_rws rfl _ _ rfl w.heap.size C _ vals L rfl (HO.out.below bb7 (Nat.le_refl _)) g7 c7 us M rfl r7.len hc7 (fun j hj => (r7.row j hj).mono (by have := HC.out; omega)) r7.inc (fun i j hi hj x y hx hy => by have h1 := World.ownsRow.lt (HO.out.row i hi) x hx; have h2 := World.ownsRow.lt (r7.row j hj) y hy; omega) (by have := HLL.out; have := HM2.out; omega) (by have := bb7.size; omega) ?_; intro u8 w8 r8 b8 g8 k8; clear k8))
        have hb8 := hbw.trans ((bb7.mono z0).trans b8)
        clear b8 g8 r7 b7 hc7 bb7 o6
        go_roundw
        case rel =>
          exact ⟨p + 1, _, _, by omega, by omega, by go_num, r8, N, hb8⟩
        case measure => simp [intOf]; omega
      · have E := HSE.out p L (by omega) HT.out
        clear HT
        subst E
        go_wp2
        go_ret
        exact ⟨_, rfl, ⟨vals, ho⟩, hbw⟩
  · obtain ⟨g, cap, rfl, hcap, hg, hcells⟩ := h.blkform he
    have hpos : 0 < b.length := List.length_pos_iff.2 he
    obtain ⟨m, em⟩ : ∃ m, b.length = m + 1 := ⟨b.length - 1, by omega⟩
    have hlast := hcells m (by omega)
    rw [← lstL_pos em, Nat.zero_add] at hlast
    have HCE := Lib.hid hcells
    have d0 : ((b.length : Int) == 4) = false := by rw [beq_eq_false_iff_ne]; omega
    have d1 : decide (0 < (b.length : Int)) = true := by simp; omega
    have hm1 : IntKind.i64.wrap ((b.length : Int) - 1) = (m : Int) := by rw [em]; exact IntWalk.i64_in _ (by omega) |>.trans (by omega)
    have hm2 : (m : Int) < (b.length : Int) := by omega
    have hm3 : (0 : Int) ≤ (m : Int) := by omega
    clear h hn hb hC hcells em hl
    go_enter Try.func105, Try.ntmps105
    go_wp2
    go_loopw [3, 6] (fun x i wr => ∃ (p : Int) (vals : List Value) (L : List (List Int)), lstL b ≤ p ∧ p ≤ 7 ∧ i = .int .i64 p ∧ RwAt wr w.heap.size C x vals L ∧ Hid (L ++ upF (fun n => hs k (b ++ [n])) (7 - p).toNat p = T) ∧ Below w.heap.size w wr) (fun _ i _ => (7 - intOf i).toNat)
    case atStart => exact ⟨lstL b, _, _, Int.le_refl _, by omega, rfl, R0, H0, hb0⟩
    case round =>
      clear R0 H0 hb0
      obtain ⟨p, vals, L, hp1, hp7, rfl, ho, HT, hbw⟩ := hrel
      by_cases hp6 : p ≤ 6
      · have N := Lib.hid (HST.out p L hp6 HT.out)
        have z0 := hbw.size
        have HLL : Hid (L.length ≤ 2401) := Lib.hid (by have := congrArg List.length HT.out; have := HLEN.out; simp only [List.length_append] at *; omega)
        have HM1 : Hid (0 < (hs k (b ++ [p])).length) := Lib.hid (hs_pos k _)
        have HOK : Hid (HdOk (b ++ [p])) := Lib.hid (HB.out.snoc (by have := HK.out; omega) hp1 hp6)
        have HM2 : Hid ((hs k (b ++ [p])).length ≤ 2401) := Lib.hid (hs_bd k _ HOK.out (by have := HK.out; simp; omega))
        have HCALL := fun (u6 : Value) (w6 : World) (o6 : Ow w6 (wr.heap.size + 1) u6 (b ++ [p])) (hz : wr.heap.size + 1 ≤ w6.heap.size) => HIH.out u6 (b ++ [p]) (wr.heap.size + 1) w6 o6 hz (fun e => by simp at e) HOK.out (by have := HK.out; simp; omega)
        obtain ⟨M, eM⟩ : ∃ M, hs k (b ++ [p]) = M := ⟨_, rfl⟩
        rw [eM] at N HM1 HM2 HCALL
        obtain ⟨Q, eQ⟩ : ∃ Q, b ++ [p] = Q := ⟨_, rfl⟩
        have HQ := Lib.hid eQ
        rw [eQ] at HCALL
        clear eM eQ HOK
        have HHC := Lib.hid HCALL
        clear HCALL
        have HO := Lib.hid ho
        obtain ⟨px, cx, rfl⟩ := ho.form
        clear ho
        have bbc : Below w.heap.size w (wr.alloc (.cells #[.int .i64 p] 3)) := hbw.alloc z0 _
        go_wp2_with (first
          | (go_at_call 105; refine (HHC.out _ w6 o6 (by have := b6.size; simp at this; omega)).mono ?_; rintro e w7 ⟨u7, us, rfl, r7, b7⟩; obtain ⟨g7, c7, rfl, -, -, hc7⟩ := r7.cells HM1.out; have bb7 := bb6.trans (b7.mono bb6.size); clear bb6 b6)
          | (at_builtin; (refine wpList_append_cut rfl _ _ rfl _ b rfl (.inr ⟨g, 0, rfl, fun j hj => (bbc.cell (p := ⟨g, 0 + j, none⟩) hg).trans (HCE.out j hj)⟩) wr.heap.size p rfl (by simp [go_sem]) (by have := HK.out; omega) ?_; intro u6 w6 o6 b6; rw [HQ.out] at o6; simp only [World.size_alloc] at o6 b6; have bb6 := ((Below.refl wr.heap.size wr).alloc (Nat.le_refl _) (.cells #[.int .i64 p] 3)).trans (b6.mono (by omega))))
          | (at_builtin; refine wpList_append_rws rfl _ _ rfl w.heap.size C _ vals L rfl (HO.out.below bb7 (Nat.le_refl _)) g7 c7 us M rfl r7.len hc7 (fun j hj => (r7.row j hj).mono (by have := HC.out; omega)) r7.inc (fun i j hi hj x y hx hy => by have h1 := World.ownsRow.lt (HO.out.row i hi) x hx; have h2 := World.ownsRow.lt (r7.row j hj) y hy; omega) (by have := HLL.out; have := HM2.out; omega) (by have := bb7.size; omega) ?_; intro u8 w8 r8 b8 g8 k8; clear k8))
        have hb8 := hbw.trans ((bb7.mono z0).trans b8)
        clear b8 g8 r7 b7 hc7 bb7 o6
        go_roundw
        case rel =>
          exact ⟨p + 1, _, _, by omega, by omega, by go_num, r8, N, hb8⟩
        case measure => simp [intOf]; omega
      · have E := HSE.out p L (by omega) HT.out
        clear HT
        subst E
        go_wp2
        go_ret
        exact ⟨_, rfl, ⟨vals, ho⟩, hbw⟩
theorem hid_any : ∀ k, HidI k
  | 0 => hid_zero
  | k + 1 => hid_succ k (hid_any k)
end Go.Proofs.Ytphjiicdodkfbaa
