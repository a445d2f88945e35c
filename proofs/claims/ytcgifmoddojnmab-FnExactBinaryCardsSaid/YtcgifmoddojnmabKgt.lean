/-
  The binary cards in the model, by contract. No condition.
-/
import Derived.Test.YtcgifmoddojnmabKgs
import Derived.Test.YtcgifmoddojnmabBlen
namespace Go.Proofs.Ytcgifmoddojnmab
open Go.RowKit

def bcK (n k : Nat) : List (List Int) := (List.range k).map fun j => cbK j n
theorem bcK_zero (n : Nat) : bcK n 0 = [] := rfl
theorem bcK_succ (n k : Nat) : bcK n k ++ [cbK k n] = bcK n (k + 1) := by unfold bcK; rw [List.range_succ, List.map_append]; rfl
theorem bcK_len (n k : Nat) : (bcK n k).length = k := by simp [bcK]
def bcN (n : Int) : Int := if inB n 1 128 = true then n else 0
def bcR (n : Int) : List (List Int) := if inB n 1 128 = true then bcK n.toNat (flen n) else []
theorem bc_no {n : Int} (h : inB n 1 128 = false) : bcN n = 0 ∧ bcR n = [] := by simp [bcN, bcR, h]
theorem bc_yes {n : Int} (h : inB n 1 128 = true) : bcN n = n ∧ bcR n = bcK n.toNat (flen n) := by simp [bcN, bcR, h]

set_option maxHeartbeats 8000000 in
set_option maxRecDepth 100000 in
theorem specBinaryCards_any (n : Int) (w : World) :
    Calls Try.prog 6 #[.int .i64 n] w fun e w' => ∃ u, e = .returned (.tuple #[.agg #[.int .i64 (bcN n), u], .bool (inB n 1 128)]) ∧ Svv w' u (bcR n) ∧ Below w.heap.size w w' := by
  cases hg : inB n 1 128 with
  | false =>
    rw [(bc_no hg).1, (bc_no hg).2]
    have LI := fun W => Lib.hid (show Calls Try.prog 20 #[.int .i64 n, .int .i64 1, .int .i64 128] W fun e w' => e = .returned (.bool false) ∧ W = w' from by rw [← hg]; exact l1In_any _ _ _ _)
    clear hg
    go_enter Try.func6, Try.ntmps6
    go_wp2_with (go_at_call 20; refine (LI _).out.mono ?_; rintro e w' ⟨rfl, rfl⟩)
    refine bodyPost_ret (v := .tuple #[.agg #[.int .i64 0, .slice none 0 0], .bool false]) (by simp [results, Try.results6, go_sem]) rfl ⟨_, rfl, ⟨none, 0, rfl, fun h => by simp at h⟩, (Below.refl _ _).alloc (Nat.le_refl _) _⟩
  | true =>
    rw [(bc_yes hg).1, (bc_yes hg).2]
    have LI := fun W => Lib.hid (show Calls Try.prog 20 #[.int .i64 n, .int .i64 1, .int .i64 128] W fun e w' => e = .returned (.bool true) ∧ W = w' from by rw [← hg]; exact l1In_any _ _ _ _)
    have hb := inB_iff.1 hg
    obtain ⟨m, rfl⟩ : ∃ m : Nat, n = m := ⟨n.toNat, by omega⟩
    have hm : m ≤ 128 := by omega
    have FE := fun W => Lib.hid (caFewest_any (m : Int) W hb.1 hb.2)
    have L7 := flen_le hb.1 hb.2
    rw [Int.toNat_natCast]
    have CB := Lib.hid (fun (k : Nat) (hk : k ≤ 6) W => caBinary_any m k W hm hk)
    obtain ⟨F, eF⟩ : ∃ F, flen (m : Int) = F := ⟨_, rfl⟩
    rw [eF] at FE L7 ⊢
    clear eF hg hb
    obtain ⟨W, eW⟩ : ∃ W, (w.alloc (.cells #[.int .i64 0, .slice none 0 0] 24)).alloc (.cells #[.int .i64 (m : Int), .slice none 0 0] 24) = W := ⟨_, rfl⟩
    have hb0 : Below w.heap.size w W := by rw [← eW]; exact ((Below.refl _ w).alloc (Nat.le_refl _) _).alloc (by simp) _
    have HZ : w.heap.size + 1 + 1 ≤ W.heap.size := by rw [← eW]; simp
    have k1 : W.heap[w.heap.size]? = some (.cells #[.int .i64 0, .slice none 0 0] 24 (0, 0)) := by rw [← eW]; exact blk_a _ _ _
    have k2 : W.heap[w.heap.size + 1]? = some (.cells #[.int .i64 (m : Int), .slice none 0 0] 24 (0, 0)) := by rw [← eW]; exact blk_b _ _ _
    have EW := Lib.hid eW
    clear eW
    go_enter Try.func6, Try.ntmps6
    go_wp2_with (go_at_call 20; refine (LI _).out.mono ?_; rintro e w' ⟨rfl, rfl⟩)
    rw [EW.out]
    clear EW
    go_loopw [5] (fun i wr => ∃ (k : Nat) (s : Value), k ≤ F ∧ i = .int .i64 k ∧ Owa wr (w.heap.size + 1 + 1) wr.heap.size s (bcK m k) ∧ wr.heap[w.heap.size + 1]? = some (.cells #[.int .i64 (m : Int), s] 24 (0, 0)) ∧ wr.heap[w.heap.size]? = some (.cells #[.int .i64 0, .slice none 0 0] 24 (0, 0)) ∧ Below w.heap.size w wr ∧ w.heap.size + 1 + 1 ≤ wr.heap.size) (fun i _ => F - (intOf i).toNat)
    case atStart => exact ⟨0, _, Nat.zero_le _, rfl, Owa.nil _ _ _, k2, k1, hb0, HZ⟩
    case round =>
      clear k1 k2 hb0 HZ
      obtain ⟨k, s, hk, rfl, hD, h2, h1, hb, zW⟩ := hrel
      by_cases hlt : k < F
      · have hL : (cbK k m).length ≤ 128 := by have := cbK_len k m; omega
        have HT := Lib.hid (bcK_succ m k)
        have CK := Lib.hid (CB.out k (by omega))
        have hkl := bcK_len m k
        obtain ⟨L, eL⟩ : ∃ L, cbK k m = L := ⟨_, rfl⟩
        obtain ⟨pl, epl⟩ : ∃ pl, bcK m k = pl := ⟨_, rfl⟩
        rw [eL] at hL HT CK
        rw [epl] at hD HT hkl
        clear eL epl
        obtain ⟨Z, eZ⟩ : ∃ Z, pl ++ [L] = Z := ⟨_, rfl⟩
        rw [eZ] at HT
        have EZ := Lib.hid eZ
        clear eZ
        obtain ⟨sp, sc, rfl⟩ := hD.form
        have OB := Lib.hid hD.out_lt
        obtain ⟨c20, c21, f20, f21⟩ := cells2_of h2
        have HB := Lib.hid hb
        have H1 := Lib.hid h1
        have H2 := Lib.hid h2
        have HD := Lib.hid hD
        have HK := Lib.hid hkl
        clear hb h1 h2 hD hkl
        go_wp2_with (go_at_call 21; refine (FE _).out.mono ?_; rintro e w' ⟨rfl, rfl⟩)
        go_region_law (first
          | (go_simp; go_at_call 22; refine (CK.out _).mono ?_; rintro e w1 ⟨u1, rfl, o1, b1⟩; have B1 : Below wr.heap.size wr w1 := (Below.refl _ _).drew.trans b1; have z1 := B1.size; have D1 := HD.out.below B1 (Nat.le_refl _); have O1 : Ow w1 wr.heap.size u1 L := o1; have K2 := (B1.block (w.heap.size + 1) (by omega)).trans H2.out; obtain ⟨e20, e21, g20, g21⟩ := cells2_of K2; obtain ⟨up, uc, rfl, -⟩ := O1.sv; have K2A : (w1.alloc (.cells #[.slice up L.length uc] 31)).heap[w.heap.size + 1]? = _ := (heap_alloc_old _ _ (by omega)).trans K2; obtain ⟨r20, r21, -, -⟩ := cells2_of K2A; clear b1 o1)
          | (refine step_append_row1 rfl (.tmp 19) (.tmp 23) rfl (w.heap.size + 1 + 1) wr.heap.size (.slice sp pl.length sc) pl rfl (by exact D1.below ((Below.refl _ _).alloc (Nat.le_refl _) _) (Nat.le_refl _)) w1.heap.size (.slice up L.length uc) L rfl (by simp) ((O1.below ((Below.refl _ _).alloc (Nat.le_refl _) _) (Nat.le_refl _)).mono (by omega)) (fun k hk => by have := O1.own_lo k hk; omega) (by have := HK.out; omega) (by simp; omega) ?_; intro v3 w3 h3 b3 g3; rw [EZ.out] at h3; have K3 := (g3.block (w.heap.size + 1) (by simp; omega) (fun e => by obtain ⟨vals, D1⟩ := D1; have := (World.ownsRow.lt D1.out _ e.symm).1; omega)).trans ((heap_alloc_old _ _ (by omega)).trans K2); obtain ⟨i20, i21, j20, j21⟩ := cells2_of K3; obtain ⟨vp, vc, rfl⟩ := h3.form))
        all_goals
          have z3 := g3.size
          have HB3 := Lib.hid ((nxt HB.out B1).trans ((((Below.refl _ w1).alloc (Nat.le_refl _) (.cells #[.slice up L.length uc] 31)).mono (show w.heap.size ≤ w1.heap.size by omega)).trans (b3.mono (by omega))))
          have H13 := Lib.hid ((b3.block w.heap.size (by omega)).trans ((heap_alloc_old _ _ (by omega)).trans ((B1.block w.heap.size (by omega)).trans H1.out)))
          have H23 := Lib.hid K3
          have H33 := Lib.hid h3
          have z4 : w.heap.size + 1 + 1 ≤ w3.heap.size := by simp at z3; omega
          clear b3 g3 h3 K3 K2 K2A D1 B1 O1 e20 e21 g20 g21 r20 r21 c20 c21 f20 f21 HD HB H1 H2 OB CK
          first | go_roundw | (go_wp2; go_roundw)
          case rel => exact ⟨k + 1, _, by omega, by go_num, by rw [← HT.out]; exact (H33.out.abv ((Abv.refl _ _).setCell (g := w.heap.size + 1) (by omega) 1 _)).mono (Nat.le_refl _) (by simp), pair2_set H23.out _, by rw [heap_setCell_other _ _ _ _ (by show w.heap.size ≠ w.heap.size + 1; omega)]; exact H13.out, HB3.out.setCell (p := ⟨w.heap.size + 1, 1, none⟩) (by show w.heap.size ≤ w.heap.size + 1; omega) _, by simp; omega⟩
          case measure => simp only [intOf]; omega
      · have hke : k = F := by omega
        subst hke
        obtain ⟨c20, c21, f20, f21⟩ := cells2_of h2
        obtain ⟨c10, c11, f10, f11⟩ := cells2_of h1
        obtain ⟨sp, sc, rfl⟩ := hD.form
        have HB := Lib.hid hb
        have HD := Lib.hid hD
        clear hb h1 h2 hD
        go_wp2_with (go_at_call 21; refine (FE _).out.mono ?_; rintro e w' ⟨rfl, rfl⟩)
        obtain ⟨fs, hfs⟩ := Try.cardsU
        refine bodyPost_ret (v := .tuple #[.agg #[.int .i64 (m : Int), .slice sp (bcK m k).length sc], .bool true]) (results_twob rfl _ _ w.heap.size _ _ fs rfl ?_ ?_ hfs Try.cardsI _ rfl) rfl ⟨_, rfl, (HD.out.abv (((Abv.refl _ _).setCell (g := w.heap.size) (by omega) 0 _).setCell (g := w.heap.size) (by omega) 1 _)).svv, (HB.out.setCell (p := ⟨w.heap.size, 0, none⟩) (Nat.le_refl _) _).setCell (p := ⟨w.heap.size, 1, none⟩) (Nat.le_refl _) _⟩
        · simp [World.cell?_setCell_other, World.cell?_setCell_same, go_sem, c10]
        · simp [World.cell?_setCell_other, World.cell?_setCell_same, go_sem, c11]
end Go.Proofs.Ytcgifmoddojnmab
