/-
  Coins are counted: the closure that counts kinds, and the deferred one that ends the counting, by their contracts. Conditions: kinds that there are, and no more than there is; amounts of at most 2^20.
-/
import Derived.Test.YtdgadabfahmdmaaVgd
import Derived.Test.YtdgadabfahmdmaaVcu
import Derived.Deep.RegionLaw
import Derived.IntWalk
import Derived.Defers
import Derived.RangeFuncBox
namespace Go.Proofs.Ytdgadabfahmdmaa
open Go.RowKit

/-- The counting's memory: the coins' box, the two results' boxes, the counts, the box of what is left. -/
structure CoJ (w : World) (N b off cap : Nat) (cs : List Nat) (z : List Nat) (l : Nat) (W : World) : Prop where
  coin : Boxed W N 22 (.slice (some ⟨b, off, none⟩) cs.length cap)
  ch : Boxed W (N + 1) 22 (.slice (some ⟨N + 3, 0, none⟩) cs.length cs.length)
  okb : Boxed W (N + 2) 4 (.bool false)
  row : W.rowIs (N + 3) 3 cs.length (fun j => .int .i64 ((z.getD j 0 : Nat) : Int))
  left : Boxed W (N + 4) 3 (.int .i64 (l : Int))
  bel : Below N w W
  len : z.length = cs.length
theorem boxed_keep {W W2 : World} {g : Nat} {t : TypeId} {v : Value} (h : Boxed W g t v) (k : Below W.heap.size W W2) : Boxed W2 g t v := (k.block g h.lt).trans h
theorem rowIs_keep {W W2 : World} {g n : Nat} {t : TypeId} {f : Nat → Value} (h : W.rowIs g t n f) (k : Below W.heap.size W W2) : W2.rowIs g t n f := by
  obtain ⟨c, hc, r⟩ := h
  exact ⟨c, (k.block g (Array.getElem?_eq_some_iff.1 hc).1).trans hc, r⟩
theorem rowIs_other {W : World} {g n : Nat} {t : TypeId} {f : Nat → Value} (h : W.rowIs g t n f) (a : Addr) (v : Value) (hne : g ≠ a.block) : (W.setCell a v).rowIs g t n f := by
  obtain ⟨c, hc, r⟩ := h
  exact ⟨c, by rw [← hc]; simp [World.setCell, Array.getElem?_modify, Ne.symm hne], r⟩
theorem boxed_other {W : World} {g : Nat} {t : TypeId} {v : Value} (h : Boxed W g t v) (a : Addr) (u : Value) (hne : g ≠ a.block) : Boxed (W.setCell a u) g t v := by
  unfold Boxed at *
  rw [← h]; simp [World.setCell, Array.getElem?_modify, Ne.symm hne]
theorem boxed_set {W : World} {g : Nat} {t : TypeId} {v : Value} (h : Boxed W g t v) (u : Value) : Boxed (W.setCell ⟨g, 0, none⟩ u) g t u := by
  unfold Boxed at *
  simp [World.setCell, Array.getElem?_modify, h]
theorem cell_blk {W W2 : World} {g o : Nat} (h : W2.heap[g]? = W.heap[g]?) : W2.cell? ⟨g, o, none⟩ = W.cell? ⟨g, o, none⟩ := by simp only [World.cell?, h]
theorem CoJ.keep {w W W2 : World} {N b off cap : Nat} {cs z : List Nat} {l : Nat} (h : CoJ w N b off cap cs z l W) (k : Below W.heap.size W W2) : CoJ w N b off cap cs z l W2 := by
  have hz : N ≤ W.heap.size := by have := h.coin.lt; omega
  exact ⟨boxed_keep h.coin k, boxed_keep h.ch k, boxed_keep h.okb k, rowIs_keep h.row k, boxed_keep h.left k, h.bel.trans (k.mono hz), h.len⟩
theorem CoJ.drew {w W : World} {N b off cap : Nat} {cs z : List Nat} {l : Nat} (h : CoJ w N b off cap cs z l W) : CoJ w N b off cap cs z l W.drew := ⟨h.coin, h.ch, h.okb, h.row.drew, h.left, h.bel.drew, h.len⟩
/-- One coin counted. -/
theorem CoJ.put {w W : World} {N b off cap : Nat} {cs z : List Nat} {l : Nat} (h : CoJ w N b off cap cs z l W) {k : Nat} (hk : k < cs.length) (x y : Nat) :
    CoJ w N b off cap cs (z.set k x) y ((W.setCell ⟨N + 3, k, none⟩ (.int .i64 (x : Int))).setCell ⟨N + 4, 0, none⟩ (.int .i64 (y : Int))) := by
  have hz := h.len
  refine ⟨boxed_other (boxed_other h.coin _ _ (by show N ≠ N + 3; omega)) _ _ (by show N ≠ N + 4; omega), boxed_other (boxed_other h.ch _ _ (by show N + 1 ≠ N + 3; omega)) _ _ (by show N + 1 ≠ N + 4; omega), boxed_other (boxed_other h.okb _ _ (by show N + 2 ≠ N + 3; omega)) _ _ (by show N + 2 ≠ N + 4; omega), ?_, boxed_set (boxed_other h.left _ _ (by show N + 4 ≠ N + 3; omega)) _, (h.bel.setCell (p := ⟨N + 3, k, none⟩) (by show N ≤ N + 3; omega) _).setCell (p := ⟨N + 4, 0, none⟩) (by show N ≤ N + 4; omega) _, by simp [hz]⟩
  refine rowIs_other ((h.row.set k _).congr (fun j hj => ?_)) _ _ (by show N + 3 ≠ N + 4; omega)
  rw [getD_setN _ _ _ _ (by omega)]
  by_cases e : j = k
  · subst e; simp
  · rw [if_neg e, if_neg e]

set_option maxHeartbeats 4000000 in
set_option maxRecDepth 20000 in
theorem count_any (w : World) (N B b off cap : Nat) (cs z ks : List Nat) (l : Nat) (W : World) (u : Value) (hj : CoJ w N b off cap cs z l W) (hbl : b < N)
    (hcl : ∀ j, j < cs.length → w.cell? ⟨b, off + j, none⟩ = some (.int .i64 ((cs.getD j 0 : Nat) : Int))) (hu : Ow W B u (iL ks)) (hB : N + 5 ≤ B) (hk : ∀ k ∈ ks, k < cs.length) (hle : cost cs ks ≤ l) (hp : Pos cs) (hl : l ≤ 1048576) (hzl : ∀ j, z.getD j 0 ≤ 1048576) (hkl : ks.length ≤ 1048576) :
    Calls Try.prog 83 #[u, .pointer (some ⟨N + 1, 0, none⟩), .pointer (some ⟨N + 4, 0, none⟩), .pointer (some ⟨N, 0, none⟩)] W fun e W' => e = .returned (.bool (decide (0 < ks.length))) ∧ CoJ w N b off cap cs (bump z ks) (l - cost cs ks) W' := by
  have hlen := iL_len ks
  rcases hu.form with ⟨rfl, e0⟩ | ⟨g, c2, rfl, hBg, hgs⟩
  · have e1 : ks = [] := by
      have : ks.length = 0 := by rw [← hlen, e0]; rfl
      exact List.length_eq_zero_iff.1 this
    subst e1
    have HJ := Lib.hid hj
    clear hu hj hcl hk hle hzl e0 hlen
    go_enter Try.func83, Try.ntmps83
    go_wp2
    refine wp_loop_rounds 1 ?_
    rw [rounds_succ]
    go_wp2
    go_ret
    exact ⟨rfl, HJ.out⟩
  · have HX : Hid (∀ j, j < ks.length → W.cell? ⟨g, j, none⟩ = some (.int .i64 ((ks.getD j 0 : Nat) : Int))) := Lib.hid (fun j hj => by
      rw [← iL_at]; exact hu.cellAt rfl (by rw [hlen]; exact hj))
    rw [hlen]
    have HCL := Lib.hid hcl
    have HK := Lib.hid hk
    have HP := Lib.hid hp
    have HLE := Lib.hid hle
    have HZL := Lib.hid hzl
    have HJ := Lib.hid hj
    have hNW := hj.coin.lt
    clear hcl hk hp hle hzl hlen hj hu
    go_enter Try.func83, Try.ntmps83
    go_wp2
    go_loopw [10] (fun i wr => ∃ q : Nat, q ≤ ks.length ∧ i = .int .i64 q ∧ CoJ w N b off cap cs (bump z (ks.take q)) (l - cost cs (ks.take q)) wr ∧ wr.heap[g]? = W.heap[g]?) (fun i _ => ks.length - (intOf i).toNat)
    case atStart => exact ⟨0, Nat.zero_le _, rfl, HJ.out, rfl⟩
    case round =>
      obtain ⟨q, hq, rfl, hJ, hgk⟩ := hrel
      by_cases hlt : q < ks.length
      · have hcK := (cell_blk hgk).trans (HX.out q hlt)
        have hkc := HK.out _ (at_mem hlt)
        have CT := cost_take (cs := cs) hlt
        have BT := bump_take (z := z) hlt
        have CL := cost_le cs ks (q + 1)
        have hc1 := HP.out _ (at_mem hkc)
        have hzb := bump_bd HP.out (ks := ks.take q) (z := z) (fun k hk => HK.out k (List.mem_of_mem_take hk)) (by have := hJ.len; rw [bump_len] at this; exact this) (ks.getD q 0)
        have hzl2 := HZL.out (ks.getD q 0)
        have hle := HLE.out
        have hcc := (hJ.bel.cell (p := ⟨b, off + ks.getD q 0, none⟩) hbl).trans (HCL.out _ hkc)
        obtain ⟨k, ek⟩ : ∃ k, ks.getD q 0 = k := ⟨_, rfl⟩
        rw [ek] at hcK hkc CT BT hc1 hzb hzl2 hcc
        obtain ⟨c, ec⟩ : ∃ c, cs.getD k 0 = c := ⟨_, rfl⟩
        rw [ec] at CT hc1 hcc
        obtain ⟨Z, eZ⟩ : ∃ Z, bump z (ks.take q) = Z := ⟨_, rfl⟩
        rw [eZ] at hJ BT hzb
        obtain ⟨D, eD⟩ : ∃ D, cost cs (ks.take q) = D := ⟨_, rfl⟩
        rw [eD] at hJ CT hzb
        rw [CT] at CL
        have CT := Lib.hid CT
        have BT := Lib.hid BT
        have x1 := hJ.ch.cell
        have x2 := hJ.left.cell
        have x3 := hJ.left.frozen
        have x4 := hJ.coin.cell
        have x5 := hJ.row.cell (i := k) hkc
        have x6 := hJ.row.frozen k
        have PUT := Lib.hid (hJ.put hkc (Z.getD k 0 + 1) (l - (D + c)))
        have PGK : Hid (((wr.setCell ⟨N + 3, k, none⟩ (.int .i64 ((Z.getD k 0 + 1 : Nat) : Int))).setCell ⟨N + 4, 0, none⟩ (.int .i64 ((l - (D + c) : Nat) : Int))).heap[g]? = W.heap[g]?) := Lib.hid (by
          rw [Below.heap_setCell _ _ _ _ (by show g ≠ N + 4; omega), Below.heap_setCell _ _ _ _ (by show g ≠ N + 3; omega)]; exact hgk)
        obtain ⟨y, ey⟩ : ∃ y, Z.getD k 0 = y := ⟨_, rfl⟩
        rw [ey] at x5 PUT PGK BT hzb
        obtain ⟨r, er⟩ : ∃ r, l - D = r := ⟨_, rfl⟩
        rw [er] at x2
        have hr : l - (D + c) = r - c := by omega
        rw [hr] at PUT PGK
        have n1 : ((y + 1 : Nat) : Int) = (y : Int) + 1 := by omega
        have n2 : ((r - c : Nat) : Int) = (r : Int) - c := by omega
        rw [n1, n2] at PUT PGK
        have CT2 : Hid (l - cost cs (ks.take (q + 1)) = r - c) := Lib.hid (by rw [CT.out]; exact hr)
        have x7 : (wr.setCell ⟨N + 3, k, none⟩ (.int .i64 ((y : Int) + 1))).cell? ⟨N + 4, 0, none⟩ = some (.int .i64 (r : Int)) := (World.cell?_setCell_other _ _ _ _ (by simp)).trans x2
        have x8 : (wr.setCell ⟨N + 3, k, none⟩ (.int .i64 ((y : Int) + 1))).cell? ⟨N, 0, none⟩ = some (.slice (some ⟨b, off, none⟩) cs.length cap) := (World.cell?_setCell_other _ _ _ _ (by simp)).trans x4
        have hbn : b ≠ N + 3 := by omega
        have x9 : (wr.setCell ⟨N + 3, k, none⟩ (.int .i64 ((y : Int) + 1))).cell? ⟨b, off + k, none⟩ = some (.int .i64 (c : Int)) := (World.cell?_setCell_other _ _ _ _ (by intro e; simp only [Addr.mk.injEq] at e; omega)).trans hcc
        have x10 : (wr.setCell ⟨N + 3, k, none⟩ (.int .i64 ((y : Int) + 1))).frozen? ⟨N + 4, 0, none⟩ = false := (World.frozen?_setCell _ _ _ _).trans x3
        have j0 : (0 : Int) ≤ k := by omega
        have j1 : (k : Int) < cs.length := by omega
        have j2 : (0 : Int) ≤ q := by omega
        have j3 : (q : Int) < ks.length := by omega
        have hw1 : IntKind.i64.wrap ((y : Int) + 1) = (y : Int) + 1 := IntWalk.i64_in _ (by omega)
        have hw2 : IntKind.i64.wrap ((r : Int) - c) = (r : Int) - c := IntWalk.i64_in _ (by omega)
        have HJQ := Lib.hid hJ
        clear hJ ek ec eZ eD ey er hgk hzb hzl2 hle CL n1 n2 hr
        go_wp2
        go_region_law (fail)
        all_goals
          go_wp2
          go_roundw
          case rel =>
            refine ⟨q + 1, by omega, by go_num, ?_, PGK.out⟩
            rw [BT.out, CT2.out]
            exact PUT.out.drew
          case measure => simp only [intOf]; omega
      · have hqe : q = ks.length := by omega
        subst hqe
        have HJ2 := Lib.hid hJ
        clear hJ hgk
        go_wp2
        go_ret
        refine ⟨ret_bool (by simp), ?_⟩
        have := HJ2.out
        rw [List.take_length] at this
        exact this

theorem end_idle (N : Nat) (W : World) (h : W.cell? ⟨N + 4, 0, none⟩ = some (.int .i64 0)) :
    CallsD Try.prog 84 #[.pointer (some ⟨N + 4, 0, none⟩), .pointer (some ⟨N + 1, 0, none⟩), .pointer (some ⟨N + 2, 0, none⟩)] .returning W fun e u' w' => u' = .returning ∧ (e = .returned (.tuple #[]) ∧ w' = W) := by
  go_enter_d Try.func84, Try.ntmps84
  go_wp2
  go_end0
  exact ⟨rfl, rfl⟩
theorem end_fail (N l : Nat) (hl : 0 < l) (W : World) (h : W.cell? ⟨N + 4, 0, none⟩ = some (.int .i64 (l : Int))) (x y : Value) (h1 : W.cell? ⟨N + 1, 0, none⟩ = some x) (f1 : W.frozen? ⟨N + 1, 0, none⟩ = false) (h2 : W.cell? ⟨N + 2, 0, none⟩ = some y) (f2 : W.frozen? ⟨N + 2, 0, none⟩ = false) :
    CallsD Try.prog 84 #[.pointer (some ⟨N + 4, 0, none⟩), .pointer (some ⟨N + 1, 0, none⟩), .pointer (some ⟨N + 2, 0, none⟩)] .returning W fun e u' w' => u' = .returning ∧ (e = .returned (.tuple #[]) ∧ w' = (W.setCell ⟨N + 1, 0, none⟩ (.slice none 0 0)).setCell ⟨N + 2, 0, none⟩ (.bool false)) := by
  have hd : (0 : Int) < l := by omega
  have h3 : (W.setCell ⟨N + 1, 0, none⟩ (.slice none 0 0)).cell? ⟨N + 2, 0, none⟩ = some y := (World.cell?_setCell_other _ _ _ _ (by simp)).trans h2
  go_enter_d Try.func84, Try.ntmps84
  go_wp2
  go_end0
  exact ⟨rfl, rfl⟩
end Go.Proofs.Ytdgadabfahmdmaa
