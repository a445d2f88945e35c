/-
  A mark is dropped: whether a number is there, whether a place lies between the ends, marks without one, and DropMark in the model, by their contracts. Condition: slices of at most 2^40 numbers.
-/
import Derived.Test.YthienikceehcoaaRsp
namespace Go.Proofs.Ythienikceehcoaa
open Go.RowKit

set_option maxHeartbeats 1000000 in
set_option maxRecDepth 20000 in
theorem l1Has_any (v : Value) (ys : List Int) (x : Int) (w : World) (h : Sv w v ys) (hl : ys.length ≤ 1099511627776) :
    Calls Try.prog 25 #[v, .int .i64 x] w fun e w' => e = .returned (.bool (decide (x ∈ ys))) ∧ w = w' := by
  obtain ⟨p, cap, rfl, hx⟩ := h
  go_enter Try.func25, Try.ntmps25
  go_wp2
  go_loop [9] (fun i => ∃ k : Nat, k ≤ ys.length ∧ i = .int .i64 k ∧ Hid (x ∉ ys.take k)) (fun i => ys.length - (intOf i).toNat)
  case atStart => exact ⟨0, Nat.zero_le _, rfl, Lib.hid (by simp)⟩
  case round =>
    obtain ⟨k, hk, rfl, HN⟩ := hrel
    by_cases hlt : k < ys.length
    · obtain ⟨b, off, rfl, hbl, hc⟩ := hx (by omega)
      have hcell := hc k hlt
      have T : Hid (ys.take (k + 1) = ys.take k ++ [ys.getD k 0]) := Lib.hid (by rw [List.take_add_one, List.getElem?_eq_getElem hlt, List.getD_eq_getElem?_getD, List.getElem?_eq_getElem hlt]; rfl)
      have M : Hid (ys.getD k 0 ∈ ys) := Lib.hid (by rw [List.getD_eq_getElem?_getD, List.getElem?_eq_getElem hlt]; exact List.getElem_mem hlt)
      obtain ⟨y, ey⟩ : ∃ y, ys.getD k 0 = y := ⟨_, rfl⟩
      rw [ey] at hcell T M
      clear hc hx ey
      by_cases hxy : y = x
      · subst hxy
        go_wp2
        go_ret
        exact ⟨ret_bool (by simpa using M.out), rfl⟩
      · have d : (y == x) = false := by simpa using hxy
        have HX := Lib.hid hxy
        clear hxy
        go_wp2
        go_round
        case rel => exact ⟨k + 1, by omega, by go_num, Lib.hid (by rw [T.out, List.mem_append]; rintro (h | h); exact HN.out h; exact HX.out (List.mem_singleton.1 h).symm)⟩
        case measure => simp [intOf]; omega
    · clear hx
      go_wp2
      go_ret
      have hke : k = ys.length := by omega
      have e := HN.out
      rw [hke, List.take_length] at e
      exact ⟨ret_bool (by simpa using e), rfl⟩

def drL (ms : List Int) (x : Int) : List Int := ms.filter fun m => !(m == x)
theorem drL_len (ms : List Int) (x : Int) : (drL ms x).length ≤ ms.length := List.length_filter_le _ _
theorem drK_yes {ms : List Int} {x y : Int} {k : Nat} (hk : k < ms.length) (hy : ms.getD k 0 = y) (h : (y == x) = false) : drL (ms.take (k + 1)) x = drL (ms.take k) x ++ [y] := by
  unfold drL
  rw [List.take_add_one, List.getElem?_eq_getElem hk, List.filter_append]
  have e : ms[k] = y := by rw [← hy, List.getD_eq_getElem?_getD, List.getElem?_eq_getElem hk]; rfl
  rw [e]
  simp [h]
theorem drK_no {ms : List Int} {x y : Int} {k : Nat} (hk : k < ms.length) (hy : ms.getD k 0 = y) (h : (y == x) = true) : drL (ms.take (k + 1)) x = drL (ms.take k) x := by
  unfold drL
  rw [List.take_add_one, List.getElem?_eq_getElem hk, List.filter_append]
  have e : ms[k] = y := by rw [← hy, List.getD_eq_getElem?_getD, List.getElem?_eq_getElem hk]; rfl
  rw [e]
  simp [h]
set_option maxHeartbeats 4000000 in
set_option maxRecDepth 20000 in
theorem ruDrop_any (v : Value) (ms : List Int) (x : Int) (w : World) (h : Sv w v ms) (hl : ms.length ≤ 1073741824) :
    Calls Try.prog 30 #[v, .int .i64 x] w fun e w' => ∃ u, e = .returned u ∧ Ow w' w.heap.size u (drL ms x) ∧ Below w.heap.size w w' := by
  obtain ⟨p, cap, rfl, hx⟩ := h
  have HX := Lib.hid hx
  clear hx
  go_enter Try.func30, Try.ntmps30
  go_wp2
  go_loopw [5, 10] (fun t i wr => ∃ k : Nat, k ≤ ms.length ∧ i = .int .i64 k ∧ Ow wr w.heap.size t (drL (ms.take k) x) ∧ Below w.heap.size w wr) (fun _ i _ => ms.length - (intOf i).toNat)
  case atStart => exact ⟨0, Nat.zero_le _, rfl, World.ownsRow_nil _ _ _ _, Below.refl _ _⟩
  case round =>
    obtain ⟨k, hk, rfl, ho, hb⟩ := hrel
    have hz := hb.size
    have hdl : (drL (ms.take k) x).length ≤ ms.length := Nat.le_trans (drL_len _ _) (by rw [List.length_take]; omega)
    by_cases hlt : k < ms.length
    · obtain ⟨b, off, rfl, hbl, hc⟩ := HX.out (by omega)
      have hcell := (hb.cell (p := ⟨b, off + k, none⟩) hbl).trans (hc k hlt)
      obtain ⟨y, ey⟩ : ∃ y, ms.getD k 0 = y := ⟨_, rfl⟩
      rw [ey] at hcell
      by_cases hxy : (y == x) = true
      · have S2 := Lib.hid (drK_no hlt ey hxy)
        clear hc ey
        go_wp2
        go_roundw
        case rel => exact ⟨k + 1, by omega, by go_num, by rw [S2.out]; exact ho, hb⟩
        case measure => simp only [intOf]; omega
      · have hxy : (y == x) = false := by simpa using hxy
        have S2 := Lib.hid (drK_yes hlt ey hxy)
        clear hc ey
        go_wp2_with (at_builtin; refine wpList_append_src rfl _ _ rfl w.heap.size _ (drL (ms.take k) x) rfl (ho.alloc _) _ [y] rfl (src_one _ _) (by simp only [List.length_cons, List.length_nil]; omega) (by simp; omega) ?_; intro v' w3 h3 g3)
        have b3 := (hb.alloc hz _).trans ((ho.alloc _).grown (by simp; omega) g3)
        clear ho g3 hb
        go_roundw
        case rel => exact ⟨k + 1, by omega, by go_num, by rw [S2.out]; exact h3, b3⟩
        case measure => simp only [intOf]; omega
    · have hke : k = ms.length := by omega
      subst hke
      rw [List.take_length] at ho
      go_wp2
      go_ret
      exact ⟨_, rfl, ho, hb⟩

/-- A ruler and a place between its ends. -/
noncomputable def inrB (ms : List Int) (a : Int) : Bool := rulB ms && inB a 1 (lastM ms - 1)
set_option maxHeartbeats 4000000 in
set_option maxRecDepth 20000 in
theorem ruInner_any (v : Value) (ms : List Int) (a1 : Int) (w : World) (h : Sp w v ms) (hl : ms.length ≤ 1099511627776) :
    Calls Try.prog 24 #[v, .int .i64 a1] w fun e w' => e = .returned (.bool (inrB ms a1)) ∧ Below w.heap.size w w' := by
  have RG := Lib.hid (ruGood_any v ms w h.sv hl)
  by_cases hg : rulB ms = true
  · have S := rulB_iff.1 hg
    have hlb := S.last_bd
    have h2 := S.two
    have Q := Lib.hid (show inrB ms a1 = inB a1 1 (lastM ms - 1) by simp [inrB, hg])
    obtain ⟨b, off, cap, rfl, hcap, hcm, hbl, hc⟩ := h
    obtain ⟨n, hn⟩ : ∃ n, ms.length = n + 1 := ⟨ms.length - 1, by omega⟩
    have hcell0 : w.cell? ⟨b, off + n, none⟩ = some (.int .i64 (lastM ms)) := by
      have := hc n (by omega)
      rw [this]; unfold lastM; rw [hn]; rfl
    obtain ⟨l, el⟩ : ∃ l, lastM ms = l := ⟨_, rfl⟩
    rw [el] at hcell0 hlb Q
    rw [hg, hn] at RG
    rw [hn]
    have hw : IntKind.i64.wrap (l - 1) = l - 1 := IntWalk.i64_in _ (by omega)
    clear S hc hcm hcap el
    go_enter Try.func24, Try.ntmps24
    go_wp2_with fail
    refine RG.out.mono ?_
    rintro e w1 ⟨rfl, b1⟩
    have hcell := (b1.cell (p := ⟨b, off + n, none⟩) hbl).trans hcell0
    go_wp2_with fail
    refine (l1In_any _ _ _ _).mono ?_
    rintro e w1' ⟨rfl, rfl⟩
    go_wp2_with fail
    go_ret
    exact ⟨ret_bool Q.out.symm, b1⟩
  · have hg : rulB ms = false := by simpa using hg
    have Q := Lib.hid (show inrB ms a1 = false by simp [inrB, hg])
    rw [hg] at RG
    clear h
    go_enter Try.func24, Try.ntmps24
    go_wp2_with fail
    refine RG.out.mono ?_
    rintro e w1 ⟨rfl, b1⟩
    go_wp2_with fail
    go_ret
    exact ⟨ret_bool Q.out.symm, b1⟩

noncomputable def dmB (ms : List Int) (a : Int) : Bool := inrB ms a && decide (a ∈ ms)
noncomputable def dmR (ms : List Int) (a : Int) : List Int := if dmB ms a = true then drL ms a else []
theorem dmR_len (ms : List Int) (a : Int) (hl : ms.length ≤ 1099511627776) : (dmR ms a).length ≤ 1099511627776 := by
  unfold dmR
  split
  · have := drL_len ms a; omega
  · simp
set_option maxHeartbeats 4000000 in
set_option maxRecDepth 20000 in
theorem specDropMark_any (v : Value) (ms : List Int) (a1 : Int) (w : World) (h : Sp w v ms) (hl : ms.length ≤ 1099511627776) :
    Calls Try.prog 15 #[v, .int .i64 a1] w fun e w' => ∃ u, e = .returned (.tuple #[u, .bool (dmB ms a1)]) ∧ Ow w' w.heap.size u (dmR ms a1) ∧ Below w.heap.size w w' := by
  have HS := Lib.hid h.sv
  have RI := Lib.hid (ruInner_any v ms a1 w h hl)
  by_cases hi : inrB ms a1 = true
  · have hl3 : ms.length ≤ 61 := by
      simp only [inrB, Bool.and_eq_true] at hi
      exact (rulB_iff.1 hi.1).last_bd.2.2
    have R := Lib.hid (show dmB ms a1 = decide (a1 ∈ ms) by simp [dmB, hi])
    rw [hi] at RI
    by_cases hm : a1 ∈ ms
    · have R2 := Lib.hid (show dmB ms a1 = true by rw [R.out]; simpa using hm)
      have Q := Lib.hid (show dmR ms a1 = drL ms a1 by simp [dmR, R2.out])
      have dm : decide (a1 ∈ ms) = true := by simpa using hm
      clear h hm
      go_enter Try.func15, Try.ntmps15
      go_wp2_with fail
      refine RI.out.mono ?_
      rintro e w1 ⟨rfl, b1⟩
      go_wp2_with fail
      refine (l1Has_any _ ms _ _ (HS.out.below b1 (Nat.le_refl _)) hl).mono ?_
      rw [dm]
      rintro e w1' ⟨rfl, rfl⟩
      go_wp2_with fail
      refine (ruDrop_any _ ms _ _ (HS.out.below b1 (Nat.le_refl _)) (by omega)).mono ?_
      rintro e w2 ⟨u, rfl, o, b2⟩
      have o := o.mono b1.size
      go_wp2_with fail
      go_ret2
      exact ⟨_, ret_lb rfl R2.out.symm, by rw [Q.out]; exact o, nxt b1 b2⟩
    · have R2 := Lib.hid (show dmB ms a1 = false by rw [R.out]; simpa using hm)
      have Q := Lib.hid (show dmR ms a1 = [] by simp [dmR, R2.out])
      have dm : decide (a1 ∈ ms) = false := by simpa using hm
      clear h hm
      go_enter Try.func15, Try.ntmps15
      go_wp2_with fail
      refine RI.out.mono ?_
      rintro e w1 ⟨rfl, b1⟩
      go_wp2_with fail
      refine (l1Has_any _ ms _ _ (HS.out.below b1 (Nat.le_refl _)) hl).mono ?_
      rw [dm]
      rintro e w1' ⟨rfl, rfl⟩
      go_wp2_with fail
      go_ret2
      exact ⟨_, ret_lb rfl R2.out.symm, by rw [Q.out]; exact World.ownsRow_nil _ _ _ _, b1⟩
  · have hi : inrB ms a1 = false := by simpa using hi
    have R2 := Lib.hid (show dmB ms a1 = false by simp [dmB, hi])
    have Q := Lib.hid (show dmR ms a1 = [] by simp [dmR, R2.out])
    rw [hi] at RI
    clear h
    go_enter Try.func15, Try.ntmps15
    go_wp2_with fail
    refine RI.out.mono ?_
    rintro e w1 ⟨rfl, b1⟩
    go_wp2_with fail
    go_ret2
    exact ⟨_, ret_lb rfl R2.out.symm, by rw [Q.out]; exact World.ownsRow_nil _ _ _ _, b1⟩
end Go.Proofs.Ythienikceehcoaa
