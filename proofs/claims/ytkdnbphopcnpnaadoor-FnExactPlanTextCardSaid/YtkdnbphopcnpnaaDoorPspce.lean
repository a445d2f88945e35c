/-
  The model's helpers on plans, by their contracts: what is held, what is in one list and not in another, moves, the day before. Condition: slices of at most 2^20 numbers in all.
-/
import Derived.Test.YtkdnbphopcnpnaaDoorPdaye
namespace Go.Proofs.YtkdnbphopcnpnaaDoor
open Go.RowKit

theorem befL_succ (pl : List (List Int)) (d : Nat) : befL pl (d + 1) = rowL pl d := rfl
set_option maxHeartbeats 1000000 in
theorem paBefore_any (u : Value) (pl : List (List Int)) (d : Nat) (w : World) (hu : Svv w u pl) (hd : d < pl.length) (hn : pl.length ≤ 1048576) :
    Calls Tryd.prog 15 #[u, .int .i64 d] w fun e w' => ∃ r, e = .returned r ∧ Sv w r (befL pl d) ∧ w = w' := by
  obtain ⟨p, cap, rfl, hx⟩ := hu
  cases d with
  | zero =>
    go_enter Tryd.func15, Tryd.ntmps15
    go_wp2
    go_ret
    exact ⟨_, rfl, sv_nil w, rfl⟩
  | succ d =>
    obtain ⟨b, off, rfl, hbl, hc⟩ := hx (by omega)
    obtain ⟨u0, hcell, hs0⟩ := hc d (by omega)
    have HS := Lib.hid hs0
    have hd0 : (0 : Int) ≤ d := by omega
    have hd1 : (d : Int) < pl.length := by omega
    have z : (((d + 1 : Nat) : Int) == 0) = false := by rw [beq_eq_false_iff_ne]; omega
    clear hx hc hs0
    go_enter Tryd.func15, Tryd.ntmps15
    go_wp2
    go_ret
    exact ⟨_, rfl, by rw [befL_succ]; exact HS.out, rfl⟩

set_option maxHeartbeats 1000000 in
set_option maxRecDepth 20000 in
theorem l1Has_any (v : Value) (ys : List Int) (x : Int) (w : World) (h : Sv w v ys) (hl : ys.length ≤ 1099511627776) :
    Calls Tryd.prog 22 #[v, .int .i64 x] w fun e w' => e = .returned (.bool (decide (x ∈ ys))) ∧ w = w' := by
  obtain ⟨p, cap, rfl, hx⟩ := h
  go_enter Tryd.func22, Tryd.ntmps22
  go_wp2
  go_loop [9] (fun i => ∃ k : Nat, k ≤ ys.length ∧ i = .int .i64 k ∧ Hid (x ∉ ys.take k)) (fun i => ys.length - (intOf i).toNat)
  case atStart => exact ⟨0, Nat.zero_le _, rfl, Lib.hid (by simp)⟩
  case round =>
    obtain ⟨k, hk, rfl, HN⟩ := hrel
    by_cases hlt : k < ys.length
    · obtain ⟨b, off, rfl, hbl, hc⟩ := hx (by omega)
      have hcell := hc k hlt
      have T : Hid (ys.take (k + 1) = ys.take k ++ [ys.getD k 0]) := Lib.hid (by rw [List.take_add_one, List.getElem?_eq_getElem hlt, List.getD_eq_getElem?_getD, List.getElem?_eq_getElem hlt]; rfl)
      have M : Hid (ys.getD k 0 ∈ ys) := Lib.hid (by rw [List.getD_eq_getElem?_getD, List.getElem?_eq_getElem hlt]; exact List.getElem_mem hlt)
      obtain ⟨y, ey⟩ : ∃ y, ys.getD k 0 = y := ⟨_, rfl⟩
      rw [ey] at hcell T M
      clear hc hx ey
      by_cases hxy : y = x
      · subst hxy
        go_wp2
        go_ret
        exact ⟨ret_bool (by simpa using M.out), rfl⟩
      · have d : (y == x) = false := by simpa using hxy
        have HX := Lib.hid hxy
        clear hxy
        go_wp2
        go_round
        case rel => exact ⟨k + 1, by omega, by go_num, Lib.hid (by rw [T.out, List.mem_append]; rintro (h | h); exact HN.out h; exact HX.out (List.mem_singleton.1 h).symm)⟩
        case measure => simp [intOf]; omega
    · clear hx
      go_wp2
      go_ret
      have hke : k = ys.length := by omega
      have e := HN.out
      rw [hke, List.take_length] at e
      exact ⟨ret_bool (by simpa using e), rfl⟩

def onlyK (a b : List Int) (k : Nat) : List Int := onlyL (a.take k) b
theorem onlyK_step {a b : List Int} {k : Nat} {x : Int} (hk : k < a.length) (hx : a.getD k 0 = x) : onlyK a b (k + 1) = onlyK a b k ++ (if decide (x ∈ b) = true then [] else [x]) := by
  unfold onlyK onlyL
  have : a.take (k + 1) = a.take k ++ [x] := by
    rw [List.take_add_one, List.getElem?_eq_getElem hk]
    rw [List.getD_eq_getElem?_getD, List.getElem?_eq_getElem hk] at hx
    simp only [Option.getD_some] at hx
    rw [hx]; rfl
  rw [this, List.filter_append]
  congr 1
  by_cases h : x ∈ b <;> simp [h]
theorem onlyK_len (a b : List Int) (k : Nat) : (onlyK a b k).length ≤ k := Nat.le_trans (only_len _ _) (by rw [List.length_take]; omega)

set_option maxHeartbeats 2000000 in
set_option maxRecDepth 20000 in
theorem paOnly_any (v u : Value) (xs ys : List Int) (w : World) (hv : Sv w v xs) (hu : Sv w u ys) (h8 : xs.length ≤ 8) (h9 : ys.length ≤ 8) :
    Calls Tryd.prog 14 #[v, u] w fun e w' => ∃ r, e = .returned r ∧ Ow w' w.heap.size r (onlyL xs ys) ∧ Below w.heap.size w w' := by
  have HU := Lib.hid hu
  clear hu
  obtain ⟨p, cap, rfl, hx⟩ := hv
  go_enter Tryd.func14, Tryd.ntmps14
  go_wp2
  go_loopw [5, 10] (fun t i wr => ∃ k : Nat, k ≤ xs.length ∧ i = .int .i64 k ∧ Ow wr w.heap.size t (onlyK xs ys k) ∧ Below w.heap.size w wr) (fun _ i _ => xs.length - (intOf i).toNat)
  case atStart => exact ⟨0, Nat.zero_le _, rfl, World.ownsRow_nil _ _ _ _, Below.refl _ _⟩
  case round =>
    obtain ⟨k, hk, rfl, ho, hb⟩ := hrel
    have hz := hb.size
    have hol := onlyK_len xs ys k
    by_cases hlt : k < xs.length
    · obtain ⟨b, off, rfl, hbl, hc⟩ := hx (by omega)
      have hcell := (hb.cell (p := ⟨b, off + k, none⟩) hbl).trans (hc k hlt)
      obtain ⟨x, ex⟩ : ∃ x, xs.getD k 0 = x := ⟨_, rfl⟩
      rw [ex] at hcell
      have S := onlyK_step (b := ys) hlt ex
      have HAS := Lib.hid (l1Has_any _ _ x _ (HU.out.below hb (Nat.le_refl _)) (by omega))
      clear hc hx ex
      by_cases hm : decide (x ∈ ys) = true
      · rw [if_pos hm, List.append_nil] at S
        have S := Lib.hid S
        rw [hm] at HAS
        clear hm
        go_wp2_with (go_at_call 22; refine HAS.out.mono ?_; rintro e w2 ⟨rfl, rfl⟩)
        go_roundw
        case rel => exact ⟨k + 1, by omega, by go_num, by rw [S.out]; exact ho, hb⟩
        case measure => simp only [intOf]; omega
      · rw [if_neg hm] at S
        have hm : decide (x ∈ ys) = false := by simpa using hm
        have S := Lib.hid S
        rw [hm] at HAS
        clear hm
        go_wp2_with (first | (at_builtin; refine wpList_append_src rfl _ _ rfl w.heap.size _ (onlyK xs ys k) rfl (ho.alloc _) _ [x] rfl (src_one _ _) (by simp only [List.length_cons, List.length_nil]; omega) (by simp; omega) ?_; intro v' w3 h3 g3) | (go_at_call 22; refine HAS.out.mono ?_; rintro e w2 ⟨rfl, rfl⟩))
        have b3 := (hb.alloc hz _).trans ((ho.alloc _).grown (by simp; omega) g3)
        clear ho g3 hb HAS
        go_roundw
        case rel => exact ⟨k + 1, by omega, by go_num, by rw [S.out]; exact h3, b3⟩
        case measure => simp only [intOf]; omega
    · clear hx
      go_wp2
      go_ret
      have hke : k = xs.length := by omega
      have e : onlyK xs ys k = onlyL xs ys := by rw [hke]; unfold onlyK; rw [List.take_length]
      rw [e] at ho
      exact ⟨_, rfl, ho, hb⟩


end Go.Proofs.YtkdnbphopcnpnaaDoor
