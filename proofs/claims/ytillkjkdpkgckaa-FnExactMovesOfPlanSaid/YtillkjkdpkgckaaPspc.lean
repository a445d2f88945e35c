/-
  The model's helpers on plans, by their contracts: what is held, what is in one list and not in another, moves, the day before. Condition: slices of at most 2^20 numbers in all.
-/
import Derived.Test.YtillkjkdpkgckaaPday
namespace Go.Proofs.Ytillkjkdpkgckaa
open Go.RowKit

/-- A day of a plan. -/
noncomputable def dayB (xs : List Int) (pl : List (List Int)) (a : Int) : Bool := okP xs pl && inB a 0 ((pl.length : Int) - 1)
theorem dayB_no {xs : List Int} {pl : List (List Int)} {a : Int} (h : okP xs pl = false) : dayB xs pl a = false := by simp [dayB, h]
structure DayIs (xs : List Int) (pl : List (List Int)) (d : Nat) : Prop where
  good : Good xs
  few : xs.length ≤ 8
  ok : PlanOk xs.length pl
  lt : d < pl.length
  fewB : fewB xs = true
  planB : planB xs.length pl = true
theorem dayB_iff {xs : List Int} {pl : List (List Int)} {a : Int} (h : dayB xs pl a = true) : ∃ d : Nat, a = d ∧ DayIs xs pl d := by
  simp only [dayB, Bool.and_eq_true] at h
  obtain ⟨h1, h2⟩ := h
  have h3 := okP_iff h1
  have h4 := inB_iff.1 h2
  exact ⟨a.toNat, by omega, ⟨(fewB_iff h3.1).1, (fewB_iff h3.1).2, planB_iff.1 h3.2, by omega, h3.1, h3.2⟩⟩

set_option maxHeartbeats 2000000 in
set_option maxRecDepth 20000 in
theorem paDay_any (v u : Value) (xs : List Int) (pl : List (List Int)) (a : Int) (w : World) (hv : Sv w v xs) (hu : Svv w u pl) (hl : xs.length ≤ 1099511627776) (hf : Few2 pl) :
    Calls Try.prog 60 #[v, u, .int .i64 a] w fun e w' => e = .returned (.bool (dayB xs pl a)) ∧ Below w.heap.size w w' := by
  have HV := Lib.hid hv
  have HU := Lib.hid hu
  have HF := Lib.hid hf
  have hn : pl.length ≤ 1048576 := by unfold Few2 at hf; omega
  obtain ⟨p, cap, rfl, hx⟩ := hu
  clear hv hf hx
  by_cases hg : fewB xs = true
  · by_cases hp : planB xs.length pl = true
    · have R : Hid (dayB xs pl a = inB a 0 ((pl.length : Int) - 1)) := Lib.hid (by simp [dayB, okP_yes hg hp])
      go_enter Try.func60, Try.ntmps60
      go_wp2_with fail
      refine (paFew_any _ _ _ HV.out hl).mono ?_
      rintro e w1 ⟨rfl, b1⟩
      go_wp2_with fail
      refine (paPlan_any _ _ _ _ _ (HV.out.below b1 (Nat.le_refl _)) (HU.out.below b1 (Nat.le_refl _)) hl HF.out).mono ?_
      rintro e w2 ⟨rfl, b2⟩
      go_wp2_with fail
      refine (l1In_any _ _ _ _).mono ?_
      rintro e w3 ⟨rfl, rfl⟩
      go_wp2_with fail
      go_ret
      exact ⟨ret_bool R.out.symm, nxt b1 b2⟩
    · have hp : planB xs.length pl = false := by simpa using hp
      have R := Lib.hid (dayB_no (a := a) (okP_plan (xs := xs) hp))
      go_enter Try.func60, Try.ntmps60
      go_wp2_with fail
      refine (paFew_any _ _ _ HV.out hl).mono ?_
      rintro e w1 ⟨rfl, b1⟩
      go_wp2_with fail
      refine (paPlan_any _ _ _ _ _ (HV.out.below b1 (Nat.le_refl _)) (HU.out.below b1 (Nat.le_refl _)) hl HF.out).mono ?_
      rintro e w2 ⟨rfl, b2⟩
      go_wp2_with fail
      go_ret
      exact ⟨ret_bool R.out.symm, nxt b1 b2⟩
  · have hg : fewB xs = false := by simpa using hg
    have R := Lib.hid (dayB_no (a := a) (okP_few (pl := pl) hg))
    go_enter Try.func60, Try.ntmps60
    go_wp2_with fail
    refine (paFew_any _ _ _ HV.out hl).mono ?_
    rintro e w1 ⟨rfl, b1⟩
    go_wp2_with fail
    go_ret
    exact ⟨ret_bool R.out.symm, b1⟩

theorem befL_succ (pl : List (List Int)) (d : Nat) : befL pl (d + 1) = rowL pl d := rfl
set_option maxHeartbeats 1000000 in
theorem paBefore_any (u : Value) (pl : List (List Int)) (d : Nat) (w : World) (hu : Svv w u pl) (hd : d < pl.length) (hn : pl.length ≤ 1048576) :
    Calls Try.prog 62 #[u, .int .i64 d] w fun e w' => ∃ r, e = .returned r ∧ Sv w r (befL pl d) ∧ w = w' := by
  obtain ⟨p, cap, rfl, hx⟩ := hu
  cases d with
  | zero =>
    go_enter Try.func62, Try.ntmps62
    go_wp2
    go_ret
    exact ⟨_, rfl, sv_nil w, rfl⟩
  | succ d =>
    obtain ⟨b, off, rfl, hbl, hc⟩ := hx (by omega)
    obtain ⟨u0, hcell, hs0⟩ := hc d (by omega)
    have HS := Lib.hid hs0
    have hd0 : (0 : Int) ≤ d := by omega
    have hd1 : (d : Int) < pl.length := by omega
    have z : (((d + 1 : Nat) : Int) == 0) = false := by rw [beq_eq_false_iff_ne]; omega
    clear hx hc hs0
    go_enter Try.func62, Try.ntmps62
    go_wp2
    go_ret
    exact ⟨_, rfl, by rw [befL_succ]; exact HS.out, rfl⟩

set_option maxHeartbeats 1000000 in
set_option maxRecDepth 20000 in
theorem paHeld_any (v u : Value) (xs ys : List Int) (w : World) (hv : Sv w v xs) (hu : Sv w u ys) (hg : Good xs) (h8 : xs.length ≤ 8) (hr : Rs 0 ((xs.length : Int) - 1) ys) :
    Calls Try.prog 61 #[v, u] w fun e w' => e = .returned (.int .i64 (sumAt xs 0 ys)) ∧ w = w' := by
  obtain ⟨q, cap1, rfl, hq⟩ := hv
  obtain ⟨p, cap, rfl, hx⟩ := hu
  have hl8 := (hr.mono (Int.le_refl _) (by omega) : Rs 0 7 ys).len
  have HG := Lib.hid hg
  have HR := Lib.hid hr
  clear hg hr
  go_enter Try.func61, Try.ntmps61
  go_wp2
  go_loop [5, 10] (fun t i => ∃ (k : Nat) (s : Int), k ≤ ys.length ∧ i = .int .i64 k ∧ t = .int .i64 s ∧ 0 ≤ s ∧ s ≤ 10000 * k ∧ Hid (sumAt xs 0 (ys.take k) = s)) (fun _ i => ys.length - (intOf i).toNat)
  case atStart => exact ⟨0, 0, Nat.zero_le _, rfl, rfl, by omega, by omega, Lib.hid rfl⟩
  case round =>
    obtain ⟨k, s, hk, rfl, rfl, hs0, hs1, HS⟩ := hrel
    by_cases hlt : k < ys.length
    · obtain ⟨b, off, rfl, hbl, hc⟩ := hx (by omega)
      have hcell := hc k hlt
      have hin := HR.out.mem (ys.getD k 0) (by rw [List.getD_eq_getElem?_getD, List.getElem?_eq_getElem hlt]; exact List.getElem_mem hlt)
      have hst := sumAt_step xs ys k hlt
      obtain ⟨x, ex⟩ : ∃ x, ys.getD k 0 = x := ⟨_, rfl⟩
      rw [ex] at hcell hin hst
      obtain ⟨i, rfl⟩ : ∃ i : Nat, x = i := ⟨x.toNat, by omega⟩
      obtain ⟨b2, off2, rfl, hbl2, hc2⟩ := hq (by omega)
      have hil : i < xs.length := by omega
      have hcell2 := hc2 i hil
      have hb := HG.out.2.1 i hil
      rw [Int.toNat_natCast] at hst
      obtain ⟨y, ey⟩ : ∃ y, xs.getD i 0 = y := ⟨_, rfl⟩
      rw [ey] at hcell2 hb hst
      obtain ⟨hb1, hb2⟩ := hb
      have ST := Lib.hid hst
      clear hc hx hc2 hq ex ey hst hin
      go_wp2
      go_round
      case rel => exact ⟨k + 1, s + y, by omega, by go_num, by go_num, by omega, by omega, Lib.hid (by rw [ST.out, HS.out])⟩
      case measure => simp [intOf]; omega
    · clear hx hq
      go_wp2
      go_ret
      have hke : k = ys.length := by omega
      have e := HS.out
      rw [hke, List.take_length] at e
      exact ⟨by rw [e]; rfl, rfl⟩

set_option maxHeartbeats 1000000 in
set_option maxRecDepth 20000 in
theorem l1Has_any (v : Value) (ys : List Int) (x : Int) (w : World) (h : Sv w v ys) (hl : ys.length ≤ 1099511627776) :
    Calls Try.prog 87 #[v, .int .i64 x] w fun e w' => e = .returned (.bool (decide (x ∈ ys))) ∧ w = w' := by
  obtain ⟨p, cap, rfl, hx⟩ := h
  go_enter Try.func87, Try.ntmps87
  go_wp2
  go_loop [9] (fun i => ∃ k : Nat, k ≤ ys.length ∧ i = .int .i64 k ∧ Hid (x ∉ ys.take k)) (fun i => ys.length - (intOf i).toNat)
  case atStart => exact ⟨0, Nat.zero_le _, rfl, Lib.hid (by simp)⟩
  case round =>
    obtain ⟨k, hk, rfl, HN⟩ := hrel
    by_cases hlt : k < ys.length
    · obtain ⟨b, off, rfl, hbl, hc⟩ := hx (by omega)
      have hcell := hc k hlt
      have T : Hid (ys.take (k + 1) = ys.take k ++ [ys.getD k 0]) := Lib.hid (by rw [List.take_add_one, List.getElem?_eq_getElem hlt, List.getD_eq_getElem?_getD, List.getElem?_eq_getElem hlt]; rfl)
      have M : Hid (ys.getD k 0 ∈ ys) := Lib.hid (by rw [List.getD_eq_getElem?_getD, List.getElem?_eq_getElem hlt]; exact List.getElem_mem hlt)
      obtain ⟨y, ey⟩ : ∃ y, ys.getD k 0 = y := ⟨_, rfl⟩
      rw [ey] at hcell T M
      clear hc hx ey
      by_cases hxy : y = x
      · subst hxy
        go_wp2
        go_ret
        exact ⟨ret_bool (by simpa using M.out), rfl⟩
      · have d : (y == x) = false := by simpa using hxy
        have HX := Lib.hid hxy
        clear hxy
        go_wp2
        go_round
        case rel => exact ⟨k + 1, by omega, by go_num, Lib.hid (by rw [T.out, List.mem_append]; rintro (h | h); exact HN.out h; exact HX.out (List.mem_singleton.1 h).symm)⟩
        case measure => simp [intOf]; omega
    · clear hx
      go_wp2
      go_ret
      have hke : k = ys.length := by omega
      have e := HN.out
      rw [hke, List.take_length] at e
      exact ⟨ret_bool (by simpa using e), rfl⟩

def onlyK (a b : List Int) (k : Nat) : List Int := onlyL (a.take k) b
theorem onlyK_step {a b : List Int} {k : Nat} {x : Int} (hk : k < a.length) (hx : a.getD k 0 = x) : onlyK a b (k + 1) = onlyK a b k ++ (if decide (x ∈ b) = true then [] else [x]) := by
  unfold onlyK onlyL
  have : a.take (k + 1) = a.take k ++ [x] := by
    rw [List.take_add_one, List.getElem?_eq_getElem hk]
    rw [List.getD_eq_getElem?_getD, List.getElem?_eq_getElem hk] at hx
    simp only [Option.getD_some] at hx
    rw [hx]; rfl
  rw [this, List.filter_append]
  congr 1
  by_cases h : x ∈ b <;> simp [h]
theorem onlyK_len (a b : List Int) (k : Nat) : (onlyK a b k).length ≤ k := Nat.le_trans (only_len _ _) (by rw [List.length_take]; omega)

set_option maxHeartbeats 2000000 in
set_option maxRecDepth 20000 in
theorem paOnly_any (v u : Value) (xs ys : List Int) (w : World) (hv : Sv w v xs) (hu : Sv w u ys) (h8 : xs.length ≤ 8) (h9 : ys.length ≤ 8) :
    Calls Try.prog 68 #[v, u] w fun e w' => ∃ r, e = .returned r ∧ Ow w' w.heap.size r (onlyL xs ys) ∧ Below w.heap.size w w' := by
  have HU := Lib.hid hu
  clear hu
  obtain ⟨p, cap, rfl, hx⟩ := hv
  go_enter Try.func68, Try.ntmps68
  go_wp2
  go_loopw [5, 10] (fun t i wr => ∃ k : Nat, k ≤ xs.length ∧ i = .int .i64 k ∧ Ow wr w.heap.size t (onlyK xs ys k) ∧ Below w.heap.size w wr) (fun _ i _ => xs.length - (intOf i).toNat)
  case atStart => exact ⟨0, Nat.zero_le _, rfl, World.ownsRow_nil _ _ _ _, Below.refl _ _⟩
  case round =>
    obtain ⟨k, hk, rfl, ho, hb⟩ := hrel
    have hz := hb.size
    have hol := onlyK_len xs ys k
    by_cases hlt : k < xs.length
    · obtain ⟨b, off, rfl, hbl, hc⟩ := hx (by omega)
      have hcell := (hb.cell (p := ⟨b, off + k, none⟩) hbl).trans (hc k hlt)
      obtain ⟨x, ex⟩ : ∃ x, xs.getD k 0 = x := ⟨_, rfl⟩
      rw [ex] at hcell
      have S := onlyK_step (b := ys) hlt ex
      have HAS := Lib.hid (l1Has_any _ _ x _ (HU.out.below hb (Nat.le_refl _)) (by omega))
      clear hc hx ex
      by_cases hm : decide (x ∈ ys) = true
      · rw [if_pos hm, List.append_nil] at S
        have S := Lib.hid S
        rw [hm] at HAS
        clear hm
        go_wp2_with (go_at_call 87; refine HAS.out.mono ?_; rintro e w2 ⟨rfl, rfl⟩)
        go_roundw
        case rel => exact ⟨k + 1, by omega, by go_num, by rw [S.out]; exact ho, hb⟩
        case measure => simp only [intOf]; omega
      · rw [if_neg hm] at S
        have hm : decide (x ∈ ys) = false := by simpa using hm
        have S := Lib.hid S
        rw [hm] at HAS
        clear hm
        go_wp2_with (first | (at_builtin; refine wpList_append_src rfl _ _ rfl w.heap.size _ (onlyK xs ys k) rfl (ho.alloc _) _ [x] rfl (src_one _ _) (by simp only [List.length_cons, List.length_nil]; omega) (by simp; omega) ?_; intro v' w3 h3 g3) | (go_at_call 87; refine HAS.out.mono ?_; rintro e w2 ⟨rfl, rfl⟩))
        have b3 := (hb.alloc hz _).trans ((ho.alloc _).grown (by simp; omega) g3)
        clear ho g3 hb HAS
        go_roundw
        case rel => exact ⟨k + 1, by omega, by go_num, by rw [S.out]; exact h3, b3⟩
        case measure => simp only [intOf]; omega
    · clear hx
      go_wp2
      go_ret
      have hke : k = xs.length := by omega
      have e : onlyK xs ys k = onlyL xs ys := by rw [hke]; unfold onlyK; rw [List.take_length]
      rw [e] at ho
      exact ⟨_, rfl, ho, hb⟩

set_option maxHeartbeats 1000000 in
theorem paMoves_any (v u : Value) (xs ys : List Int) (w : World) (hv : Sv w v xs) (hu : Sv w u ys) (h8 : xs.length ≤ 8) (h9 : ys.length ≤ 8) :
    Calls Try.prog 65 #[v, u] w fun e w' => e = .returned (.int .i64 (((onlyL xs ys).length : Int) + (onlyL ys xs).length)) ∧ Below w.heap.size w w' := by
  have l1 := only_len xs ys
  have l2 := only_len ys xs
  have HV := Lib.hid hv
  have HU := Lib.hid hu
  clear hv hu
  go_enter Try.func65, Try.ntmps65
  go_wp2_with fail
  refine (paOnly_any _ _ _ _ _ HV.out HU.out h8 h9).mono ?_
  rintro e w1 ⟨r, rfl, o1, b1⟩
  obtain ⟨p1, c1, rfl, -⟩ := o1.sv
  go_wp2_with fail
  refine (paOnly_any _ _ _ _ _ (HU.out.below b1 (Nat.le_refl _)) (HV.out.below b1 (Nat.le_refl _)) h9 h8).mono ?_
  rintro e w2 ⟨r, rfl, o2, b2⟩
  obtain ⟨p2, c2, rfl, -⟩ := o2.sv
  go_wp2_with fail
  go_ret
  exact ⟨rfl, nxt b1 b2⟩
end Go.Proofs.Ytillkjkdpkgckaa
