/-
  The model's reading of a word, by its contract. Condition: a word of at most 2^30 bytes.
-/
import Derived.Test.YtgojlabkngnkdaaDoorPsiD
namespace Go.Proofs.YtgojlabkngnkdaaDoor
open Go.RowKit

theorem decFrom_append (p q : List UInt8) : ∀ acc, Lib.decFrom acc (p ++ q) = (Lib.decFrom acc p).bind fun n => Lib.decFrom n q := by
  induction p with
  | nil => intro acc; rfl
  | cons c p ih =>
    intro acc
    rw [List.cons_append]
    cases e : Lib.digitVal c with
    | none => simp [Lib.decFrom, e]
    | some d => simp only [Lib.decFrom, e]; exact ih _
theorem dec_stop {l : List UInt8} {k m : Nat} (hk : k < l.length) (h : Lib.decFrom 0 (l.take k) = some m) (hd : Lib.digitVal (l.getD k 0) = none) : Lib.decFrom 0 l = none := by
  have e : l = l.take k ++ l.getD k 0 :: l.drop (k + 1) := by
    have := List.drop_eq_getElem_cons hk
    rw [List.getD_eq_getElem?_getD, List.getElem?_eq_getElem hk, Option.getD_some, ← this, List.take_append_drop]
  rw [e, decFrom_append, h]
  simp only [Option.bind_some, Lib.decFrom, hd]
theorem dec_next {l : List UInt8} {k m d : Nat} (hk : k < l.length) (h : Lib.decFrom 0 (l.take k) = some m) (hd : Lib.digitVal (l.getD k 0) = some d) : Lib.decFrom 0 (l.take (k + 1)) = some (m * 10 + d) :=
  Lib.decFrom_take l k 0 m (l.getD k 0) d h (by rw [List.getD_eq_getElem?_getD, List.getElem?_eq_getElem hk]; rfl) hd
theorem read_no {l : List UInt8} (h : ¬ (1 ≤ l.length ∧ l.length ≤ 6)) : readW l = -1 := by
  unfold readW; rw [if_neg (fun h2 => h ⟨h2.1, h2.2.1⟩)]
theorem read_zero {l : List UInt8} (h : l.headD 0 = 48 ∧ 1 < l.length) : readW l = -1 := by
  unfold readW; rw [if_neg (fun h2 => h2.2.2 h)]
theorem read_none {l : List UInt8} (h : Lib.decFrom 0 l = none) : readW l = -1 := by
  unfold readW; rw [h]; simp
theorem read_some {l : List UInt8} {n : Nat} (h1 : 1 ≤ l.length ∧ l.length ≤ 6) (h2 : ¬ (l.headD 0 = 48 ∧ 1 < l.length)) (h : Lib.decFrom 0 l = some n) : readW l = n := by
  unfold readW; rw [if_pos ⟨h1.1, h1.2, h2⟩, h]
theorem digit_none {b : UInt8} (h : Lib.digitVal b = none) : b.toNat < 48 ∨ 57 < b.toNat := by
  unfold Lib.digitVal at h
  split at h
  · cases h
  · omega
theorem ret_i {k : IntKind} {a b : Int} (h : a = b) : Ending.returned (.int k a) = .returned (.int k b) := by rw [h]

set_option maxHeartbeats 2000000 in
set_option maxRecDepth 20000 in
theorem l1Read_any (l : List UInt8) (w : World) (hl : l.length ≤ 1073741824) :
    Calls Tryd.prog 64 #[.string (bstr l)] w fun e w' => e = .returned (.int .i64 (readW l)) ∧ w = w' := by
  have hsz := bstr_size l
  obtain ⟨s, es⟩ : ∃ s, bstr l = s := ⟨_, rfl⟩
  have ES := Lib.hid es
  rw [es] at hsz ⊢
  clear es
  obtain ⟨R, eR⟩ : ∃ R, readW l = R := ⟨_, rfl⟩
  rw [eR]
  have ER := Lib.hid eR
  clear eR
  by_cases h16 : 1 ≤ l.length ∧ l.length ≤ 6
  · have hin : inB (l.length : Int) 1 6 = true := inB_iff.2 (by omega)
    have hB0 : ∀ wx : World, (Instr.index 9 (.string s) (.int .i64 0)).run Tryd.prog wx = .ok (.int .u8 ((l.getD 0 0).toNat : Int)) wx := fun wx => by
      rw [← ES.out]; exact byte_at l 0 (by omega) 9 Tryd.underlying9 wx
    have hhd : l.headD 0 = l.getD 0 0 := by cases l <;> rfl
    by_cases hz : l.getD 0 0 = 48 ∧ 1 < l.length
    · have HR := Lib.hid (ER.out.symm.trans (read_zero (by rw [hhd]; exact hz)))
      rw [hz.1] at hB0
      have hz2 := hz.2
      clear hz hhd
      go_enter Tryd.func64, Tryd.ntmps64
      go_wp2_with (go_at_call 52; refine (l1In_any _ _ _ _).mono ?_; rw [hin]; rintro e w1 ⟨rfl, rfl⟩)
      go_ret
      exact ⟨ret_i HR.out.symm, rfl⟩
    · have HZ := Lib.hid hz
      have HH := Lib.hid hhd
      have H16 := Lib.hid h16
      have hlt6 : l.length ≤ 6 := h16.2
      have hlt1 : 1 ≤ l.length := h16.1
      obtain ⟨c0, ec0⟩ : ∃ c0 : Int, ((l.getD 0 0).toNat : Int) = c0 := ⟨_, rfl⟩
      have hcz : c0 = 48 → ¬ 1 < l.length := fun e h => hz ⟨by apply UInt8.toNat_inj.1; have : (48 : UInt8).toNat = 48 := rfl; omega, h⟩
      rw [ec0] at hB0
      clear hz hhd h16 ec0
      go_enter Tryd.func64, Tryd.ntmps64
      have main : c0 = 48 ∨ ¬ c0 = 48 := by omega
      rcases main with hc0 | hc0
      all_goals
        (first | have hn1 := hcz hc0 | skip)
        (first | subst hc0 | skip)
        clear hcz
        go_wp2_with (go_at_call 52; refine (l1In_any _ _ _ _).mono ?_; rw [hin]; rintro e w1 ⟨rfl, rfl⟩)
        go_loop [3, 4] (fun n i => ∃ (k m : Nat), k ≤ l.length ∧ i = .int .i64 k ∧ n = .int .i64 m ∧ m + 1 ≤ 10 ^ k ∧ Lib.decFrom 0 (l.take k) = some m) (fun _ i => l.length - (intOf i).toNat)
        case atStart => exact ⟨0, 0, Nat.zero_le _, rfl, rfl, Nat.le_refl _, rfl⟩
        case round =>
          obtain ⟨k, m, hk, rfl, rfl, hm, hd⟩ := hrel
          by_cases hlt : k < l.length
          · have hp : 10 ^ k ≤ 10 ^ 5 := Nat.pow_le_pow_right (by omega) (by omega)
            have hm5 : m ≤ 100000 := by omega
            have hB : ∀ wx : World, (Instr.index 9 (.string s) (.int .i64 (k : Int))).run Tryd.prog wx = .ok (.int .u8 ((l.getD k 0).toNat : Int)) wx := fun wx => by
              rw [← ES.out]; exact byte_at l k hlt 9 Tryd.underlying9 wx
            obtain ⟨x, ex⟩ : ∃ x : Nat, (l.getD k 0).toNat = x := ⟨_, rfl⟩
            rw [ex] at hB
            have hx8 : x ≤ 255 := by have := (l.getD k 0).toNat_lt; omega
            cases ed : Lib.digitVal (l.getD k 0) with
            | none =>
              have HR := Lib.hid (ER.out.symm.trans (read_none (dec_stop hlt hd ed)))
              have hx := digit_none ed
              rw [ex] at hx
              clear ed hd ex hp hm
              rcases hx with hx | hx
              all_goals
                go_wp2
                go_ret
                exact ⟨ret_i HR.out.symm, rfl⟩
            | some d =>
              have HD := Lib.hid (dec_next hlt hd ed)
              have HP := Lib.hid (show m * 10 + d + 1 ≤ 10 ^ (k + 1) by have := Lib.digitVal_eq ed; rw [Nat.pow_succ]; omega)
              obtain ⟨x0, x1, xd⟩ := Lib.digitVal_eq ed
              rw [ex] at x0 x1 xd
              have hxd : x = 48 + d := by omega
              subst hxd
              have hd9 : d ≤ 9 := by omega
              clear ed hd ex hp hm xd
              go_wp2
              go_round
              case rel => exact ⟨k + 1, m * 10 + d, by omega, by go_num, by go_num, HP.out, HD.out⟩
              case measure => simp only [intOf]; omega
          · have hkl : k = l.length := by omega
            subst hkl
            rw [List.take_length] at hd
            have HR := Lib.hid (ER.out.symm.trans (read_some H16.out (by rw [HH.out]; exact HZ.out) hd))
            clear hd hm
            go_wp2
            go_ret
            exact ⟨ret_i HR.out.symm, rfl⟩
  · have hin : inB (l.length : Int) 1 6 = false := by
      rw [Bool.eq_false_iff]; intro e; have := inB_iff.1 e; omega
    have HR := Lib.hid (ER.out.symm.trans (read_no h16))
    clear h16
    go_enter Tryd.func64, Tryd.ntmps64
    go_wp2_with (go_at_call 52; refine (l1In_any _ _ _ _).mono ?_; rw [hin]; rintro e w1 ⟨rfl, rfl⟩)
    go_ret
    exact ⟨ret_i HR.out.symm, rfl⟩

end Go.Proofs.YtgojlabkngnkdaaDoor
