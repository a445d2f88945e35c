/-
  Balanced digits in the model, and which texts are such, in the model and in the program, by contracts. Conditions: numbers of a size of at most 2^40, texts of at most 2^20 bytes.
-/
import Derived.Test.YtcgifmoddojnmaaZsg
namespace Go.Proofs.Ytcgifmoddojnmaa
open Go.RowKit

theorem l1Mod_any (n : Int) (w : World) (_h0 : -1099511627776 ≤ n) (_h1 : n ≤ 1099511627776) :
    Calls Try.prog 98 #[.int .i64 n, .int .i64 3] w fun e w' => e = .returned (.int .i64 (n % 3)) ∧ w = w' := by
  have hm := md_go n
  have ht := tmod3 n
  obtain ⟨r, er⟩ : ∃ r, n.tmod 3 = r := ⟨_, rfl⟩
  rw [er] at hm ht
  have hr : -2 ≤ r ∧ r ≤ 2 := by split at ht <;> omega
  obtain ⟨r0, r1⟩ := hr
  obtain ⟨q, eq⟩ : ∃ q, n % 3 = q := ⟨_, rfl⟩
  rw [eq] at hm ⊢
  have hq0 : 0 ≤ q ∧ q ≤ 2 := by omega
  obtain ⟨q0, q1⟩ := hq0
  have w1 : IntKind.i64.wrap r = r := IntWalk.i64_in _ (by omega)
  have w2 : IntKind.i64.wrap (r + 3) = r + 3 := IntWalk.i64_in _ (by omega)
  have w3 : IntKind.i64.wrap q = q := IntWalk.i64_in _ (by omega)
  clear eq ht
  go_enter Try.func98, Try.ntmps98
  go_wp2
  go_ret
  exact ⟨rfl, rfl⟩

theorem bal_ne {n : Int} (h : n ≠ 0) : bal n ≠ [] := by rw [bal_step h]; simp
theorem un_of_mod {n : Int} : (n % 3 = 0 ∧ un n = 0) ∨ (n % 3 = 1 ∧ un n = 1) ∨ (n % 3 = 2 ∧ un n = -1) := by unfold un; omega

set_option maxHeartbeats 4000000 in
set_option maxRecDepth 20000 in
theorem siBalanced_any (n : Int) (w : World) (h0 : -1000000000 ≤ n) (h1 : n ≤ 1000000000) :
    Calls Try.prog 83 #[.int .i64 n] w fun e w' => e = .returned (.string (bstr (balT n))) ∧ w = w' := by
  by_cases hz : n = 0
  · subst hz
    go_enter Try.func83, Try.ntmps83
    go_wp2
    go_ret
    exact ⟨ret_str rfl, rfl⟩
  · have R := Lib.hid (show balT n = bal n by unfold balT; rw [if_neg hz])
    have d : (n == 0) = false := by simpa using hz
    have LB := Lib.hid (bal_len n)
    go_enter Try.func83, Try.ntmps83
    go_wp2
    go_loop [0, 3] (fun i o => ∃ (m : Int) (l : List UInt8) (S : ByteArray), i = .int .i64 m ∧ o = .string S ∧ Hid (S = bstr l) ∧ Hid (bal n = bal m ++ l) ∧ -1000000000 ≤ m ∧ m ≤ 1000000000) (fun i _ => (intOf i).natAbs)
    case atStart => exact ⟨n, [], ⟨#[]⟩, rfl, rfl, Lib.hid rfl, Lib.hid (by simp), h0, h1⟩
    case round =>
      obtain ⟨m, l, S, rfl, rfl, HS, HB, m0, m1⟩ := hrel
      by_cases hm : m = 0
      · subst hm
        go_wp2
        go_ret
        exact ⟨ret_str (by rw [R.out, HB.out, bal_zero, HS.out]; rfl), rfl⟩
      · have dm : (m == 0) = false := by simpa using hm
        have dm2 : (m != 0) = true := by simp [bne, dm]
        have MD := fun W => Lib.hid (l1Mod_any m W (by omega) (by omega))
        have hSz : S.size ≤ 1000000000 := by
          rw [HS.out, bstr_size]
          have h2 := LB.out
          rw [HB.out, List.length_append] at h2
          omega
        have hs1 : ∀ c : UInt8, ¬ (⟨#[c]⟩ : ByteArray).size + S.size > 9223372036854775807 := fun c => by show ¬ 1 + S.size > _; omega
        have z1 := hs1 43
        have z2 := hs1 45
        have z3 := hs1 48
        have hq := qn_small hm
        have QB : -1000000000 ≤ qn m ∧ qn m ≤ 1000000000 := by omega
        have qg := qn_go m
        have BS := bal_step hm
        have HN : ∀ c : UInt8, sc (un m) = c → Hid ((⟨#[c]⟩ : ByteArray) ++ S = bstr (c :: l)) ∧ Hid (bal n = bal (qn m) ++ (c :: l)) := fun c hc => ⟨Lib.hid (by rw [HS.out]; exact bstr_app [c] l), Lib.hid (by rw [HB.out, BS, hc, List.append_assoc]; rfl)⟩
        obtain ⟨q, eq⟩ : ∃ q, qn m = q := ⟨_, rfl⟩
        rw [eq] at hq qg HN QB
        obtain ⟨QB0, QB1⟩ := QB
        have wq : IntKind.i64.wrap q = q := IntWalk.i64_in _ (by omega)
        clear hSz hs1 BS eq
        rcases un_of_mod (n := m) with ⟨e1, e2⟩ | ⟨e1, e2⟩ | ⟨e1, e2⟩
        · rw [e1] at MD
          obtain ⟨N1, N2⟩ := HN 48 (by rw [e2]; rfl)
          rw [e2, Int.sub_zero] at qg
          clear e1 e2 HN hm
          go_wp2_with (go_at_call 98; refine (MD _).out.mono ?_; rintro e w' ⟨rfl, rfl⟩)
          go_round
          case rel => exact ⟨q, _, _, rfl, rfl, N1, N2, QB0, QB1⟩
          case measure => simp only [intOf]; omega
        · rw [e1] at MD
          obtain ⟨N1, N2⟩ := HN 43 (by rw [e2]; rfl)
          rw [e2] at qg
          have wm : IntKind.i64.wrap (m - 1) = m - 1 := IntWalk.i64_in _ (by omega)
          clear e1 e2 HN hm
          go_wp2_with (go_at_call 98; refine (MD _).out.mono ?_; rintro e w' ⟨rfl, rfl⟩)
          go_round
          case rel => exact ⟨q, _, _, rfl, rfl, N1, N2, QB0, QB1⟩
          case measure => simp only [intOf]; omega
        · rw [e1] at MD
          obtain ⟨N1, N2⟩ := HN 45 (by rw [e2]; rfl)
          rw [e2, show m - -1 = m + 1 by omega] at qg
          have wm : IntKind.i64.wrap (m + 1) = m + 1 := IntWalk.i64_in _ (by omega)
          clear e1 e2 HN hm
          go_wp2_with (go_at_call 98; refine (MD _).out.mono ?_; rintro e w' ⟨rfl, rfl⟩)
          go_round
          case rel => exact ⟨q, _, _, rfl, rfl, N1, N2, QB0, QB1⟩
          case measure => simp only [intOf]; omega

noncomputable def dgB (a : List UInt8) : Bool := @decide (DgOk a) (Classical.propDecidable _)
noncomputable def nmR (a : List UInt8) : Int := if dgB a = true then nf 0 a else 0
theorem dg_yes {a : List UInt8} (h : DgOk a) : dgB a = true ∧ nmR a = nf 0 a := by
  have e : dgB a = true := by simp [dgB, h]
  exact ⟨e, by simp [nmR, e]⟩
theorem dg_no {a : List UInt8} (h : ¬ DgOk a) : dgB a = false ∧ nmR a = 0 := by
  have e : dgB a = false := by simp [dgB, h]
  exact ⟨e, by simp [nmR, e]⟩
theorem dgB_iff {a : List UInt8} : dgB a = true ↔ DgOk a := by simp [dgB]

set_option maxHeartbeats 4000000 in
set_option maxRecDepth 20000 in
theorem siNumber_any (a : List UInt8) (w : World) (hl : a.length ≤ 1048576) :
    Calls Try.prog 86 #[.string (bstr a)] w fun e w' => e = .returned (.tuple #[.int .i64 (nmR a), .bool (dgB a)]) ∧ w = w' := by
  have hsz := bstr_size a
  have BA := Lib.hid (fun k (hk : k < a.length) wx => byte_at a k hk 9 Try.underlying9 wx)
  have SG := fun W => Lib.hid (siSigns_any a (a.length : Int) W hl)
  have e0 : sgB a (a.length : Int) = sgA a := by simp [sgB]
  rw [e0] at SG
  obtain ⟨s, es⟩ : ∃ s, bstr a = s := ⟨_, rfl⟩
  rw [es] at BA hsz SG ⊢
  clear es e0
  by_cases hL : inB (a.length : Int) 1 13 = true
  · obtain ⟨l1, l13⟩ := inB_iff.1 hL
    by_cases hS : sgA a = true
    · rw [hS] at SG
      have h0 := BA.out 0 (by omega)
      have HT := Lib.hid (sgA_iff.1 hS)
      by_cases hZ : a.length > 1 ∧ a.getD 0 0 = 48
      · have R := Lib.hid (dg_no (a := a) (fun h => by rcases h.2.2 with h | h; exact h hZ.2; omega))
        rw [hZ.2] at h0
        have h0 : ∀ wx : World, (Instr.index 9 (.string s) (.int .i64 0)).run Try.prog wx = .ok (.int .u8 48) wx := h0
        have d1 : decide (1 < (a.length : Int)) = true := by simp; omega
        clear hS
        go_enter Try.func86, Try.ntmps86
        go_wp2_with (first
          | (go_at_call 65; refine (l1In_any _ _ _ _).mono ?_; rintro e w' ⟨rfl, rfl⟩)
          | (go_at_call 68; refine (SG _).out.mono ?_; rintro e w' ⟨rfl, rfl⟩))
        go_ret2
        exact ⟨ret_ib R.out.2.symm R.out.1.symm, rfl⟩
      · have hDG : DgOk a := ⟨by omega, HT.out, by
          by_cases h : a.getD 0 0 = 48
          · exact .inr (by by_cases h2 : a.length > 1; exact absurd ⟨h2, h⟩ hZ; omega)
          · exact .inl h⟩
        have R := Lib.hid (dg_yes hDG)
        have OT := fun b W => Lib.hid (siOf_any b W)
        have hsplit : (¬ (1 : Int) < (a.length : Int)) ∨ ((1 : Int) < (a.length : Int) ∧ a.getD 0 0 ≠ 48) := by
          by_cases h2 : a.length > 1
          · exact .inr ⟨by omega, fun h => hZ ⟨h2, h⟩⟩
          · exact .inl (by omega)
        have body : ∀ (x : Int), (∀ wx : World, (Instr.index 9 (.string s) (.int .i64 0)).run Try.prog wx = .ok (.int .u8 x) wx) → ((¬ (1 : Int) < (a.length : Int)) ∨ ((1 : Int) < (a.length : Int) ∧ (x == 48) = false)) →
            Calls Try.prog 86 #[.string s] w fun e w' => e = .returned (.tuple #[.int .i64 (nmR a), .bool (dgB a)]) ∧ w = w' := by
          intro x h0 hc
          clear hsplit hZ hDG hS
          rcases hc with hc | ⟨hc, hx⟩
          all_goals
            go_enter Try.func86, Try.ntmps86
            go_wp2_with (first
              | (go_at_call 65; refine (l1In_any _ _ _ _).mono ?_; rintro e w' ⟨rfl, rfl⟩)
              | (go_at_call 68; refine (SG _).out.mono ?_; rintro e w' ⟨rfl, rfl⟩))
            go_loop [4, 5] (fun n i => ∃ k : Nat, k ≤ a.length ∧ i = .int .i64 k ∧ n = .int .i64 (nf 0 (a.take k))) (fun _ i => a.length - (intOf i).toNat)
            case atStart => exact ⟨0, Nat.zero_le _, rfl, rfl⟩
            case round =>
              obtain ⟨k, hk, rfl, rfl⟩ := hrel
              by_cases hlt : k < a.length
              · have hA := BA.out k hlt
                have n1 := nf_small a k hk (by omega)
                have n2 := nf_small a (k + 1) (by omega) (by omega)
                obtain ⟨b, eb⟩ : ∃ b, a.getD k 0 = b := ⟨_, rfl⟩
                have ES := nf_take hlt eb 0
                rw [eb] at hA
                have TB := OT b
                have hb := tv_bd b
                obtain ⟨d, ed⟩ : ∃ d, tv b = d := ⟨_, rfl⟩
                rw [ed] at TB ES hb
                obtain ⟨t, et⟩ : ∃ t, nf 0 (a.take k) = t := ⟨_, rfl⟩
                rw [et] at ES n1 ⊢
                rw [ES] at n2
                obtain ⟨n1a, n1b⟩ := n1
                obtain ⟨n2a, n2b⟩ := n2
                obtain ⟨hb0, hb1⟩ := hb
                have w1 : IntKind.i64.wrap (3 * t) = 3 * t := IntWalk.i64_in _ (by omega)
                have w2 : IntKind.i64.wrap (3 * t + d) = 3 * t + d := IntWalk.i64_in _ (by omega)
                have HES := Lib.hid ES
                obtain ⟨c, ec⟩ : ∃ c : Int, (b.toNat : Int) = c := ⟨_, rfl⟩
                rw [ec] at hA TB
                clear eb ed et ec ES
                go_wp2_with (go_at_call 69; refine (TB _).out.mono ?_; rintro e w' ⟨rfl, rfl⟩)
                go_round
                case rel => exact ⟨k + 1, by omega, by go_num, by rw [HES.out]⟩
                case measure => simp only [intOf]; omega
              · have hke : k = a.length := by omega
                subst hke
                go_wp2
                go_ret2
                exact ⟨ret_ib (by rw [R.out.2]) R.out.1.symm, rfl⟩
        exact body _ h0 (hsplit.imp id fun h => ⟨h.1, byteNe (c := 48) h.2 (by omega)⟩)
    · have hS : sgA a = false := by simpa using hS
      rw [hS] at SG
      have R := Lib.hid (dg_no (a := a) (fun h => by rw [sgA_yes h.2.1] at hS; cases hS))
      go_enter Try.func86, Try.ntmps86
      go_wp2_with (first
        | (go_at_call 65; refine (l1In_any _ _ _ _).mono ?_; rintro e w' ⟨rfl, rfl⟩)
        | (go_at_call 68; refine (SG _).out.mono ?_; rintro e w' ⟨rfl, rfl⟩))
      go_ret2
      exact ⟨ret_ib R.out.2.symm R.out.1.symm, rfl⟩
  · have hL : inB (a.length : Int) 1 13 = false := by simpa using hL
    have R := Lib.hid (dg_no (a := a) (fun h => by rw [inB_iff.2 (by have := h.1; omega)] at hL; cases hL))
    go_enter Try.func86, Try.ntmps86
    go_wp2_with (go_at_call 65; refine (l1In_any _ _ _ _).mono ?_; rintro e w' ⟨rfl, rfl⟩)
    go_ret2
    exact ⟨ret_ib R.out.2.symm R.out.1.symm, rfl⟩

set_option maxHeartbeats 4000000 in
set_option maxRecDepth 20000 in
theorem areDigits_any (a : List UInt8) (w : World) :
    Calls Try.prog 87 #[.string (bstr a)] w fun e w' => e = .returned (.bool (dgB a)) ∧ Below w.heap.size w w' := by
  have hsz := bstr_size a
  have BA := Lib.hid (fun k (hk : k < a.length) wx => byte_at a k hk 9 Try.underlying9 wx)
  have HO := fun W => Lib.hid (show Calls Try.prog 96 #[.string (bstr a), .string ⟨#[43, 45, 48]⟩] W fun e w' => e = .returned (.bool (sgA a)) ∧ Below W.heap.size W w' by
    have h := hasOnly_any a [43, 45, 48] W signs_ascii (by decide)
    rw [only_sg] at h
    exact h)
  have TL : (bstr a).toList = a := by rw [ByteArray.toList_eq]; simp [bstr]
  obtain ⟨s, es⟩ : ∃ s, bstr a = s := ⟨_, rfl⟩
  rw [es] at BA hsz HO TL ⊢
  clear es
  by_cases h1 : a.length < 1
  · have d1 : decide ((a.length : Int) < 1) = true := by simp; omega
    have R := Lib.hid (dg_no (a := a) (fun h => by have := h.1; omega)).1
    go_enter Try.func87, Try.ntmps87
    go_wp2
    go_ret
    exact ⟨ret_bool R.out.symm, Below.refl _ _⟩
  · by_cases h13 : 13 < a.length
    · have d2 : decide (13 < (a.length : Int)) = true := by simp; omega
      have R := Lib.hid (dg_no (a := a) (fun h => by have := h.1; omega)).1
      go_enter Try.func87, Try.ntmps87
      go_wp2
      go_ret
      exact ⟨ret_bool R.out.symm, Below.refl _ _⟩
    · have l1 : (1 : Int) ≤ (a.length : Int) := by omega
      have l13 : (a.length : Int) ≤ 13 := by omega
      have h0 := BA.out 0 (by omega)
      by_cases hS : sgA a = true
      · rw [hS] at HO
        have HT := Lib.hid (sgA_iff.1 hS)
        by_cases hZ : a.getD 0 0 = 48
        · rw [hZ] at h0
          have h0 : ∀ wx : World, (Instr.index 9 (.string s) (.int .i64 0)).run Try.prog wx = .ok (.int .u8 48) wx := h0
          by_cases hone : a.length = 1
          · have R := Lib.hid (dg_yes (a := a) ⟨by omega, HT.out, .inr hone⟩).1
            have ea : a = [48] := by
              match a, hone with
              | [b], _ =>
                simp only [List.getD, List.getElem?_cons_zero, Option.getD_some] at hZ
                rw [hZ]
            have d3 : (s.toList == [48]) = true := by rw [TL, ea]; rfl
            clear hZ hone TL ea h1 h13 hS
            go_enter Try.func87, Try.ntmps87
            go_wp2_with (go_at_call 96; refine (HO _).out.mono ?_; rintro e w2 ⟨rfl, b2⟩)
            go_ret
            exact ⟨ret_bool R.out.symm, b2⟩
          · have R := Lib.hid (dg_no (a := a) (fun h => by rcases h.2.2 with h | h; exact h hZ; exact hone h)).1
            have d3 : (s.toList == [48]) = false := by
              rw [TL, beq_eq_false_iff_ne]
              intro h
              rw [h] at hone
              exact hone rfl
            clear hZ hone TL h1 h13 hS
            go_enter Try.func87, Try.ntmps87
            go_wp2_with (go_at_call 96; refine (HO _).out.mono ?_; rintro e w2 ⟨rfl, b2⟩)
            go_ret
            exact ⟨ret_bool R.out.symm, b2⟩
        · have R := Lib.hid (dg_yes (a := a) ⟨by omega, HT.out, .inl hZ⟩).1
          have m3 := byteNe (c := 48) hZ (by omega)
          obtain ⟨x, ex⟩ : ∃ x : Int, ((a.getD 0 0).toNat : Int) = x := ⟨_, rfl⟩
          rw [ex] at h0 m3
          have m3 : (x == 48) = false := m3
          have q3 : (x != 48) = true := by simp [bne, m3]
          have h0 : ∀ wx : World, (Instr.index 9 (.string s) (.int .i64 0)).run Try.prog wx = .ok (.int .u8 x) wx := h0
          clear hZ TL ex h1 h13 m3 hS
          go_enter Try.func87, Try.ntmps87
          go_wp2_with (go_at_call 96; refine (HO _).out.mono ?_; rintro e w2 ⟨rfl, b2⟩)
          go_ret
          exact ⟨ret_bool R.out.symm, b2⟩
      · have hS : sgA a = false := by simpa using hS
        rw [hS] at HO
        have R := Lib.hid (dg_no (a := a) (fun h => by rw [sgA_yes h.2.1] at hS; cases hS)).1
        clear TL h1 h13
        go_enter Try.func87, Try.ntmps87
        go_wp2_with (go_at_call 96; refine (HO _).out.mono ?_; rintro e w2 ⟨rfl, b2⟩)
        go_ret
        exact ⟨ret_bool R.out.symm, b2⟩

end Go.Proofs.Ytcgifmoddojnmaa
