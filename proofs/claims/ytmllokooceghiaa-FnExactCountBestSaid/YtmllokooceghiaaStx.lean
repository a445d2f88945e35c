/-
  The best sets of stamps in the model: stBest, BestReach, FirstBest and CountBest, by their contracts. Conditions: a room of 1..5, at most 3 kinds; stBest's first list is the call's own, and small.
-/
import Derived.Test.YtmllokooceghiaaStv
namespace Go.Proofs.Ytmllokooceghiaa
open Go.RowKit

abbrev BsR := List Int × Int × Int
def bsS (a f : BsR) : BsR := if a.2.1 < f.2.1 then f else if f.2.1 = a.2.1 then (a.1, a.2.1, a.2.2 + f.2.2) else a
def bsG (F : List Int → BsR) (st : List Int) : Nat → Nat → BsR → BsR
  | 0, _, a => a
  | f + 1, n, a => bsG F st f (n + 1) (bsS a (F (st ++ [(n : Int)])))
def bs (r : Nat) : Nat → List Int → BsR
  | 0, st => (st, (rch st r : Int), 1)
  | d + 1, st => bsG (bs r d) st (rch st r + 2 - ((lastS st).toNat + 1)) ((lastS st).toNat + 1) ([], -1, 0)
def BsIn (B : Int) (a : BsR) : Prop := -1 ≤ a.2.1 ∧ a.2.1 ≤ 4000 ∧ 0 ≤ a.2.2 ∧ a.2.2 ≤ B
theorem bsS_in {a f : BsR} {A B : Int} (h : BsIn A a) (g : BsIn B f) (hA : 0 ≤ A) : BsIn (A + B) (bsS a f) := by
  unfold BsIn bsS at *
  split
  · omega
  · split
    · simp only; omega
    · omega
theorem bsG_in {F : List Int → BsR} {st : List Int} {B : Int} (hB : 0 ≤ B) : ∀ (f n : Nat) (a : BsR) (A : Int), BsIn A a → 0 ≤ A → (∀ k, n ≤ k → k < n + f → BsIn B (F (st ++ [(k : Int)]))) → BsIn (A + f * B) (bsG F st f n a) := by
  intro f
  induction f with
  | zero => intro n a A h _ _; simpa [bsG] using h
  | succ f ih =>
    intro n a A h hA hF
    have h1 := ih (n + 1) (bsS a (F (st ++ [(n : Int)]))) (A + B) (bsS_in h (hF n (by omega) (by omega)) hA) (by omega) (fun k h1 h2 => hF k (by omega) (by omega))
    have e : A + ((f + 1 : Nat) : Int) * B = A + B + f * B := by rw [Int.natCast_succ, Int.add_mul, Int.one_mul]; omega
    rw [e]; exact h1
theorem lastS_push (st : List Int) (n : Int) : lastS (st ++ [n]) = n := by simp [lastS]
theorem pow6 (d : Nat) : (1 : Int) ≤ 6 ^ d := by
  have h : 1 ≤ 6 ^ d := Nat.pow_pos (by decide)
  exact_mod_cast h
theorem pow6_one {d : Nat} {x : Int} (h0 : 0 ≤ x) (h : x * 6 ^ (d + 1) ≤ 500) : x * 6 ≤ 500 := by
  have h1 := pow6 d
  have h2 : x * 6 * 1 ≤ x * 6 * 6 ^ d := Int.mul_le_mul_of_nonneg_left h1 (by omega)
  have e : x * 6 ^ (d + 1) = x * 6 * 6 ^ d := by rw [Int.pow_succ, Int.mul_comm (6 ^ d) 6, Int.mul_assoc]
  omega
theorem pow6_step {d : Nat} {x n : Int} (hn : n ≤ x * 6) (h : x * 6 ^ (d + 1) ≤ 500) : n * 6 ^ d ≤ 500 := by
  have h1 := pow6 d
  have h2 : n * 6 ^ d ≤ x * 6 * 6 ^ d := Int.mul_le_mul_of_nonneg_right hn (by omega)
  have e : x * 6 ^ (d + 1) = x * 6 * 6 ^ d := by rw [Int.pow_succ, Int.mul_comm (6 ^ d) 6, Int.mul_assoc]
  omega
theorem rch5 {st : List Int} (S : Stm st) {r : Nat} (r5 : r ≤ 5) : (rch st r : Int) ≤ 5 * lastS st := by
  have h1 := (rch_spec S (show r ≤ 8 by omega)).1
  have h2 := S.last_bd
  have h3 : (r : Int) * lastS st ≤ 5 * lastS st := Int.mul_le_mul_of_nonneg_right (by omega) (by omega)
  omega
theorem bs_in {r : Nat} (r5 : r ≤ 5) : ∀ (d : Nat) (st : List Int), Stm st → st.length + d ≤ 3 → lastS st * 6 ^ d ≤ 500 → BsIn (1000 ^ d) (bs r d st) := by
  intro d
  induction d with
  | zero =>
    intro st S _ _
    have h1 := rch5 S r5
    have h2 := S.last_bd
    unfold BsIn bs
    refine ⟨?_, ?_, by simp, by simp⟩
    · simp only; omega
    · simp only; omega
  | succ d ih =>
    intro st S hl hP
    have h1 := rch5 S r5
    have h2 := S.last_bd
    have h3 := pow6_one (by omega) hP
    have hp : (0 : Int) < 1000 ^ d := Int.pow_pos (by decide)
    have hG := bsG_in (F := bs r d) (st := st) (B := 1000 ^ d) (by omega) (rch st r + 2 - ((lastS st).toNat + 1)) ((lastS st).toNat + 1) ([], -1, 0) 0 (by unfold BsIn; refine ⟨?_, ?_, ?_, ?_⟩ <;> decide) (by omega) (fun k hk1 hk2 => ih _ (S.push (by omega) (by omega) (by omega)) (by simp; omega) (by rw [lastS_push]; exact pow6_step (by omega) hP))
    have hm : ((rch st r + 2 - ((lastS st).toNat + 1) : Nat) : Int) * 1000 ^ d ≤ 1000 * 1000 ^ d := Int.mul_le_mul_of_nonneg_right (by omega) (by omega)
    have e : (1000 : Int) ^ (d + 1) = 1000 * 1000 ^ d := by rw [Int.pow_succ, Int.mul_comm]
    obtain ⟨g1, g2, g3, g4⟩ := hG
    exact ⟨g1, g2, g3, by rw [e]; exact Int.le_trans g4 (by omega)⟩

theorem Sv.src {w : World} {v : Value} {xs : List Int} (h : Sv w v xs) (h1 : 0 < xs.length) : Src w v xs := by
  obtain ⟨p, cap, rfl, hx⟩ := h
  obtain ⟨b, off, rfl, hb, hc⟩ := hx h1
  exact .inr ⟨b, off, cap, rfl, hb, hc⟩
theorem ret_lii {a b : Value} {c d f g : Int} (h : a = b) (h2 : c = d) (h3 : f = g) : Ending.returned (.tuple #[a, .int .i64 c, .int .i64 f]) = .returned (.tuple #[b, .int .i64 d, .int .i64 g]) := by rw [h, h2, h3]

/-- stBest does as bs tells where d kinds are still to come. -/
def BsOk (r kinds d : Nat) : Prop :=
  ∀ (st : List Int) (v : Value) (w : World) (C : Nat), Ow w C v st → C ≤ w.heap.size → Stm st → st.length + d = kinds → lastS st * 6 ^ d ≤ 500 →
    Calls Try.prog 67 #[v, .int .i64 kinds, .int .i64 r] w fun e w' => ∃ u, e = .returned (.tuple #[u, .int .i64 (bs r d st).2.1, .int .i64 (bs r d st).2.2]) ∧ Ow w' C u (bs r d st).1 ∧ Below w.heap.size w w'

set_option maxHeartbeats 4000000 in
set_option maxRecDepth 20000 in
theorem bs_zero (r kinds : Nat) (r1 : 1 ≤ r) (r5 : r ≤ 5) (hk : kinds ≤ 3) : BsOk r kinds 0 := by
  intro st v w C h hC S hlen hP
  have h1 := S.one
  have RE := Lib.hid (stReach_any v st r w h.sv S r1 (by omega))
  have HO := Lib.hid h
  obtain ⟨p, cap, rfl, hx⟩ := h.sv
  obtain ⟨n, hn⟩ : ∃ n, st.length = n + 1 := ⟨st.length - 1, by omega⟩
  have hkn : (kinds : Int) = (n : Int) + 1 := by omega
  rw [hkn]
  have R : Hid (bs r 0 st = (st, (rch st r : Int), 1)) := Lib.hid rfl
  obtain ⟨X, eX⟩ : ∃ X, rch st r = X := ⟨_, rfl⟩
  rw [eX] at RE R
  rw [R.out]
  rw [hn] at RE HO ⊢
  clear hx S h hP eX
  go_enter Try.func67, Try.ntmps67
  go_wp2_with fail
  refine RE.out.mono ?_
  rintro e w1 ⟨rfl, b1⟩
  go_wp2_with fail
  go_ret3
  exact ⟨_, rfl, HO.out.below b1 (Nat.le_refl _), b1⟩

set_option maxHeartbeats 8000000 in
set_option maxRecDepth 20000 in
theorem bs_step (r kinds d : Nat) (r1 : 1 ≤ r) (r5 : r ≤ 5) (hk : kinds ≤ 3) (ih : BsOk r kinds d) : BsOk r kinds (d + 1) := by
  intro st v w C h hC S hlen hP
  have h1 := S.one
  have hlb := S.last_bd
  have h5 := rch5 S r5
  have h6 := pow6_one (by omega) hP
  have HT := Lib.hid S
  have HP := Lib.hid hP
  have IH := Lib.hid ih
  have HS := Lib.hid h.sv
  obtain ⟨p, cap, rfl, hx⟩ := h.sv
  obtain ⟨b, off, rfl, hbl, hc⟩ := hx (by omega)
  obtain ⟨n, hn⟩ : ∃ n, st.length = n + 1 := ⟨st.length - 1, by omega⟩
  have hcell0 : w.cell? ⟨b, off + n, none⟩ = some (.int .i64 (lastS st)) := by
    have := hc n (by omega)
    rw [this]; unfold lastS; rw [hn]; rfl
  obtain ⟨l, el⟩ : ∃ l : Nat, lastS st = l := ⟨(lastS st).toNat, by omega⟩
  have TT : Hid (bsG (bs r d) st (rch st r + 2 - (l + 1)) (l + 1) ([], -1, 0) = bs r (d + 1) st) := Lib.hid (by rw [bs, el]; rfl)
  have HL := Lib.hid el
  rw [el] at hcell0 hlb h5 h6
  have RE : ∀ W, Below w.heap.size w W → Hid (Calls Try.prog 57 #[.slice (some ⟨b, off, none⟩) st.length cap, .int .i64 r] W fun e w' => e = .returned (.int .i64 (rch st r : Nat)) ∧ Below W.heap.size W w') := fun W hB => Lib.hid (stReach_any _ st r W (HS.out.below hB (Nat.le_refl _)) HT.out r1 (by omega))
  have OW : ∀ W, Below w.heap.size w W → Hid (Calls Try.prog 64 #[.slice (some ⟨b, off, none⟩) st.length cap] W fun e w' => ∃ u, e = .returned u ∧ Ow w' W.heap.size u st ∧ Below W.heap.size W w') := fun W hB => Lib.hid (l1Own_any _ st W ((HS.out.below hB (Nat.le_refl _)).src (by omega)) (by omega))
  obtain ⟨X, eX⟩ : ∃ X, rch st r = X := ⟨_, rfl⟩
  obtain ⟨T, eT⟩ : ∃ T, bs r (d + 1) st = T := ⟨_, rfl⟩
  rw [eX] at RE h5 TT
  rw [eT] at TT ⊢
  rw [hn] at RE OW ⊢
  have dk : ((n : Int) + 1 == (kinds : Int)) = false := by rw [beq_eq_false_iff_ne]; omega
  have hd : d ≤ 1 := by omega
  have hst : st.length ≤ 2 := by omega
  clear hc hx el eX eT S hP ih h
  go_enter Try.func67, Try.ntmps67
  go_wp2
  go_loopw [9, 10, 11, 12] (fun x y z i wr => ∃ (k : Nat) (L : List Int) (far cnt : Int), i = .int .i64 k ∧ y = .int .i64 far ∧ z = .int .i64 cnt ∧ l + 1 ≤ k ∧ k ≤ 502 ∧ -1 ≤ far ∧ far ≤ 4000 ∧ 0 ≤ cnt ∧ cnt ≤ 1000 * k ∧ Hid (bsG (bs r d) st (X + 2 - k) k (L, far, cnt) = T) ∧ Ow wr C x L ∧ Below w.heap.size w wr) (fun _ _ _ i _ => 503 - (intOf i).toNat)
  case atStart => exact ⟨l + 1, [], -1, 0, by go_num, rfl, rfl, by omega, by omega, by omega, by omega, by omega, by omega, TT, World.ownsRow_nil _ _ _ _, Below.refl _ _⟩
  case round =>
    obtain ⟨k, L, far, cnt, rfl, rfl, rfl, hk1, hk2, hf0, hf1, hc0, hc1, HK, ho, hb⟩ := hrel
    obtain ⟨V, rfl⟩ : ∃ V, V = wr := ⟨wr, rfl⟩
    have hzV := hb.size
    by_cases hkX : k ≤ X + 1
    · have PUSH := Lib.hid (HT.out.push (n := (k : Int)) (by omega) (by rw [HL.out]; omega) (by omega))
      have hP2 : lastS (st ++ [(k : Int)]) * 6 ^ d ≤ 500 := by rw [lastS_push]; exact pow6_step (by rw [HL.out]; omega) HP.out
      have hin := bs_in r5 d (st ++ [(k : Int)]) PUSH.out (by simp; omega) hP2
      have hpw : (1000 : Int) ^ d ≤ 1000 := by
        have : d = 0 ∨ d = 1 := by omega
        rcases this with rfl | rfl <;> decide
      have RR := fun W v hv hC => Lib.hid (IH.out (st ++ [(k : Int)]) v W V.heap.size hv hC PUSH.out (by simp; omega) hP2)
      obtain ⟨f, hf⟩ : ∃ f, X + 2 - k = f + 1 := ⟨X + 1 - k, by omega⟩
      have hf2 : X + 2 - (k + 1) = f := by omega
      have E := HK.out
      rw [hf, bsG] at E
      obtain ⟨⟨L2, y, c⟩, eF⟩ : ∃ F, bs r d (st ++ [(k : Int)]) = F := ⟨_, rfl⟩
      rw [eF] at E RR hin
      unfold BsIn at hin
      simp only at hin RR
      obtain ⟨hy0, hy1, hcc0, hcc1⟩ := hin
      have hcc2 : c ≤ 1000 := by omega
      have HE := Lib.hid E
      clear E eF HK hf hP2 hpw hcc1
      go_wp2_with fail
      refine (RE _ hb).out.mono ?_
      rintro e w2 ⟨rfl, b2⟩
      have hb2 := nxt hb b2
      go_wp2_with fail
      refine (OW _ hb2).out.mono ?_
      rintro e w3 ⟨u, rfl, o3, b3⟩
      have hz2 := b2.size
      have hb3 := nxt b2 b3
      have o3 := o3.mono hz2
      have hz3 := hb3.size
      clear b3 b2 hb2
      go_wp2_with (at_builtin; refine wpList_append_src rfl _ _ rfl V.heap.size _ st rfl (o3.alloc _) _ [(k : Int)] rfl (src_one _ _) (by simp only [List.length_cons, List.length_nil]; omega) (by simp; omega) ?_; intro v' w4 h4 g4)
      have hb4 := (hb3.alloc hz3 _).trans ((o3.alloc _).grown (by simp; omega) g4)
      clear o3 g4 hb3
      go_wp2_with fail
      refine (RR _ _ h4 hb4.size).out.mono ?_
      rintro e w5 ⟨u5, rfl, o5, b5⟩
      have hb5 := nxt hb4 b5
      have o5 := o5.mono (Nat.le_trans hC hzV)
      have ho5 := ho.below hb5 (Nat.le_refl _)
      have hbw := nxt hb hb5
      clear h4 b5 hb4 RR hb5 ho hb
      by_cases hfy : far < y
      · have E := HE.out
        rw [show bsS (L, far, cnt) (L2, y, c) = (L2, y, c) by simp [bsS, hfy]] at E
        have HE2 := Lib.hid E
        clear E HE
        go_wp2_with fail
        go_roundw
        case rel => exact ⟨k + 1, L2, y, c, by go_num, rfl, by go_num, by omega, by omega, by omega, by omega, by omega, by omega, Lib.hid (by rw [hf2]; exact HE2.out), o5, hbw⟩
        case measure => simp [intOf]; omega
      · by_cases hye : y = far
        · have E := HE.out
          rw [show bsS (L, far, cnt) (L2, y, c) = (L, far, cnt + c) by simp [bsS, hye]] at E
          have HE2 := Lib.hid E
          subst hye
          clear E HE
          go_wp2_with fail
          go_roundw
          case rel => exact ⟨k + 1, L, y, cnt + c, by go_num, rfl, rfl, by omega, by omega, by omega, by omega, by omega, by omega, Lib.hid (by rw [hf2]; exact HE2.out), ho5, hbw⟩
          case measure => simp [intOf]; omega
        · have E := HE.out
          rw [show bsS (L, far, cnt) (L2, y, c) = (L, far, cnt) by simp [bsS, hfy, hye]] at E
          have HE2 := Lib.hid E
          have dy : (y == far) = false := by simpa using hye
          clear E HE
          go_wp2_with fail
          go_roundw
          case rel => exact ⟨k + 1, L, far, cnt, by go_num, rfl, rfl, by omega, by omega, by omega, by omega, by omega, by omega, Lib.hid (by rw [hf2]; exact HE2.out), ho5, hbw⟩
          case measure => simp [intOf]; omega
    · have E := HK.out
      rw [show X + 2 - k = 0 by omega, bsG] at E
      have dkx : decide ((k : Int) ≤ (X : Int) + 1) = false := by simp; omega
      subst E
      clear HK TT
      go_wp2_with fail
      refine (RE _ hb).out.mono ?_
      rintro e w2 ⟨rfl, b2⟩
      have hb2 := nxt hb b2
      have ho2 := ho.below b2 (Nat.le_refl _)
      go_wp2_with fail
      go_ret3
      exact ⟨_, rfl, ho2, hb2⟩

theorem bs_any (r kinds : Nat) (r1 : 1 ≤ r) (r5 : r ≤ 5) (hk : kinds ≤ 3) : ∀ d, BsOk r kinds d := by
  intro d
  induction d with
  | zero => exact bs_zero r kinds r1 r5 hk
  | succ d ih => exact bs_step r kinds d r1 r5 hk ih
theorem stm_one : Stm [1] := by
  refine ⟨by decide, by decide, fun j hj => ?_, fun j hj => ?_⟩
  · obtain rfl : j = 0 := by simp at hj; omega
    simp
  · simp at hj
/-- The best set that begins with 1, its reach, and how many there are. -/
def bsA (k r : Int) : BsR := bs r.toNat (k.toNat - 1) [1]
def brR (k r : Int) : Int := if fkB k r = true then (bsA k r).2.1 else 0
def fbR (k r : Int) : List Int := if fkB k r = true then (bsA k r).1 else []
def cbR (k r : Int) : Int := if fkB k r = true then (bsA k r).2.2 else 0
theorem ow_lit1 (w : World) : Ow (w.alloc (.cells #[.int .i64 1] 3)) w.heap.size (.slice (some ⟨w.heap.size, 0, none⟩) 1 1) [1] :=
  World.ownsRow_lit w #[.int .i64 1] 1 (Nat.le_refl _) (by unfold maxLen; omega) rfl
theorem best_call {k r : Int} (h : fkB k r = true) (w : World) :
    Calls Try.prog 67 #[.slice (some ⟨w.heap.size, 0, none⟩) 1 1, .int .i64 k, .int .i64 r] (w.alloc (.cells #[.int .i64 1] 3)) fun e w' => ∃ u, e = .returned (.tuple #[u, .int .i64 (bsA k r).2.1, .int .i64 (bsA k r).2.2]) ∧ Ow w' w.heap.size u (bsA k r).1 ∧ Below w.heap.size w w' := by
  simp only [fkB, Bool.and_eq_true] at h
  have h1 := inB_iff.1 h.1
  have h2 := inB_iff.1 h.2
  obtain ⟨k, rfl⟩ : ∃ m : Nat, k = m := ⟨k.toNat, by omega⟩
  obtain ⟨r, rfl⟩ : ∃ m : Nat, r = m := ⟨r.toNat, by omega⟩
  have hz : w.heap.size ≤ (w.alloc (.cells #[.int .i64 1] 3)).heap.size := by simp
  refine (bs_any r k (by omega) (by omega) (by omega) (k - 1) [1] _ _ w.heap.size (ow_lit1 w) hz stm_one (by simp; omega) ?_).mono ?_
  · have e : k - 1 = 0 ∨ k - 1 = 1 ∨ k - 1 = 2 := by omega
    rcases e with e | e | e <;> rw [e] <;> decide
  · rintro e w' ⟨u, he, ho, hb⟩
    exact ⟨u, he, ho, ((Below.refl _ _).alloc (Nat.le_refl _) _).trans (Below.mono hb hz)⟩
end Go.Proofs.Ytmllokooceghiaa
