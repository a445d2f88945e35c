/-
  NextStamp in the program, by its contract. Condition: slices of at most 2^40 numbers.
-/
import Derived.Test.YtmllokooceghiaaTsn
namespace Go.Proofs.Ytmllokooceghiaa
open Go.RowKit

theorem fold_take {α β : Type} (f : α → β → α) (a : α) (L : List β) (d : β) {j : Nat} (hj : j < L.length) : (L.take (j + 1)).foldl f a = f ((L.take j).foldl f a) (L.getD j d) := by
  rw [List.take_add_one, List.getElem?_eq_getElem hj, List.foldl_append, List.getD_eq_getElem?_getD, List.getElem?_eq_getElem hj]
  rfl
theorem nxS_mem {R : Nat} {st x : List Int} (h : x ∈ nxS R st) : ∃ n : Nat, x = st ++ [(n : Int)] ∧ (lastS st).toNat < n ∧ n ≤ min (R + 1) 500 := by
  unfold nxS at h
  rw [List.mem_map] at h
  obtain ⟨j, hj, rfl⟩ := h
  rw [List.mem_range] at hj
  exact ⟨_, rfl, by omega, by omega⟩
theorem nxS_len (R : Nat) (st : List Int) : (nxS R st).length ≤ 500 := by
  unfold nxS
  rw [List.length_map, List.length_range]
  omega
/-- A row of a slice of slices, as it lies in a later world. -/
theorem ows_row {w1 wi : World} {B g c : Nat} {L : List (List Int)} (h : Ows w1 B (.slice (some ⟨g, 0, none⟩) L.length c) L) (k : Below w1.heap.size w1 wi) {j : Nat} (hj : j < L.length) :
    ∃ gj cj, wi.cell? ⟨g, j, none⟩ = some (.slice (some ⟨gj, 0, none⟩) (L.getD j []).length cj) ∧ gj < wi.heap.size ∧ (∀ i, i < (L.getD j []).length → wi.cell? ⟨gj, 0 + i, none⟩ = some (.int .i64 ((L.getD j []).getD i 0))) ∧ OwP wi B (.slice (some ⟨gj, 0, none⟩) (L.getD j []).length cj) (L.getD j []) := by
  have h2 := h.below k (Nat.le_refl _)
  rcases h2.form with ⟨e, _⟩ | ⟨g2, cap, hv, _, hlt, hc⟩
  · simp at e
  · simp only [Value.slice.injEq, Option.some.injEq, Addr.mk.injEq, and_true, true_and] at hv
    obtain ⟨rfl, rfl⟩ := hv
    obtain ⟨u, hu, ho⟩ := hc j hj
    obtain ⟨gj, cj, rfl, hg, hl⟩ := ho.lies
    exact ⟨gj, cj, hu, hg, hl, ho⟩

set_option maxHeartbeats 4000000 in
set_option maxRecDepth 20000 in
theorem implNextStamp_any (v : Value) (st : List Int) (a1 : Int) (w : World) (h : Sp w v st) (hl : st.length ≤ 1099511627776) :
    Calls Try.prog 38 #[v, .int .i64 a1] w fun e w' => e = .returned (.tuple #[.int .i64 (nsR st a1), .bool (nsB st a1)]) ∧ Below w.heap.size w w' := by
  have HS := Lib.hid h.sv
  by_cases hr : rmB st a1 = true
  · obtain ⟨S, r, rfl, r1, r8⟩ := rmB_yes hr
    have h6 := S.six
    have AR := Lib.hid (areStampsInRoom_any v st r w h.sv hl)
    rw [hr] at AR
    by_cases h66 : st.length = 6
    · have G := Lib.hid (show false = nsB st r by simp [nsB, h66])
      obtain ⟨b, off, cap, rfl, _, _, hb, hc⟩ := h
      rw [h66] at AR ⊢
      clear hc S HS
      go_enter Try.func38, Try.ntmps38
      go_wp2_with fail
      refine AR.out.mono ?_
      rintro e w0 ⟨rfl, rfl⟩
      go_wp2_with fail
      go_ret2
      exact ⟨ret_ib (by simp [nsR, ← G.out]) G.out, Below.refl _ _⟩
    · have d6 : ((st.length : Int) == 6) = false := by rw [beq_eq_false_iff_ne]; omega
      have Q := Lib.hid (next_fold S r1 r8 (by omega))
      have G : Hid (nsB st r = !(nxT st r == 0)) := Lib.hid (by simp [nsB, hr, h66])
      have hlb := S.last_bd
      have MS : Hid (∀ x ∈ nxS (rch st r) st, Stm x ∧ ∃ n : Nat, x = st ++ [(n : Int)] ∧ 1 ≤ n) := Lib.hid fun x hx => by
        obtain ⟨n, rfl, h1, h2⟩ := nxS_mem hx
        exact ⟨S.push (by omega) (by omega) (by omega), n, rfl, by omega⟩
      obtain ⟨b, off, cap, rfl, _, _, hb, hc⟩ := h
      have NS := Lib.hid (nextSets_any b off cap r st w (.inr S) hb hc r8)
      have hL := nxS_len (rch st r) st
      obtain ⟨L, eL⟩ : ∃ L, nxS (rch st r) st = L := ⟨_, rfl⟩
      rw [eL] at hL
      rw [eL] at NS Q MS
      obtain ⟨k, ek⟩ : ∃ k, st.length = k := ⟨_, rfl⟩
      have EK := Lib.hid ek
      rw [ek] at Q NS AR d6 ⊢
      have hk6 : k ≤ 6 := by omega
      clear hc S HS eL hlb ek h6 hl h66
      go_enter Try.func38, Try.ntmps38
      go_wp2_with fail
      refine AR.out.mono ?_
      rintro e w0 ⟨rfl, rfl⟩
      go_wp2_with fail
      refine NS.out.mono ?_
      rintro e w1 ⟨u, rfl, o1, hne, b1⟩
      rcases o1.form with ⟨e, _⟩ | ⟨g, c, rfl, _, hg, _⟩
      · exact (hne e).elim
      have O1 := Lib.hid o1
      have Z1 := b1.size
      clear NS AR o1 hne
      go_wp2
      go_loopw [6, 7, 24] (fun x y i wr => ∃ (j : Nat) (p f : Int), j ≤ L.length ∧ i = .int .i64 (j : Int) ∧ x = .int .i64 p ∧ y = .int .i64 f ∧ 0 ≤ p ∧ Hid ((L.take j).foldl (nfS r k) (0, 0) = (p, f)) ∧ Below w1.heap.size w1 wr) (fun _ _ i _ => L.length - (intOf i).toNat)
      case atStart => exact ⟨0, 0, 0, Nat.zero_le _, rfl, rfl, rfl, Int.le_refl _, Lib.hid rfl, Below.refl _ _⟩
      case round =>
        obtain ⟨j, p, f, hj, rfl, rfl, rfl, hp0, HF, hb2⟩ := hrel
        by_cases hlt : j < L.length
        · have FT := fold_take (nfS r k) (0, 0) L [] hlt
          rw [HF.out] at FT
          have hmem : L.getD j [] ∈ L := by rw [List.getD_eq_getElem?_getD, List.getElem?_eq_getElem hlt]; exact List.getElem_mem hlt
          obtain ⟨SX, n, en, hn⟩ := MS.out _ hmem
          obtain ⟨gj, cj, hcj, hgj, hlj, _⟩ := ows_row O1.out hb2 hlt
          have hkl : (L.getD j []).length = k + 1 := by rw [en, List.length_append, EK.out]; rfl
          have hkv : (L.getD j []).getD k 0 = n := by
            have := EK.out
            rw [en, ← this]; simp
          have hck : wr.cell? ⟨gj, k, none⟩ = some (.int .i64 ((L.getD j []).getD k 0)) := by have := hlj k (by omega); rwa [Nat.zero_add] at this
          have RX := Lib.hid (reachOf_any gj 0 cj r (L.getD j []) wr (.inr SX) hgj hlj r8)
          have NF : nfS r k (p, f) (L.getD j []) = if f < (rch (L.getD j []) r : Int) then ((n : Int), (rch (L.getD j []) r : Int)) else (p, f) := by unfold nfS; rw [hkv]
          rw [NF] at FT
          rw [hkv] at hck
          rw [hkl] at hcj RX
          obtain ⟨X, eX⟩ : ∃ X, rch (L.getD j []) r = X := ⟨_, rfl⟩
          rw [eX] at RX FT
          have hjL : (j : Int) < (L.length : Int) := by omega
          clear hlj hkl hkv eX NF SX en hmem
          by_cases hfX : f < (X : Int)
          · rw [if_pos hfX] at FT
            have HFT := Lib.hid FT
            clear FT HF
            go_wp2_with (go_at_call 58; refine RX.out.mono ?_; rintro e w2 ⟨rfl, b2⟩; have hck2 := (b2.cell (p := ⟨gj, k, none⟩) hgj).trans hck)
            have hb3 := nxt hb2 b2
            go_roundw
            case rel => exact ⟨j + 1, n, X, by omega, by go_num, rfl, rfl, by omega, HFT, hb3⟩
            case measure => simp [intOf]; omega
          · rw [if_neg hfX] at FT
            have dfx : decide (f < (X : Int)) = false := by simpa using hfX
            have HFT := Lib.hid FT
            clear FT HF
            go_wp2_with (go_at_call 58; refine RX.out.mono ?_; rintro e w2 ⟨rfl, b2⟩)
            have hb3 := nxt hb2 b2
            go_roundw
            case rel => exact ⟨j + 1, p, f, by omega, by go_num, rfl, rfl, hp0, HFT, hb3⟩
            case measure => simp [intOf]; omega
        · obtain rfl : j = L.length := by omega
          have E := HF.out
          rw [List.take_length] at E
          have E2 := Q.out
          rw [E] at E2
          have P : Hid (p = nxT st r) := Lib.hid E2
          clear E E2 HF hlt
          by_cases hp : 0 < p
          · have G2 : Hid (true = nsB st r) := Lib.hid (by rw [G.out, ← P.out]; simp; omega)
            have Q2 : Hid (p = nsR st r) := Lib.hid (by unfold nsR; rw [← G2.out, if_pos rfl, Int.toNat_natCast]; exact P.out)
            go_wp2
            go_ret2
            exact ⟨ret_ib Q2.out G2.out, b1.trans (hb2.mono Z1)⟩
          · obtain rfl : p = 0 := by omega
            have G2 : Hid (false = nsB st r) := Lib.hid (by rw [G.out, ← P.out]; rfl)
            have Q2 : Hid (0 = nsR st r) := Lib.hid (by unfold nsR; rw [← G2.out]; rfl)
            go_wp2
            go_ret2
            exact ⟨ret_ib Q2.out G2.out, b1.trans (hb2.mono Z1)⟩
  · have hr : rmB st a1 = false := by simpa using hr
    have G := Lib.hid (show false = nsB st a1 by simp [nsB, hr])
    go_enter Try.func38, Try.ntmps38
    go_wp2_with fail
    refine (areStampsInRoom_any _ _ _ _ HS.out hl).mono ?_
    rw [hr]
    rintro e w0 ⟨rfl, rfl⟩
    go_wp2_with fail
    go_ret2
    exact ⟨ret_ib (by simp [nsR, ← G.out]) G.out, Below.refl _ _⟩
end Go.Proofs.Ytmllokooceghiaa
