/-
  ValuesWith in the model, by its contract. Condition: slices of at most 2^40 numbers.
-/
import Derived.Test.YtmllokooceghiaaStq
namespace Go.Proofs.Ytmllokooceghiaa
open Go.RowKit

theorem Try.infoB : (Try.prog.info? 4).map (fun i => (i.zero, i.size, i.bytes)) = some (some (.bool false), 1, 1) := by kernel_rfl
theorem rowIs_below {w w' : World} {g n B : Nat} {t : TypeId} {f : Nat → Value} (h : w.rowIs g t n f) (hb : Below B w w') (hB : w.heap.size ≤ B) : w'.rowIs g t n f :=
  h.of_block (hb.block g (Nat.lt_of_lt_of_le h.lt hB))
/-- What the model's table of the next round tells, the values below v done, and of v itself the first k kinds. -/
noncomputable def nxB (st : List Int) (c v j : Nat) : Bool := @decide (∃ u : Nat, u < v ∧ Mk st c u ∧ ∃ n ∈ st, (u : Int) + n = j) (Classical.propDecidable _)
noncomputable def nxK (st : List Int) (c v k j : Nat) : Bool := @decide ((∃ u : Nat, u < v ∧ Mk st c u ∧ ∃ n ∈ st, (u : Int) + n = j) ∨ ∃ n ∈ st.take k, (v : Int) + n = j) (Classical.propDecidable _)
theorem nxB_zero (st : List Int) (c j : Nat) : nxB st c 0 j = false := by simp [nxB]
theorem nxK_zero (st : List Int) (c v j : Nat) : nxK st c v 0 j = nxB st c v j := by
  unfold nxK nxB
  congr 1
  apply propext
  simp
theorem nxK_next {st : List Int} {c v k j : Nat} {n : Int} (hk : k < st.length) (hn : st.getD k 0 = n) : nxK st c v (k + 1) j = if (v : Int) + n = j then true else nxK st c v k j := by
  unfold nxK
  rw [take_snoc hk hn]
  by_cases h : (v : Int) + n = j
  · rw [if_pos h]; simp only [decide_eq_true_eq]; exact .inr ⟨n, by simp, h⟩
  · rw [if_neg h]
    congr 1
    apply propext
    constructor
    · rintro (h1 | ⟨m, hm, he⟩)
      · exact .inl h1
      · rcases List.mem_append.1 hm with hm | hm
        · exact .inr ⟨m, hm, he⟩
        · obtain rfl : m = n := by simpa using hm
          exact absurd he h
    · rintro (h1 | ⟨m, hm, he⟩)
      · exact .inl h1
      · exact .inr ⟨m, by simp [hm], he⟩
theorem nxK_all {st : List Int} {c v j : Nat} (h : Mk st c v) : nxK st c v st.length j = nxB st c (v + 1) j := by
  unfold nxK nxB
  rw [List.take_length]
  congr 1
  apply propext
  constructor
  · rintro (⟨u, hu, h1, h2⟩ | h2)
    · exact ⟨u, by omega, h1, h2⟩
    · exact ⟨v, by omega, h, h2⟩
  · rintro ⟨u, hu, h1, h2⟩
    by_cases e : u = v
    · subst e; exact .inr h2
    · exact .inl ⟨u, by omega, h1, h2⟩
theorem nxB_skip {st : List Int} {c v j : Nat} (h : ¬ Mk st c v) : nxB st c (v + 1) j = nxB st c v j := by
  unfold nxB
  congr 1
  apply propext
  constructor
  · rintro ⟨u, hu, h1, h2⟩
    by_cases e : u = v
    · subst e; exact absurd h1 h
    · exact ⟨u, by omega, h1, h2⟩
  · rintro ⟨u, hu, h1, h2⟩
    exact ⟨u, by omega, h1, h2⟩
theorem mk_nn {st : List Int} (h : ∀ n ∈ st, 1 ≤ n) : ∀ (k : Nat) (v : Int), Mk st k v → 0 ≤ v := by
  intro k
  induction k with
  | zero => intro v hv; simp only [Mk] at hv; omega
  | succ k ih => intro v hv; obtain ⟨n, hn, hk⟩ := hv; have := ih _ hk; have := h n hn; omega
theorem nxB_all {st : List Int} (hs : Stm st) {c M : Nat} (hM : (c : Int) * lastS st ≤ M) (j : Nat) : nxB st c (M + 1) j = mkB st (c + 1) j := by
  have h1 : ∀ n ∈ st, 1 ≤ n := fun n hn => (hs.mem n hn).1
  unfold nxB mkB
  congr 1
  apply propext
  constructor
  · rintro ⟨u, hu, hm, n, hn, he⟩
    exact ⟨n, hn, by rw [show (j : Int) - n = u by omega]; exact hm⟩
  · rintro ⟨n, hn, hm⟩
    have h0 := mk_nn h1 c _ hm
    have hb := (Mk.bd (st := st) (lo := 1) (hi := lastS st) (fun n hn => ⟨h1 n hn, hs.le_last n hn⟩) c _ hm).2
    rw [Int.mul_comm] at hb
    refine ⟨((j : Int) - n).toNat, by omega, ?_, n, hn, by omega⟩
    rw [Int.toNat_of_nonneg h0]; exact hm
theorem mkB_zero (st : List Int) (j : Nat) : mkB st 0 j = decide (j = 0) := by
  unfold mkB
  simp only [Mk]
  by_cases h : j = 0
  · simp [h]
  · simp [h]

/-- The values of just c stamps below k. -/
noncomputable def vwK (st : List Int) (c k : Nat) : List Int := ((List.range k).filter fun (j : Nat) => mkB st c (j : Int)).map fun (j : Nat) => (j : Int)
theorem vwK_yes {st : List Int} {c k : Nat} (h : mkB st c (k : Int) = true) : vwK st c (k + 1) = vwK st c k ++ [(k : Int)] := by
  unfold vwK; rw [List.range_succ, List.filter_append]; simp [h]
theorem vwK_no {st : List Int} {c k : Nat} (h : mkB st c (k : Int) = false) : vwK st c (k + 1) = vwK st c k := by
  unfold vwK; rw [List.range_succ, List.filter_append]; simp [h]
theorem vwK_len (st : List Int) (c k : Nat) : (vwK st c k).length ≤ k := by
  unfold vwK; rw [List.length_map]; exact Nat.le_trans (List.length_filter_le _ _) (by simp)
noncomputable def vwB (st : List Int) (a : Int) : Bool := stmB st && inB a 0 8
noncomputable def vwR (st : List Int) (a : Int) : List Int := if vwB st a = true then vwK st a.toNat (a.toNat * (lastS st).toNat + 1) else []
theorem vwR_len (st : List Int) (a : Int) : (vwR st a).length ≤ 1099511627776 := by
  unfold vwR
  split
  · rename_i h
    simp only [vwB, Bool.and_eq_true] at h
    have S := stmB_iff.1 h.1
    have ha := inB_iff.1 h.2
    have hb := S.last_bd
    have h2 : a.toNat * (lastS st).toNat ≤ 8 * 500 := Nat.mul_le_mul (by omega) (by omega)
    have := vwK_len st a.toNat (a.toNat * (lastS st).toNat + 1)
    omega
  · simp

set_option maxHeartbeats 8000000 in
set_option maxRecDepth 20000 in
theorem specValuesWith_any (v : Value) (st : List Int) (a1 : Int) (w : World) (h : Sp w v st) (hl : st.length ≤ 1099511627776) :
    Calls Try.prog 35 #[v, .int .i64 a1] w fun e w' => ∃ u, e = .returned (.tuple #[u, .bool (vwB st a1)]) ∧ Ow w' w.heap.size u (vwR st a1) ∧ Below w.heap.size w w' := by
  have HS := Lib.hid h.sv
  by_cases hg : stmB st = true
  · by_cases hv : inB a1 0 8 = true
    · have S := stmB_iff.1 hg
      have hab := inB_iff.1 hv
      obtain ⟨a, rfl⟩ : ∃ a : Nat, a1 = a := ⟨a1.toNat, by omega⟩
      have R := Lib.hid (show vwB st a = true by simp [vwB, hg, hv])
      have HT := Lib.hid S
      have hlb := S.last_bd
      have h6 := S.six
      have h1 := S.one
      obtain ⟨l, el⟩ : ∃ l : Nat, lastS st = l := ⟨(lastS st).toNat, by omega⟩
      have Q : Hid (vwR st a = vwK st a (a * l + 1)) := Lib.hid (by unfold vwR; rw [if_pos R.out, el]; rfl)
      have NA : ∀ c M : Nat, M = c * l → ∀ j : Nat, Hid (nxB st c (M + 1) j = mkB st (c + 1) j) := fun c M hM j => Lib.hid (nxB_all S (by rw [el, hM]; exact_mod_cast Nat.le_refl _) j)
      have RG := Lib.hid (stGood_any v st w HS.out hl)
      rw [hg] at RG
      obtain ⟨b, off, cap, rfl, hcap, hcm, hbl, hc⟩ := h
      obtain ⟨n, hn⟩ : ∃ n, st.length = n + 1 := ⟨st.length - 1, by omega⟩
      have hcell0 : w.cell? ⟨b, off + n, none⟩ = some (.int .i64 l) := by
        have := hc n (by omega)
        rw [this, ← el]; unfold lastS; rw [hn]; rfl
      have HC := Lib.hid hc
      have HL := Lib.hid el
      have hl1 : 1 ≤ l ∧ l ≤ 500 := by omega
      obtain ⟨hl1, hl5⟩ := hl1
      clear S hc hcm el hlb hcap
      rw [hn] at RG ⊢
      have HN := Lib.hid hn
      go_enter Try.func35, Try.ntmps35
      go_wp2_with fail
      refine RG.out.mono ?_
      rintro e w1 ⟨rfl, b1⟩
      clear RG
      go_wp2_with fail
      refine (l1In_any _ _ _ _).mono ?_
      rw [hv]
      rintro e w1' ⟨rfl, rfl⟩
      have z1 := b1.size
      go_wp2
      go_loopw [1, 6] (fun x y wr => ∃ (c d M g : Nat), c + d = a ∧ x = .int .i64 d ∧ Hid (M = c * l) ∧ M ≤ 4000 ∧ y = .slice (some ⟨g, 0, none⟩) (M + 1) (M + 1) ∧ wr.rowIs g 4 (M + 1) (fun j => .bool (mkB st c (j : Nat))) ∧ Below w.heap.size w wr) (fun x _ _ => (intOf x).toNat)
      case atStart =>
        refine ⟨0, a, 0, w1.heap.size, by omega, rfl, Lib.hid (by simp), by omega, rfl, ?_, b1.alloc z1 _⟩
        refine (World.rowIs_alloc w1 #[.bool true] 4 (fun j => .bool (mkB st 0 (j : Nat))) (fun i hi => ?_))
        have : i = 0 := by simpa using hi
        subst this
        rw [mkB_zero]; rfl
      case round =>
        obtain ⟨c, d, M, g, hcd, rfl, HM, hM4, rfl, hrow, hb⟩ := hrel
        have hz := hb.size
        have hgl := hrow.lt
        obtain ⟨V, rfl⟩ : ∃ V, V = wr := ⟨wr, rfl⟩
        by_cases hd : 0 < d
        · have hcellL := (hb.cell (p := ⟨b, off + n, none⟩) hbl).trans hcell0
          have hmk := run_make_row' (P := Try.prog) 54 4 (.bool false) 1 Try.underlying54 Try.infoB rfl .i64 .i64 (M + 1 + l) (by omega) (by omega)
          rw [show ((M + 1 + l : Nat) : Int) = (M : Int) + 1 + l by omega] at hmk
          go_wp2
          go_loopw [40] (fun i w3 => ∃ v : Nat, v ≤ M + 1 ∧ i = .int .i64 v ∧ w3.rowIs V.heap.size 4 (M + 1 + l) (fun j => .bool (nxB st c v j)) ∧ Below V.heap.size V w3) (fun i _ => M + 1 - (intOf i).toNat)
          case atStart => exact ⟨0, Nat.zero_le _, rfl, (World.rowIs_made V _ _ _).congr (fun j _ => by rw [nxB_zero]), (Below.refl _ _).alloc (Nat.le_refl _) _⟩
          case round =>
            obtain ⟨v, hv1, rfl, hnx, hb3⟩ := hrel
            clear hmk
            by_cases hvb : v < M + 1
            · have hcv := (hb3.cell (p := ⟨g, v, none⟩) hgl).trans (hrow.cell hvb)
              by_cases hmv : mkB st c (v : Int) = true
              · rw [hmv] at hcv
                have hmv' : Mk st c v := by simpa [mkB] using hmv
                have AL := fun j => Lib.hid (nxK_all (j := j) hmv')
                clear hmv hmv'
                go_wp2
                go_loopw [48] (fun i w4 => ∃ k : Nat, k ≤ st.length ∧ i = .int .i64 k ∧ w4.rowIs V.heap.size 4 (M + 1 + l) (fun j => .bool (nxK st c v k j)) ∧ Below V.heap.size V w4) (fun i _ => st.length - (intOf i).toNat)
                case atStart => exact ⟨0, Nat.zero_le _, rfl, hnx.congr (fun j _ => by rw [nxK_zero]), hb3⟩
                case round =>
                  obtain ⟨k, hk, rfl, hnx, hb3⟩ := hrel
                  by_cases hkl : k < st.length
                  · have hcq := (hb3.cell (p := ⟨b, off + k, none⟩) (Nat.lt_of_lt_of_le hbl hz)).trans ((hb.cell (p := ⟨b, off + k, none⟩) hbl).trans (HC.out k hkl))
                    have hmem : st.getD k 0 ∈ st := by rw [List.getD_eq_getElem?_getD, List.getElem?_eq_getElem hkl]; exact List.getElem_mem hkl
                    have hq1 := HT.out.mem _ hmem
                    have hq2 := HT.out.le_last _ hmem
                    rw [HL.out] at hq2
                    obtain ⟨n', en⟩ : ∃ n', st.getD k 0 = n' := ⟨_, rfl⟩
                    rw [en] at hcq hq1 hq2
                    obtain ⟨q, rfl⟩ : ∃ q : Nat, n' = q := ⟨n'.toNat, by omega⟩
                    have NX := fun j => Lib.hid (nxK_next (c := c) (v := v) (j := j) hkl en)
                    have hkn : k < n + 1 := by have := HN.out; omega
                    have hset := hnx.set (v + q) (.bool true)
                    have hfr := hnx.frozen (v + q)
                    have hold := hnx.cell (i := v + q) (by omega)
                    have q1 : (v : Int) + q < (M : Int) + 1 + l := by omega
                    have q0 : (0 : Int) ≤ (v : Int) + q := by omega
                    have q2 : ((v : Int) + q).toNat = v + q := by omega
                    clear en hmem
                    go_wp2
                    go_roundw
                    case rel =>
                      refine ⟨k + 1, by omega, by go_num, hset.congr (fun j _ => ?_), hb3.setCell (Nat.le_refl _) _⟩
                      rw [(NX j).out]
                      by_cases e : j = v + q
                      · subst e; simp
                      · have : ¬ (v : Int) + q = j := by omega
                        simp [e, this]
                    case measure => simp [intOf]; omega
                  · have hke : k = st.length := by omega
                    have hkn : ¬ k < n + 1 := by have := HN.out; omega
                    go_wp2
                    go_roundw
                    case rel => exact ⟨v + 1, by omega, by go_num, hnx.congr (fun j _ => by rw [hke, (AL j).out]), hb3⟩
                    case measure => simp [intOf]; omega
              · have hmv' : ¬ Mk st c v := by simpa [mkB] using hmv
                rw [show mkB st c (v : Int) = false by simpa using hmv] at hcv
                have SK := fun j => Lib.hid (nxB_skip (j := j) hmv')
                clear hmv hmv'
                go_wp2
                go_roundw
                case rel => exact ⟨v + 1, by omega, by go_num, hnx.congr (fun j _ => by rw [(SK j).out]), hb3⟩
                case measure => simp [intOf]; omega
            · have hve : v = M + 1 := by omega
              subst hve
              have hM2 : M + l = (c + 1) * l := by rw [HM.out, Nat.succ_mul]
              have hM3 : (c + 1) * l ≤ 8 * 500 := Nat.mul_le_mul (by omega) hl5
              have H2 := Lib.hid hM2
              have hM5 : M + l ≤ 4000 := by omega
              clear hM2 hM3
              go_wp2
              go_roundw
              case rel => exact ⟨c + 1, d - 1, M + l, V.heap.size, by omega, by go_num, H2, hM5, by rw [Nat.add_right_comm], by rw [Nat.add_right_comm M l 1]; exact hnx.congr (fun j _ => by rw [(NA c M HM.out j).out]), hb.trans (Below.mono hb3 hz)⟩
              case measure => simp [intOf]; omega
        · have dd : decide ((0 : Int) < (d : Int)) = false := by simp; omega
          obtain rfl : c = a := by omega
          go_wp2
          go_loopw [12, 62] (fun t i w3 => ∃ k : Nat, k ≤ M + 1 ∧ i = .int .i64 k ∧ Ow w3 V.heap.size t (vwK st c k) ∧ Below V.heap.size V w3) (fun _ i _ => M + 1 - (intOf i).toNat)
          case atStart => exact ⟨0, Nat.zero_le _, rfl, World.ownsRow_nil _ _ _ _, Below.refl _ _⟩
          case round =>
            obtain ⟨k, hk, rfl, ho, hb3⟩ := hrel
            have hz3 := hb3.size
            have hvl := vwK_len st c k
            by_cases hkb : k < M + 1
            · have hcv := (hb3.cell (p := ⟨g, k, none⟩) hgl).trans (hrow.cell hkb)
              by_cases hmv : mkB st c (k : Int) = true
              · have S2 := Lib.hid (vwK_yes hmv)
                rw [hmv] at hcv
                clear hmv
                go_wp2_with (at_builtin; refine wpList_append_src rfl _ _ rfl V.heap.size _ (vwK st c k) rfl (ho.alloc _) _ [(k : Int)] rfl (src_one _ _) (by simp only [List.length_cons, List.length_nil]; omega) (by simp; omega) ?_; intro v' w4 h4 g4)
                have b4 := (hb3.alloc hz3 _).trans ((ho.alloc _).grown (by simp; omega) g4)
                clear ho g4 hb3
                go_roundw
                case rel => exact ⟨k + 1, by omega, by go_num, by rw [S2.out]; exact h4, b4⟩
                case measure => simp only [intOf]; omega
              · have hmv : mkB st c (k : Int) = false := by simpa using hmv
                have S2 := Lib.hid (vwK_no hmv)
                rw [hmv] at hcv
                clear hmv
                go_wp2
                go_roundw
                case rel => exact ⟨k + 1, by omega, by go_num, by rw [S2.out]; exact ho, hb3⟩
                case measure => simp only [intOf]; omega
            · have hke : k = M + 1 := by omega
              subst hke
              go_wp2
              go_ret2
              exact ⟨_, ret_lb rfl R.out.symm, by rw [Q.out, ← HM.out]; exact ho.mono hz, hb.trans (Below.mono hb3 hz)⟩
    · have hv : inB a1 0 8 = false := by simpa using hv
      have R := Lib.hid (show vwB st a1 = false by simp [vwB, hv])
      have Q := Lib.hid (show vwR st a1 = [] by simp [vwR, R.out])
      clear h
      go_enter Try.func35, Try.ntmps35
      go_wp2_with fail
      refine (stGood_any _ _ _ HS.out hl).mono ?_
      rw [hg]
      rintro e w1 ⟨rfl, b1⟩
      go_wp2_with fail
      refine (l1In_any _ _ _ _).mono ?_
      rw [hv]
      rintro e w1' ⟨rfl, rfl⟩
      go_wp2_with fail
      go_ret2
      exact ⟨_, ret_lb rfl R.out.symm, by rw [Q.out]; exact World.ownsRow_nil _ _ _ _, b1⟩
  · have hg : stmB st = false := by simpa using hg
    have R := Lib.hid (show vwB st a1 = false by simp [vwB, hg])
    have Q := Lib.hid (show vwR st a1 = [] by simp [vwR, R.out])
    clear h
    go_enter Try.func35, Try.ntmps35
    go_wp2_with fail
    refine (stGood_any _ _ _ HS.out hl).mono ?_
    rw [hg]
    rintro e w1 ⟨rfl, b1⟩
    go_wp2_with fail
    go_ret2
    exact ⟨_, ret_lb rfl R.out.symm, by rw [Q.out]; exact World.ownsRow_nil _ _ _ _, b1⟩
end Go.Proofs.Ytmllokooceghiaa
