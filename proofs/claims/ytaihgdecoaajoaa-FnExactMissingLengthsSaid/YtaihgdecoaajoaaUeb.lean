/-
  MissingLengths in the program, by its contract. Condition: slices of at most 2^40 numbers.
-/
import Derived.Test.YtaihgdecoaajoaaUpd
import Derived.Test.YtaihgdecoaajoaaRsr
namespace Go.Proofs.Ytaihgdecoaajoaa
open Go.RowKit

set_option maxHeartbeats 8000000 in
set_option maxRecDepth 20000 in
theorem implMissingLengths_any (v : Value) (ms : List Int) (w : World) (h : Sp w v ms) (hl : ms.length ≤ 1099511627776) :
    Calls Try.prog 31 #[v] w fun e w' => ∃ u, e = .returned (.tuple #[u, .bool (rulB ms)]) ∧ Ow w' w.heap.size u (miR ms) ∧ Below w.heap.size w w' := by
  have IR := Lib.hid (implIsRuler_any v ms w h hl)
  by_cases hg : rulB ms = true
  · have S := rulB_iff.1 hg
    have hlb := S.last_bd
    have h2 := S.two
    have PO := fun W (hb : Below w.heap.size w W) => Lib.hid (pairsOf_any v ms W (h.below hb (Nat.le_refl _)) S)
    have RL := fun W (hb : Below w.heap.size w W) => Lib.hid (rulerLength_any v ms W (h.sv.below hb (Nat.le_refl _)) (by omega) (by omega))
    have CL : Hid (∀ k : Nat, k < 61 → (iA (tm ms))[k]? = some (.int .i64 (tm ms (k : Int)))) := Lib.hid fun k hk => arG_at _ hk
    have Q : Hid (miR ms = wiK ms false (lastM ms).toNat) := Lib.hid (by rw [← mi_last S]; simp [miR, hg])
    have TB := Lib.hid (fun n => tm_bd (ms := ms) hlb.2.2 n)
    obtain ⟨C, eC⟩ : ∃ C, iA (tm ms) = C := ⟨_, rfl⟩
    have HCs : Hid (C.size = 61) := Lib.hid (by rw [← eC]; exact iA_size _)
    have HCo : Hid (C.all (·.oneCell') = true) := Lib.hid (by rw [← eC]; exact iA_one _)
    rw [eC] at PO CL
    obtain ⟨l, el⟩ : ∃ l : Nat, lastM ms = l := ⟨(lastM ms).toNat, by omega⟩
    have hl1 : 1 ≤ l := by omega
    have hl60 : l ≤ 60 := by omega
    rw [el] at RL Q
    rw [Int.toNat_natCast] at Q
    rw [hg] at IR ⊢
    clear h S hg hlb h2 eC el
    go_enter Try.func31, Try.ntmps31
    go_wp2_with fail
    refine IR.out.mono ?_
    rintro e w0 ⟨rfl, b0⟩
    clear IR
    go_wp2_with fail
    refine (PO _ b0).out.mono ?_
    rintro e w1 ⟨rfl, b1⟩
    have b1 := nxt b0 b1
    clear PO b0
    go_wp2_with (refine wpList_store_row rfl 46 _ _ rfl w1.heap.size C rfl rfl 46 litI (by exact heap_alloc_new w1 _) (by rw [HCs.out]; exact Try.prsI) (by rw [HCs.out]; rfl) HCo.out ?_; erw [World.setRow_alloc_new])
    have z1 := b1.size
    have hb2 : Below w.heap.size w ((w1.alloc (.cells C 46)).alloc (.cells #[] 3)) := (b1.alloc z1 _).alloc (by simp; omega) _
    have CV : Hid (∀ k : Nat, k < 61 → (w1.alloc (.cells C 46)).cell? ⟨w1.heap.size, k, none⟩ = some (.int .i64 (tm ms (k : Int)))) := Lib.hid fun k hk => by
      have e := heap_alloc_new w1 (.cells C 46)
      simp only [World.cell?, e, CL.out k hk]
      rfl
    have ho0 := (ow_empty (w1.alloc (.cells C 46)))
    have hbV : Below (w1.heap.size + 1) (w1.alloc (.cells C 46)) ((w1.alloc (.cells C 46)).alloc (.cells #[] 3)) := (Below.refl _ _).alloc (by simp) _
    simp only [World.size_alloc] at ho0
    obtain ⟨N, hN⟩ : ∃ N, w1.heap.size = N := ⟨_, rfl⟩
    have hVs : (w1.alloc (.cells C 46)).heap.size = N + 1 := by simp [hN]
    rw [hN] at CV ho0 hbV ⊢
    obtain ⟨V, eV⟩ : ∃ V, w1.alloc (.cells C 46) = V := ⟨_, rfl⟩
    rw [eV] at hb2 CV ho0 hbV hVs
    first | rw [eV] | skip
    have hNw : w.heap.size ≤ N := by omega
    clear CL hN eV z1
    go_loopw [5, 6] (fun a x wr => ∃ k : Nat, 1 ≤ k ∧ k ≤ l ∧ x = .int .i64 k ∧ Ow wr (N + 1) a (wiK ms false k) ∧ Below (N + 1) V wr ∧ Below w.heap.size w wr) (fun _ x _ => l - (intOf x).toNat)
    case atStart => exact ⟨1, by omega, hl1, rfl, by rw [show wiK ms false 1 = [] from wiK_no (.inl rfl)]; exact ho0, hbV, hb2⟩
    case round =>
      clear ho0 hbV hb2
      obtain ⟨k, hk1, hk, rfl, ho, hV, hb⟩ := hrel
      have hz := hb.size
      have hzV := hV.size
      have hwl := wiK_len ms false k
      have RL := RL wr hb
      by_cases hlt : k < l
      · have hcell := (hV.cell (p := ⟨N, k, none⟩) (by show N < N + 1; omega)).trans (CV.out k (by omega))
        have tb := TB.out (k : Int)
        have YE := Lib.hid (wiK_yes (ms := ms) (b := false) (k := k) (by omega))
        have NO := Lib.hid (wiK_no (ms := ms) (b := false) (k := k))
        obtain ⟨x, ex⟩ : ∃ x, tm ms (k : Int) = x := ⟨_, rfl⟩
        rw [ex] at hcell tb YE NO
        have d1 : decide ((k : Int) < (l : Int)) = true := by rw [decide_eq_true_eq]; omega
        have hi1 : (k : Int) < 61 := by omega
        clear ex
        by_cases hx : x = 0
        · subst hx
          have FS := Lib.hid (YE.out (by simp))
          go_wp2_with (first
            | (go_at_call 65; refine RL.out.mono ?_; rintro e w2 ⟨rfl, rfl⟩)
            | (at_builtin; refine wpList_append_src rfl _ _ rfl (N + 1) _ (wiK ms false k) rfl (ho.alloc _) _ [(k : Int)] rfl (src_one _ _) (by simp only [List.length_cons, List.length_nil]; omega) (by simp; omega) ?_; intro v' w3 h3 g3))
          have b3 := (hb.alloc hz _).trans (((ho.alloc _).grown (by simp; omega) g3).mono (by omega))
          have V3 := (hV.alloc (by omega) _).trans ((ho.alloc _).grown (by simp; omega) g3)
          clear ho g3 hb
          go_roundw
          case rel => exact ⟨k + 1, by omega, by omega, by go_num, by rw [FS.out]; exact h3, V3, b3⟩
          case measure => simp only [intOf]; omega
        · have dx : (x == 0) = false := by simpa using hx
          have FS := Lib.hid (NO.out (.inr (by simp; omega)))
          go_wp2_with (go_at_call 65; refine RL.out.mono ?_; rintro e w2 ⟨rfl, rfl⟩)
          go_roundw
          case rel => exact ⟨k + 1, by omega, by omega, by go_num, by rw [FS.out]; exact ho, hV, hb⟩
          case measure => simp only [intOf]; omega
      · obtain rfl : k = l := by omega
        have d1 : decide ((k : Int) < (k : Int)) = false := by simp
        go_wp2_with (go_at_call 65; refine RL.out.mono ?_; rintro e w2 ⟨rfl, rfl⟩)
        go_ret2
        exact ⟨_, rfl, by rw [Q.out]; exact ho.mono (by omega), hb⟩
  · have hg : rulB ms = false := by simpa using hg
    have Q := Lib.hid (show miR ms = [] by simp [miR, hg])
    rw [hg] at IR ⊢
    clear h
    go_enter Try.func31, Try.ntmps31
    go_wp2_with fail
    refine IR.out.mono ?_
    rintro e w1 ⟨rfl, b1⟩
    go_wp2_with fail
    go_ret2
    exact ⟨_, rfl, by rw [Q.out]; exact ow_nilR _ _, b1⟩
end Go.Proofs.Ytaihgdecoaajoaa
