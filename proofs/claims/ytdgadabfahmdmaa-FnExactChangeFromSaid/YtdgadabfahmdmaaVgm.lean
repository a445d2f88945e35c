/-
  Greedy change and how many coins it has, in the model and in the program, by their contracts. Condition: slices of at most 2^40 numbers.
-/
import Derived.Test.YtdgadabfahmdmaaVct
import Derived.Test.YtdgadabfahmdmaaVgp
import Derived.Test.YtdgadabfahmdmaaVfc
namespace Go.Proofs.Ytdgadabfahmdmaa
open Go.RowKit

theorem eq0 (n : Nat) : ((n : Int) == 0) = decide (n = 0) := by
  rw [Bool.eq_iff_iff]; simp
theorem tot_take {zs : List Nat} {k : Nat} (hk : k < zs.length) : tot (zs.take (k + 1)) = tot (zs.take k) + zs.getD k 0 := by
  have gen : ∀ (l : List Nat) (x : Nat), tot (l ++ [x]) = tot l + x := by
    intro l x
    induction l with
    | nil => simp [tot]
    | cons a l ih => simp only [List.cons_append, tot, ih]; omega
  rw [take_snocN hk, gen]
theorem tot_take_le (zs : List Nat) : ∀ k, tot (zs.take k) ≤ tot zs := by
  induction zs with
  | nil => intro k; simp
  | cons a l ih =>
    intro k
    cases k with
    | zero => simp [tot]
    | succ k => simp only [List.take_succ_cons, tot]; have := ih k; omega
theorem gr_tot {cs : List Nat} (hp : Pos cs) (a : Nat) : tot (gr cs a).1 ≤ a := by
  have h := gr_dot cs a
  have gen : ∀ (cs : List Nat), Pos cs → ∀ ms : List Nat, ms.length ≤ cs.length → tot ms ≤ dot ms cs := by
    intro cs
    induction cs with
    | nil => intro _ ms hm; have : ms = [] := List.length_eq_zero_iff.1 (by simpa using hm)
             subst this; simp [tot]
    | cons c cs ih =>
      intro hp ms hm
      cases ms with
      | nil => simp [tot]
      | cons m ms =>
        have h1 := ih hp.tail ms (by simpa using hm)
        have h2 : m * 1 ≤ m * c := Nat.mul_le_mul_left m hp.head
        simp only [tot, dot]
        omega
  have := gen cs hp (gr cs a).1 (by rw [gr_len]; exact Nat.le_refl _)
  omega

set_option maxHeartbeats 1000000 in
theorem piSum_any (v : Value) (zs : List Nat) (w : World) (h : Sv w v (iL zs)) (hl : zs.length ≤ 1099511627776) (ht : tot zs ≤ 1099511627776) :
    Calls Try.prog 60 #[v] w fun e w' => e = .returned (.int .i64 (tot zs : Int)) ∧ w = w' := by
  have hlen := iL_len zs
  obtain ⟨p, cap, rfl, hx⟩ := h
  rw [hlen] at hx ⊢
  have HX : Hid (0 < zs.length → ∃ b off, p = some ⟨b, off, none⟩ ∧ b < w.heap.size ∧ ∀ j, j < zs.length → w.cell? ⟨b, off + j, none⟩ = some (.int .i64 ((zs.getD j 0 : Nat) : Int))) := Lib.hid (fun h0 => by
    obtain ⟨b, off, h1, h2, h3⟩ := hx h0
    exact ⟨b, off, h1, h2, fun j hj => by rw [← iL_at]; exact h3 j hj⟩)
  clear hx hlen
  go_enter Try.func60, Try.ntmps60
  go_wp2
  go_loop [3, 8] (fun t i => ∃ k : Nat, k ≤ zs.length ∧ i = .int .i64 k ∧ t = .int .i64 (tot (zs.take k) : Nat)) (fun _ i => zs.length - (intOf i).toNat)
  case atStart => exact ⟨0, Nat.zero_le _, rfl, rfl⟩
  case round =>
    obtain ⟨k, hk, rfl, rfl⟩ := hrel
    by_cases hlt : k < zs.length
    · obtain ⟨b, off, rfl, hbl, hc⟩ := HX.out (by omega)
      have hcell := hc k hlt
      have TT := tot_take hlt
      have TL := tot_take_le zs (k + 1)
      obtain ⟨x, ex⟩ : ∃ x, zs.getD k 0 = x := ⟨_, rfl⟩
      rw [ex] at hcell TT
      obtain ⟨s, es⟩ : ∃ s, tot (zs.take k) = s := ⟨_, rfl⟩
      rw [es] at TT ⊢
      rw [TT] at TL
      have hw : IntKind.i64.wrap ((s : Int) + x) = (s : Int) + x := IntWalk.i64_in _ (by omega)
      have j0 : (0 : Int) ≤ k := by omega
      have j1 : (k : Int) < zs.length := by omega
      have TT := Lib.hid TT
      clear hc ex es
      go_wp2
      go_round
      case rel => exact ⟨k + 1, by omega, by go_num, by rw [TT.out]; go_num⟩
      case measure => simp [intOf]; omega
    · have : k = zs.length := by omega
      subst this
      go_wp2
      go_ret
      exact ⟨ret_int (by first | rfl | rw [List.take_length]), rfl⟩

set_option maxHeartbeats 4000000 in
set_option maxRecDepth 20000 in
theorem cnGreedy_any (v : Value) (cs : List Nat) (m : Nat) (w : World) (h : Sv w v (iL cs)) (hp : Pos cs) (hl : cs.length ≤ 1024) (hm : m ≤ 1099511627776) :
    Calls Try.prog 54 #[v, .int .i64 m] w fun e w' => ∃ u, e = .returned (.tuple #[u, .bool (decide ((gr cs m).2 = 0))]) ∧ Ow w' w.heap.size u (iL (gr cs m).1) ∧ Below w.heap.size w w' := by
  have hlen := iL_len cs
  obtain ⟨p, cap, rfl, hx⟩ := h
  rw [hlen] at hx ⊢
  have HX : Hid (0 < cs.length → ∃ b off, p = some ⟨b, off, none⟩ ∧ b < w.heap.size ∧ ∀ j, j < cs.length → w.cell? ⟨b, off + j, none⟩ = some (.int .i64 ((cs.getD j 0 : Nat) : Int))) := Lib.hid (fun h0 => by
    obtain ⟨b, off, h1, h2, h3⟩ := hx h0
    exact ⟨b, off, h1, h2, fun j hj => by rw [← iL_at]; exact h3 j hj⟩)
  have hmk := run_make_row' (P := Try.prog) 22 3 (.int .i64 0) 8 Try.underlying22 Try.infoI rfl .i64 .i64 cs.length (by omega) (by omega)
  have HP := Lib.hid hp
  have T0 := Lib.hid (gz_top cs m)
  clear hx hlen hp
  go_enter Try.func54, Try.ntmps54
  go_wp2
  go_loopw [1, 7] (fun am i wr => ∃ k : Nat, k ≤ cs.length ∧ i = .int .i64 ((k : Int) - 1) ∧ am = .int .i64 ((gr (cs.drop k) m).2 : Nat) ∧ wr.rowIs w.heap.size 3 cs.length (fun j => .int .i64 (((gz cs m k).getD j 0 : Nat) : Int)) ∧ Below w.heap.size w wr) (fun _ i _ => (intOf i + 1).toNat)
  case atStart => exact ⟨cs.length, Nat.le_refl _, rfl, by rw [T0.out.2], (World.rowIs_made w _ _ _).congr (fun j hj => by rw [T0.out.1]; simp [hj]), (Below.refl _ _).alloc (Nat.le_refl _) _⟩
  case round =>
    obtain ⟨k1, hk, rfl, rfl, hrow, hb⟩ := hrel
    clear hmk
    by_cases hk0 : k1 = 0
    · subst hk0
      have HZ := Lib.hid (gz_zero cs m)
      have hgl := Lib.hid (gr_len cs m)
      rw [List.drop_zero]
      go_wp2
      go_ret2
      refine ⟨_, ret_lb rfl (eq0 _), ow_of_row hrow (by rw [iL_len, hgl.out]) (by unfold maxLen; omega) (fun j hj => by rw [iL_at, HZ.out]), hb⟩
    · obtain ⟨k, rfl⟩ : ∃ k, k1 = k + 1 := ⟨k1 - 1, by omega⟩
      have hlt : k < cs.length := by omega
      obtain ⟨b, off, rfl, hbl, hc⟩ := HX.out (by omega)
      have hcell := (hb.cell (p := ⟨b, off + k, none⟩) hbl).trans (hc k hlt)
      have hc1 := HP.out _ (at_mem hlt)
      have GN := gz_next (a := m) hlt
      have hgl := gz_len (cs := cs) (a := m) (k := k + 1) (by omega)
      have hr2 := gr_le (cs.drop (k + 1)) m
      have hold := hrow.cell (i := k) hlt
      have hfr := hrow.frozen k
      obtain ⟨c, ec⟩ : ∃ c, cs.getD k 0 = c := ⟨_, rfl⟩
      rw [ec] at hcell hc1 GN
      obtain ⟨r, er⟩ : ∃ r, (gr (cs.drop (k + 1)) m).2 = r := ⟨_, rfl⟩
      rw [er] at GN hr2 ⊢
      obtain ⟨q, eq⟩ : ∃ q, r / c = q := ⟨_, rfl⟩
      obtain ⟨s, es⟩ : ∃ s, r % c = s := ⟨_, rfl⟩
      have hql : q ≤ r := by rw [← eq]; exact Nat.div_le_self r c
      have hsl : s ≤ r := by rw [← es]; exact Nat.mod_le r c
      rw [eq, es] at GN
      have GN := Lib.hid GN
      have HGL := Lib.hid hgl
      have h1 : (r : Int).tdiv (c : Int) = (q : Int) := by rw [← eq, Int.ofNat_tdiv]
      have h2 : (r : Int).tmod (c : Int) = (s : Int) := by rw [← es, Int.ofNat_tmod]
      have hc0 : ¬ (c : Int) = 0 := by omega
      have hw1 : IntKind.i64.wrap (q : Int) = (q : Int) := IntWalk.i64_in _ (by omega)
      have hw2 : IntKind.i64.wrap (s : Int) = (s : Int) := IntWalk.i64_in _ (by omega)
      have e1 : ((k + 1 : Nat) : Int) - 1 = (k : Int) := by omega
      rw [e1]
      have j0 : (0 : Int) ≤ k := by omega
      have j1 : (k : Int) < cs.length := by omega
      clear hc ec er eq es hgl hr2
      go_wp2
      go_roundw
      case rel =>
        refine ⟨k, by omega, by go_num, by rw [GN.out.2], (hrow.set k _).congr (fun j hj => ?_), hb.setCell (Nat.le_refl _) _⟩
        rw [GN.out.1, getD_setN _ _ _ _ (by rw [HGL.out]; exact hlt)]
        by_cases e : j = k
        · rw [if_pos e, if_pos e]
        · rw [if_neg e, if_neg e]
      case measure => simp only [intOf]; omega
end Go.Proofs.Ytdgadabfahmdmaa
