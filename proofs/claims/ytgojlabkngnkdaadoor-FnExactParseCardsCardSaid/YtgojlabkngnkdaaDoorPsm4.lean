/-
  Slices of slices of integers: copied, found equal, marked; by their contracts. Condition: slices of at most 2^20 numbers in all.
-/
import Derived.Test.YtgojlabkngnkdaaDoorPsl4
import Derived.Deep.Heap
namespace Go.Proofs.YtgojlabkngnkdaaDoor
open Go.RowKit

theorem rowIs_below {w w' : World} {g n B : Nat} {t : TypeId} {f : Nat → Value} (h : w.rowIs g t n f) (hb : Below B w w') (hB : w.heap.size ≤ B) : w'.rowIs g t n f :=
  h.of_block (hb.block g (Nat.lt_of_lt_of_le h.lt hB))
theorem ow_far {w : World} {B g j : Nat} {v : Value} {ys : List Int} (h : Ow w B v ys) (hg : g < B) (u : Value) : Ow (w.setCell ⟨g, j, none⟩ u) B v ys := by
  obtain ⟨h1, h2⟩ := h
  refine ⟨h1, ?_⟩
  rcases h2 with h2 | ⟨k, cap, cur, hv, hk, hh, r⟩
  · exact .inl h2
  · exact .inr ⟨k, cap, cur, hv, hk, (Go.Deep.blk_setCell_other _ _ _ _ (by show k ≠ g; omega)).trans hh, r⟩
theorem own_form {w : World} {B b : Nat} {u : Value} {ys : List Int} (h : Ow w B u ys) (ha : OwnAt u b) : ∃ cap, u = .slice (some ⟨b, 0, none⟩) ys.length cap := by
  rcases h.form with ⟨rfl, rfl⟩ | ⟨g, cap, rfl, _, _⟩
  · cases ha
  · unfold OwnAt at ha
    have e : g = b := by simpa [Value.ownBlock] using ha
    subst e
    exact ⟨cap, rfl⟩
theorem tot_le (pl : List (List Int)) : ∀ n k, k < n → (rowL pl k).length ≤ tot pl n := by
  intro n
  induction n with
  | zero => intro k h; omega
  | succ n ih =>
    intro k h
    simp only [tot]
    by_cases e : k = n
    · subst e; omega
    · have := ih k (by omega); omega
theorem Few2.row {pl : List (List Int)} (h : Few2 pl) {k : Nat} (hk : k < pl.length) : (rowL pl k).length ≤ 1048576 := by
  have := tot_le pl _ k hk
  unfold Few2 at h
  omega

/-- The rows made so far. -/
structure Made (w : World) (g : Nat) (U : Nat → Value) (bs : Nat → Nat) (pl : List (List Int)) (k : Nat) : Prop where
  own : ∀ j, j < k → Ow w (bs j) (U j) (rowL pl j) ∧ OwnAt (U j) (bs j)
  pos : ∀ j, j < k → g < bs j ∧ bs j < w.heap.size
  inc : ∀ i j, i < j → j < k → bs i < bs j
theorem Made.zero (w : World) (g : Nat) (U : Nat → Value) (bs : Nat → Nat) (pl : List (List Int)) : Made w g U bs pl 0 := ⟨fun j h => by omega, fun j h => by omega, fun i j _ h => by omega⟩
theorem Made.next {w w1 : World} {g : Nat} {U : Nat → Value} {bs : Nat → Nat} {pl : List (List Int)} {k : Nat} (h : Made w g U bs pl k) (hb : Below w.heap.size w w1) (hg : g < w.heap.size) {u : Value} (hu : Ow w1 w.heap.size u (rowL pl k)) (ha : OwnAt u w.heap.size) :
    Made (w1.setCell ⟨g, k, none⟩ u) g (fun j => if j = k then u else U j) (fun j => if j = k then w.heap.size else bs j) pl (k + 1) := by
  have hs := hb.size
  have hlt := (World.ownsRow.lt hu _ ha).2
  refine ⟨fun j hj => ?_, fun j hj => ?_, fun i j hij hj => ?_⟩
  · by_cases e : j = k
    · subst e; simp only [if_true]; exact ⟨ow_far hu hg _, ha⟩
    · simp only [if_neg e]
      have o := h.own j (by omega)
      have p := h.pos j (by omega)
      exact ⟨ow_far (o.1.below hb (Nat.le_refl _)) p.1 _, o.2⟩
  · by_cases e : j = k
    · subst e; simp only [if_true]; exact ⟨hg, by simpa using hlt⟩
    · simp only [if_neg e]
      have p := h.pos j (by omega)
      exact ⟨p.1, by simp; omega⟩
  · have e1 : ¬ i = k := by omega
    simp only [if_neg e1]
    by_cases e : j = k
    · subst e; simp only [if_true]; exact (h.pos i (by omega)).2
    · simp only [if_neg e]; exact h.inc i j hij (by omega)

set_option maxHeartbeats 2000000 in
set_option maxRecDepth 100000 in
theorem toIntSS_any (v : Value) (pl : List (List Int)) (w : World) (h : Svv w v pl) (hf : Few2 pl) :
    Calls Tryd.prog 28 #[v] w fun e w' => ∃ u, e = .returned u ∧ Oww w' w.heap.size w'.heap.size u pl ∧ Below w.heap.size w w' := by
  obtain ⟨p, cap, rfl, hx⟩ := h
  have hn : pl.length ≤ 1048576 := by unfold Few2 at hf; omega
  have hmk := run_make_row' (P := Tryd.prog) 22 55 (.slice none 0 0) 24 Tryd.underlying22 Tryd.infoR rfl .i64 .i64 pl.length (by omega) (by omega)
  have HF := Lib.hid hf
  clear hf
  go_enter Tryd.func28, Tryd.ntmps28
  go_wp2
  go_loopw [4] (fun i wr => ∃ (k : Nat) (U : Nat → Value) (bs : Nat → Nat), k ≤ pl.length ∧ i = .int .i64 k ∧ wr.rowIs w.heap.size 55 pl.length (fun j => if j < k then U j else .slice none 0 0) ∧ Made wr w.heap.size U bs pl k ∧ Below w.heap.size w wr) (fun i _ => pl.length - (intOf i).toNat)
  case atStart => exact ⟨0, fun _ => .slice none 0 0, fun _ => 0, Nat.zero_le _, rfl, (World.rowIs_made w _ _ _).congr (fun j _ => by simp), Made.zero _ _ _ _ _, (Below.refl _ _).alloc (Nat.le_refl _) _⟩
  case round =>
    obtain ⟨k, U, bs, hk, rfl, hrow, hmd, hb⟩ := hrel
    by_cases hlt : k < pl.length
    · obtain ⟨b, off, rfl, hbl, hc⟩ := hx (by omega)
      obtain ⟨u0, hc0, hs0⟩ := hc k hlt
      have hcell : wr.cell? ⟨b, off + k, none⟩ = some u0 := (hb.cell (p := ⟨b, off + k, none⟩) hbl).trans hc0
      have hs1 := hs0.below hb (by omega)
      have hgl := hrow.lt
      have hlen := HF.out.row hlt
      clear hc hmk hx hc0 hs0
      go_wp2_with (go_at_call 55; refine (toIntS_any _ _ _ hs1 (by omega)).mono ?_; rintro e w1 ⟨u, rfl, o1, a1, b1⟩; obtain ⟨cp, rfl⟩ := own_form o1 a1; have hrow1 := rowIs_below hrow b1 (Nat.le_refl _); have hold := hrow1.cell hlt; have hfr := hrow1.frozen k)
      go_roundw
      case rel =>
        have hz := hb.size
        refine ⟨k + 1, _, _, by omega, by go_num, (hrow1.set k _).congr (fun j hj => ?_), hmd.next b1 hgl o1 a1, (hb.trans (b1.mono hz)).setCell (Nat.le_refl _) _⟩
        by_cases e : j = k
        · subst e; simp
        · by_cases h2 : j < k
          · have h3 : j < k + 1 := by omega
            simp [e, h2, h3]
          · have h3 : ¬ j < k + 1 := by omega
            simp [e, h2, h3]
      case measure => simp [intOf]; omega
    · have hkl : k = pl.length := by omega
      clear hmk hx
      go_wp2
      go_ret
      subst hkl
      refine ⟨_, rfl, ⟨w.heap.size, U, bs, rfl, Nat.le_refl _, hrow.congr (fun j hj => by simp [hj]), ⟨fun j _ hj => ⟨_, rfl, (hmd.own j hj).1, (hmd.own j hj).2⟩, hmd.pos, hmd.inc⟩, fun j hj => (hmd.own j hj).1⟩, hb⟩

set_option maxHeartbeats 2000000 in
set_option maxRecDepth 100000 in
theorem eqIntSS_yes (v u : Value) (pl : List (List Int)) (w : World) (hv : Svv w v pl) (hu : Svv w u pl) (hf : Few2 pl) :
    Calls Tryd.prog 33 #[v, u] w fun e w' => e = .returned (.bool true) ∧ Below w.heap.size w w' := by
  obtain ⟨p, cap, rfl, hx⟩ := hv
  obtain ⟨q, cap2, rfl, hy⟩ := hu
  have hn : pl.length ≤ 1048576 := by unfold Few2 at hf; omega
  have HF := Lib.hid hf
  clear hf
  go_enter Tryd.func33, Tryd.ntmps33
  go_wp2
  go_loopw [5] (fun i wr => ∃ k : Nat, k ≤ pl.length ∧ i = .int .i64 k ∧ Below w.heap.size w wr) (fun i _ => pl.length - (intOf i).toNat)
  case atStart => exact ⟨0, Nat.zero_le _, rfl, Below.refl _ _⟩
  case round =>
    obtain ⟨k, hk, rfl, hb⟩ := hrel
    by_cases hlt : k < pl.length
    · obtain ⟨b, off, rfl, hbl, hc⟩ := hx (by omega)
      obtain ⟨b2, off2, rfl, hbl2, hc2⟩ := hy (by omega)
      obtain ⟨u1, h1, s1⟩ := hc k hlt
      obtain ⟨u2, h2, s2⟩ := hc2 k hlt
      have h1 : wr.cell? ⟨b, off + k, none⟩ = some u1 := (hb.cell (p := ⟨b, off + k, none⟩) hbl).trans h1
      have h2 : wr.cell? ⟨b2, off2 + k, none⟩ = some u2 := (hb.cell (p := ⟨b2, off2 + k, none⟩) hbl2).trans h2
      have s1 := s1.below hb (by omega)
      have s2 := s2.below hb (by omega)
      have hlen := HF.out.row hlt
      have hi : (k : Int) < pl.length := by omega
      have hi0 : (0 : Int) ≤ k := by omega
      have S1 := fun d => Lib.hid (s1.below (below_drewN (Below.refl wr.heap.size wr) d) (Nat.le_refl _))
      have S2 := fun d => Lib.hid (s2.below (below_drewN (Below.refl wr.heap.size wr) d) (Nat.le_refl _))
      clear hc hc2 hx hy s1 s2
      go_wp2
      go_region_with (go_at_call 62; refine (eqIntS_yes _ _ _ _ _ (S1 _).out (S2 _).out rfl (by omega)).mono ?_; rintro e w1 ⟨rfl, b1⟩)
      all_goals
        go_wp2
        go_roundw
        case rel => exact ⟨k + 1, by omega, by go_num, nxt hb ((below_drewN (Below.refl _ _) _).trans b1)⟩
        case measure => simp [intOf]; omega
    · clear hx hy
      go_wp2
      go_ret
      exact ⟨rfl, hb⟩

end Go.Proofs.YtgojlabkngnkdaaDoor
