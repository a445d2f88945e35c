/-
  The program's search for rulers of a length with so many marks, by its contract. Conditions: a length of 1..20, at most 32 marks.
-/
import Derived.Test.YtaihgdecoaajoaaUer
namespace Go.Proofs.Ytaihgdecoaajoaa
open Go.RowKit

theorem row_put {w : World} {r : Nat} {n : Int} {u : Value} {cs : Array Value} {t : TypeId} (h : w.heap[r]? = some (.cells cs t (0, 0))) (h2 : cs.size = 2) :
    ((w.setCell ⟨r, 0, none⟩ u).setCell ⟨r, 1, none⟩ (.int .i64 n)).cell? ⟨r, 0, none⟩ = some u ∧ ((w.setCell ⟨r, 0, none⟩ u).setCell ⟨r, 1, none⟩ (.int .i64 n)).cell? ⟨r, 1, none⟩ = some (.int .i64 n) := by
  constructor <;> simp [World.cell?, World.setCell, Array.getElem?_modify, h, h2]
theorem row_own {w : World} {r B : Nat} {n : Int} {u v : Value} {L : List Int} {cs : Array Value} (ho : Ow w B v L) (h : w.heap[r]? = some (.cells cs 57 (0, 0))) :
    Ow ((w.setCell ⟨r, 0, none⟩ u).setCell ⟨r, 1, none⟩ (.int .i64 n)) B v L := by
  have h2 : ∃ cs2, (w.setCell ⟨r, 0, none⟩ u).heap[r]? = some (.cells cs2 57 (0, 0)) := ⟨_, by simp [World.setCell, Array.getElem?_modify, h]; rfl⟩
  obtain ⟨cs2, h2⟩ := h2
  exact (ho.xp h (Xp.setCell r 0 w _)).xp h2 (Xp.setCell r 1 _ _)
def zeroF : Array Value := #[.slice none 0 0, .int .i64 0]
theorem va_rs (c : Bool) (len d : Nat) : va c len d [0] ([], 0) = rs c len d [0] := by
  rw [va_eq c len d [0] ([], 0) nrm_zero (by simp [lastM]), zero_rsS]

set_option maxHeartbeats 8000000 in
set_option maxRecDepth 20000 in
theorem search_true (len d : Nat) (h1 : 1 ≤ len) (h2 : len ≤ 20) (hd : d ≤ 30) (w : World) :
    Calls Try.prog 83 #[.int .i64 len, .int .i64 ((d : Int) + 2), .func (.func 66) #[] #[]] w fun e w' => ∃ u, e = .returned (.agg #[u, .int .i64 (rs true len d [0]).2]) ∧ Ow w' w.heap.size u (rs true len d [0]).1 ∧ Below w.heap.size w w' := by
  have BZ := beg_zero h1 h2
  have hsm := rs_small (c := true) (d := d) BZ
  obtain ⟨W1, eW1⟩ : ∃ W1, w.alloc (.cells #[.func (.func 66) #[] #[]] 23) = W1 := ⟨_, rfl⟩
  obtain ⟨W2, eW2⟩ : ∃ W2, W1.alloc (.cells zeroF 57) = W2 := ⟨_, rfl⟩
  obtain ⟨W3, eW3⟩ : ∃ W3, W2.alloc (.cells zeroF 57) = W3 := ⟨_, rfl⟩
  obtain ⟨W4, eW4⟩ : ∃ W4, W3.alloc (.cells #[.int .i64 0] 3) = W4 := ⟨_, rfl⟩
  have z1 : W1.heap.size = w.heap.size + 1 := by rw [← eW1]; simp
  have z2 : W2.heap.size = w.heap.size + 2 := by rw [← eW2]; simp [z1]
  have z3 : W3.heap.size = w.heap.size + 3 := by rw [← eW3]; simp [z2]
  have z4 : W4.heap.size = w.heap.size + 4 := by rw [← eW4]; simp [z3]
  have q1 : W1.heap[w.heap.size]? = some (.cells #[.func (.func 66) #[] #[]] 23 (0, 0)) := by rw [← eW1]; exact heap_alloc_new w _
  have r2 : W2.heap[w.heap.size + 1]? = some (.cells zeroF 57 (0, 0)) := by rw [← eW2, ← z1]; exact heap_alloc_new W1 _
  have p3 : W3.heap[w.heap.size + 2]? = some (.cells zeroF 57 (0, 0)) := by rw [← eW3, ← z2]; exact heap_alloc_new W2 _
  have s4 := ow_one W3 0
  rw [eW4, z3] at s4
  have t12 : Below W1.heap.size W1 W2 := by rw [← eW2]; exact (Below.refl _ _).alloc (Nat.le_refl _) _
  have t23 : Below W2.heap.size W2 W3 := by rw [← eW3]; exact (Below.refl _ _).alloc (Nat.le_refl _) _
  have t34 : Below W3.heap.size W3 W4 := by rw [← eW4]; exact (Below.refl _ _).alloc (Nat.le_refl _) _
  have q4 := box_below (box_below (box_below q1 t12) t23) t34
  have r4 := box_below (box_below r2 t23) t34
  have p4 := box_below p3 t34
  have t4 : Below w.heap.size w W4 := by rw [← eW4, ← eW3, ← eW2, ← eW1]; exact ((((Below.refl _ _).alloc (Nat.le_refl _) _).alloc (by simp) _).alloc (by simp; omega) _).alloc (by simp; omega) _
  have EA := each_any true len w.heap.size (w.heap.size + 2) w.heap.size _ (by omega) (visit_true w.heap.size (w.heap.size + 2) w.heap.size) d hd [0] _ W4 ([], 0) (s4.mono (by omega)) BZ ⟨.slice none 0 0, p4, ow_nilR _ _⟩ q4 (Int.le_refl _) (by rw [va_rs]; omega) (by omega)
  rw [va_rs] at EA
  have EA := Lib.hid EA
  have R4 := Lib.hid r4
  have T4 := Lib.hid t4
  have EW : Hid ((((w.alloc (.cells #[.func (.func 66) #[] #[]] 23)).alloc (.cells zeroF 57)).alloc (.cells zeroF 57)).alloc (.cells #[.int .i64 0] 3) = W4) := Lib.hid (by rw [eW1, eW2, eW3, eW4])
  obtain ⟨⟨L, n⟩, eR⟩ : ∃ R, rs true len d [0] = R := ⟨_, rfl⟩
  rw [eR] at EA hsm ⊢
  dsimp only at hsm ⊢
  have hmf : ∀ (fn : Fn) (first cp : Array Value) (w : World), (Instr.makeFunc fn first cp).run Try.prog w = .ok (.func fn first cp) w := fun _ _ _ _ => rfl
  have hw : IntKind.i64.wrap ((d : Int) + 2 - 1) = (d : Int) + 1 := by rw [IntWalk.i64_in _ (by omega)]; omega
  clear eW1 eW2 eW3 eW4 z1 z2 z3 q1 r2 p3 s4 t12 t23 t34 q4 r4 p4 t4 BZ eR
  go_enter Try.func83, Try.ntmps83
  go_wp2_with fail
  erw [EW.out]
  refine EA.out.mono ?_
  rintro e w5 ⟨rfl, ⟨v, hv⟩, hx⟩
  have hp5 := hv.1
  have r5 := (hx.same (w.heap.size + 1) (by omega) (by omega)).trans R4.out
  obtain ⟨c0, c1, -, -⟩ := hv.cells
  dsimp only at c1
  have ho5 := hv.2
  dsimp only at ho5
  have a0 : w5.cell? ⟨w.heap.size + 1, 0, none⟩ = some (.slice none 0 0) := by simp [World.cell?, r5, zeroF]
  have a1 : w5.cell? ⟨w.heap.size + 1, 1, none⟩ = some (.int .i64 0) := by simp [World.cell?, r5, zeroF]
  have f0 : w5.frozen? ⟨w.heap.size + 1, 0, none⟩ = false := by simp [World.frozen?, r5]
  have f1 : w5.frozen? ⟨w.heap.size + 1, 1, none⟩ = false := by simp [World.frozen?, r5]
  have b5 : Below w.heap.size w w5 := hx.below T4.out (by omega) (Nat.le_refl _)
  have EN := fun u => row_put (n := n) (u := u) r5 rfl
  rcases ho5.form with ⟨rfl, e3⟩ | ⟨g, cap, rfl, _, _⟩
  · have E := EN (.slice none 0 0)
    clear EA EN
    go_wp2
    refine bodyPost_ret (v := .agg #[.slice none 0 0, .int .i64 n]) (by simp [results, Try.results83, go_sem, E.1, E.2]) rfl ⟨_, rfl, ?_, (b5.setCell (by show w.heap.size ≤ w.heap.size + 1; omega) _).setCell (by show w.heap.size ≤ w.heap.size + 1; omega) _⟩
    rw [e3]; exact ow_nilR _ _
  · have E := EN (.slice (some ⟨g, 0, none⟩) L.length cap)
    have O := row_own (n := n) (u := .slice (some ⟨g, 0, none⟩) L.length cap) ho5 r5
    clear EA EN
    go_wp2
    exact bodyPost_ret (v := .agg #[.slice (some ⟨g, 0, none⟩) L.length cap, .int .i64 n]) (by simp [results, Try.results83, go_sem, E.1, E.2]) rfl ⟨_, rfl, O, (b5.setCell (by show w.heap.size ≤ w.heap.size + 1; omega) _).setCell (by show w.heap.size ≤ w.heap.size + 1; omega) _⟩
set_option maxHeartbeats 8000000 in
set_option maxRecDepth 20000 in
theorem search_false (len d : Nat) (h1 : 1 ≤ len) (h2 : len ≤ 20) (hd : d ≤ 30) (w : World) :
    Calls Try.prog 83 #[.int .i64 len, .int .i64 ((d : Int) + 2), .func (.func 68) #[] #[]] w fun e w' => ∃ u, e = .returned (.agg #[u, .int .i64 (rs false len d [0]).2]) ∧ Ow w' w.heap.size u (rs false len d [0]).1 ∧ Below w.heap.size w w' := by
  have BZ := beg_zero h1 h2
  have hsm := rs_small (c := false) (d := d) BZ
  obtain ⟨W1, eW1⟩ : ∃ W1, w.alloc (.cells #[.func (.func 68) #[] #[]] 23) = W1 := ⟨_, rfl⟩
  obtain ⟨W2, eW2⟩ : ∃ W2, W1.alloc (.cells zeroF 57) = W2 := ⟨_, rfl⟩
  obtain ⟨W3, eW3⟩ : ∃ W3, W2.alloc (.cells zeroF 57) = W3 := ⟨_, rfl⟩
  obtain ⟨W4, eW4⟩ : ∃ W4, W3.alloc (.cells #[.int .i64 0] 3) = W4 := ⟨_, rfl⟩
  have z1 : W1.heap.size = w.heap.size + 1 := by rw [← eW1]; simp
  have z2 : W2.heap.size = w.heap.size + 2 := by rw [← eW2]; simp [z1]
  have z3 : W3.heap.size = w.heap.size + 3 := by rw [← eW3]; simp [z2]
  have z4 : W4.heap.size = w.heap.size + 4 := by rw [← eW4]; simp [z3]
  have q1 : W1.heap[w.heap.size]? = some (.cells #[.func (.func 68) #[] #[]] 23 (0, 0)) := by rw [← eW1]; exact heap_alloc_new w _
  have r2 : W2.heap[w.heap.size + 1]? = some (.cells zeroF 57 (0, 0)) := by rw [← eW2, ← z1]; exact heap_alloc_new W1 _
  have p3 : W3.heap[w.heap.size + 2]? = some (.cells zeroF 57 (0, 0)) := by rw [← eW3, ← z2]; exact heap_alloc_new W2 _
  have s4 := ow_one W3 0
  rw [eW4, z3] at s4
  have t12 : Below W1.heap.size W1 W2 := by rw [← eW2]; exact (Below.refl _ _).alloc (Nat.le_refl _) _
  have t23 : Below W2.heap.size W2 W3 := by rw [← eW3]; exact (Below.refl _ _).alloc (Nat.le_refl _) _
  have t34 : Below W3.heap.size W3 W4 := by rw [← eW4]; exact (Below.refl _ _).alloc (Nat.le_refl _) _
  have q4 := box_below (box_below (box_below q1 t12) t23) t34
  have r4 := box_below (box_below r2 t23) t34
  have p4 := box_below p3 t34
  have t4 : Below w.heap.size w W4 := by rw [← eW4, ← eW3, ← eW2, ← eW1]; exact ((((Below.refl _ _).alloc (Nat.le_refl _) _).alloc (by simp) _).alloc (by simp; omega) _).alloc (by simp; omega) _
  have EA := each_any false len w.heap.size (w.heap.size + 2) w.heap.size _ (by omega) (visit_false w.heap.size (w.heap.size + 2) w.heap.size) d hd [0] _ W4 ([], 0) (s4.mono (by omega)) BZ ⟨.slice none 0 0, p4, ow_nilR _ _⟩ q4 (Int.le_refl _) (by rw [va_rs]; omega) (by omega)
  rw [va_rs] at EA
  have EA := Lib.hid EA
  have R4 := Lib.hid r4
  have T4 := Lib.hid t4
  have EW : Hid ((((w.alloc (.cells #[.func (.func 68) #[] #[]] 23)).alloc (.cells zeroF 57)).alloc (.cells zeroF 57)).alloc (.cells #[.int .i64 0] 3) = W4) := Lib.hid (by rw [eW1, eW2, eW3, eW4])
  obtain ⟨⟨L, n⟩, eR⟩ : ∃ R, rs false len d [0] = R := ⟨_, rfl⟩
  rw [eR] at EA hsm ⊢
  dsimp only at hsm ⊢
  have hmf : ∀ (fn : Fn) (first cp : Array Value) (w : World), (Instr.makeFunc fn first cp).run Try.prog w = .ok (.func fn first cp) w := fun _ _ _ _ => rfl
  have hw : IntKind.i64.wrap ((d : Int) + 2 - 1) = (d : Int) + 1 := by rw [IntWalk.i64_in _ (by omega)]; omega
  clear eW1 eW2 eW3 eW4 z1 z2 z3 q1 r2 p3 s4 t12 t23 t34 q4 r4 p4 t4 BZ eR
  go_enter Try.func83, Try.ntmps83
  go_wp2_with fail
  erw [EW.out]
  refine EA.out.mono ?_
  rintro e w5 ⟨rfl, ⟨v, hv⟩, hx⟩
  have hp5 := hv.1
  have r5 := (hx.same (w.heap.size + 1) (by omega) (by omega)).trans R4.out
  obtain ⟨c0, c1, -, -⟩ := hv.cells
  dsimp only at c1
  have ho5 := hv.2
  dsimp only at ho5
  have a0 : w5.cell? ⟨w.heap.size + 1, 0, none⟩ = some (.slice none 0 0) := by simp [World.cell?, r5, zeroF]
  have a1 : w5.cell? ⟨w.heap.size + 1, 1, none⟩ = some (.int .i64 0) := by simp [World.cell?, r5, zeroF]
  have f0 : w5.frozen? ⟨w.heap.size + 1, 0, none⟩ = false := by simp [World.frozen?, r5]
  have f1 : w5.frozen? ⟨w.heap.size + 1, 1, none⟩ = false := by simp [World.frozen?, r5]
  have b5 : Below w.heap.size w w5 := hx.below T4.out (by omega) (Nat.le_refl _)
  have EN := fun u => row_put (n := n) (u := u) r5 rfl
  rcases ho5.form with ⟨rfl, e3⟩ | ⟨g, cap, rfl, _, _⟩
  · have E := EN (.slice none 0 0)
    clear EA EN
    go_wp2
    refine bodyPost_ret (v := .agg #[.slice none 0 0, .int .i64 n]) (by simp [results, Try.results83, go_sem, E.1, E.2]) rfl ⟨_, rfl, ?_, (b5.setCell (by show w.heap.size ≤ w.heap.size + 1; omega) _).setCell (by show w.heap.size ≤ w.heap.size + 1; omega) _⟩
    rw [e3]; exact ow_nilR _ _
  · have E := EN (.slice (some ⟨g, 0, none⟩) L.length cap)
    have O := row_own (n := n) (u := .slice (some ⟨g, 0, none⟩) L.length cap) ho5 r5
    clear EA EN
    go_wp2
    exact bodyPost_ret (v := .agg #[.slice (some ⟨g, 0, none⟩) L.length cap, .int .i64 n]) (by simp [results, Try.results83, go_sem, E.1, E.2]) rfl ⟨_, rfl, O, (b5.setCell (by show w.heap.size ≤ w.heap.size + 1; omega) _).setCell (by show w.heap.size ≤ w.heap.size + 1; omega) _⟩
end Go.Proofs.Ytaihgdecoaajoaa
