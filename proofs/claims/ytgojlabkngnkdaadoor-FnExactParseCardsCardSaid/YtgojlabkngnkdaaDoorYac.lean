/-
  Whether all clues are some, in the program: a loop whose call panics, and a deferred closure that recovers and asserts, by its contract. Condition: at most 2^40 clues.
-/
import Derived.Test.YtgojlabkngnkdaaDoorYpc
namespace Go.Proofs.YtgojlabkngnkdaaDoor
open Go.RowKit

theorem Tryd.infoNo : (Tryd.prog.info? 110).map (fun i => i.zero) = some (some (.agg #[.int .i64 0, .int .i64 0, .int .i64 0])) := by kernel_rfl
theorem ta_hit (K A B : Value) (w : World) : (Instr.typeAssert (.iface 110 (.agg #[K, A, B])) 20 110 true).run Tryd.prog w = .ok (.tuple #[.agg #[K, A, B], .bool true]) w := by
  simp [Instr.typeAssert, run_underlying Tryd.underlying110]
theorem ta_nil (w : World) : (Instr.typeAssert .nilIface 20 110 true).run Tryd.prog w = .ok (.tuple #[.agg #[.int .i64 0, .int .i64 0, .int .i64 0], .bool false]) w := by
  have h := Tryd.infoNo
  cases hq : Tryd.prog.info? 110 with
  | none => rw [hq] at h; cases h
  | some i =>
    rw [hq] at h
    have hz : i.zero = some (.agg #[.int .i64 0, .int .i64 0, .int .i64 0]) := by simpa using h
    simp [Instr.typeAssert, run_underlying Tryd.underlying110, zeroValue, typeInfo, hq, hz]

set_option maxHeartbeats 4000000 in
theorem catch_panic (g : Nat) (x : Value) (K A B : Int) (w : World) (hc : w.cell? ⟨g, 0, none⟩ = some x) (hz : w.frozen? ⟨g, 0, none⟩ = false) :
    CallsD Tryd.prog 84 #[.pointer (some ⟨g, 0, none⟩)] (.panicking [{ v := .iface 110 (.agg #[.int .i64 K, .int .i64 A, .int .i64 B]), recovered := false }]) w fun e u' w' =>
      e = .returned (.tuple #[]) ∧ u' = .panicking [{ v := .iface 110 (.agg #[.int .i64 K, .int .i64 A, .int .i64 B]), recovered := true }] ∧
        w' = (w.alloc (.cells #[.int .i64 K, .int .i64 A, .int .i64 B] 110)).setCell ⟨g, 0, none⟩ (.bool false) := by
  have hb : g < w.heap.size := World.block_lt_of_cell? _ _ hc
  have hc2 : (w.alloc (.cells #[.int .i64 K, .int .i64 A, .int .i64 B] 110)).cell? ⟨g, 0, none⟩ = some x := (World.cell?_alloc_past _ _ _ hb).trans hc
  have hz2 : (w.alloc (.cells #[.int .i64 K, .int .i64 A, .int .i64 B] 110)).frozen? ⟨g, 0, none⟩ = false := (World.frozen?_alloc_past _ _ _ hb).trans hz
  refine callsD_of_wpS Tryd.func84 rfl fun c₀ cs hu => ?_
  apply wpS_seq
  apply wpS_region
  simp [wpOpsS, go_sem, recoverD, hu, Tryd.ntmps84, Exit.thenS, ta_hit]
  apply wpS_region
  simp [wpOpsS, go_sem, hc2, hz2, bodyPostS, results, Tryd.results84]
set_option maxHeartbeats 4000000 in
theorem catch_idle (g : Nat) (x : Value) (w : World) (hc : w.cell? ⟨g, 0, none⟩ = some x) (hz : w.frozen? ⟨g, 0, none⟩ = false) :
    CallsD Tryd.prog 84 #[.pointer (some ⟨g, 0, none⟩)] .returning w fun e u' w' =>
      e = .returned (.tuple #[]) ∧ u' = .returning ∧ w' = (w.alloc (.cells #[.int .i64 0, .int .i64 0, .int .i64 0] 110)).setCell ⟨g, 0, none⟩ (.bool true) := by
  have hb : g < w.heap.size := World.block_lt_of_cell? _ _ hc
  have hc2 : (w.alloc (.cells #[.int .i64 0, .int .i64 0, .int .i64 0] 110)).cell? ⟨g, 0, none⟩ = some x := (World.cell?_alloc_past _ _ _ hb).trans hc
  have hz2 : (w.alloc (.cells #[.int .i64 0, .int .i64 0, .int .i64 0] 110)).frozen? ⟨g, 0, none⟩ = false := (World.frozen?_alloc_past _ _ _ hb).trans hz
  refine callsD_of_wpS Tryd.func84 rfl fun c₀ cs hu => ?_
  apply wpS_seq
  apply wpS_region
  simp [wpOpsS, go_sem, recoverD, hu, Tryd.ntmps84, Exit.thenS, ta_nil]
  apply wpS_region
  cases c₀
  simp_all [wpOpsS, go_sem, bodyPostS, results, Tryd.results84]

set_option maxHeartbeats 8000000 in
theorem areClues_any (v : Value) (cs : List Cl) (w : World) (h : Cv w v cs) (hl : cs.length ≤ 1099511627776) :
    Calls Tryd.prog 72 #[v] w fun e w' => e = .returned (.bool (cs.all clB)) ∧ Below w.heap.size w w' := by
  obtain ⟨p, cap, rfl, _, _, hx⟩ := h
  have HX := Lib.hid hx
  clear hx
  have hmf : ∀ (fn : Fn) (first cap : Array Value) (w : World), (Instr.makeFunc fn first cap).run Tryd.prog w = .ok (.func fn first cap) w := fun _ _ _ _ => rfl
  have hw0 := Lib.hid (heap_alloc_new w (.cells #[.bool false] 4))
  have hb0 : Below w.heap.size w (w.alloc (.cells #[.bool false] 4)) := (Below.refl _ _).alloc (Nat.le_refl _) _
  go_enter_defers Tryd.func72, Tryd.ntmps72
  go_wp2
  go_loopw [8] (fun i wr => ∃ k : Nat, k ≤ cs.length ∧ i = .int .i64 k ∧ Hid ((cs.take k).all clB = true) ∧ Hid (wr.heap[w.heap.size]? = some (.cells #[.bool false] 4 (0, 0))) ∧ Below w.heap.size w wr) (fun i _ => cs.length - (intOf i).toNat)
  case atStart => exact ⟨0, Nat.zero_le _, rfl, Lib.hid (by simp), hw0, hb0⟩
  case round =>
    clear hw0 hb0
    obtain ⟨k, hk, rfl, HA, HW, hb⟩ := hrel
    by_cases hlt : k < cs.length
    · obtain ⟨b, off, rfl, hbl, hc⟩ := HX.out (by omega)
      obtain ⟨h1, h2, h3⟩ := hc k hlt
      have g1 : wr.cell? ⟨b, off + k * 3, none⟩ = _ := (hb.cell (p := ⟨b, off + k * 3, none⟩) hbl).trans h1
      have g2 : wr.cell? ⟨b, off + k * 3 + 1, none⟩ = _ := (hb.cell (p := ⟨b, off + k * 3 + 1, none⟩) hbl).trans h2
      have g3 : wr.cell? ⟨b, off + k * 3 + 2, none⟩ = _ := (hb.cell (p := ⟨b, off + k * 3 + 2, none⟩) hbl).trans h3
      clear hc h1 h2 h3
      generalize eA : (cA cs k).k = K at g1
      generalize eB : (cA cs k).a = A at g2
      generalize eC : (cA cs k).b = B at g3
      have E : Hid (cs[k] = (⟨K, A, B⟩ : Cl)) := Lib.hid (by rw [← eA, ← eB, ← eC, cA_of hlt])
      clear eA eB eC
      have hb1 : Below w.heap.size w (wr.alloc (.cells #[.int .i64 K, .int .i64 A, .int .i64 B] 73)) := hb.alloc hb.size _
      cases hB : clB ⟨K, A, B⟩
      · go_wp2_with fail
        refine (raise_no _ _ _ _ hB).mono ?_
        rintro e w2 ⟨rfl, b2⟩
        have hh : w2.heap[w.heap.size]? = some (.cells #[.bool false] 4 (0, 0)) := by
          have h0 := (Array.getElem?_eq_some_iff.1 HW.out).1
          rw [b2.block _ (by simp; omega), heap_alloc_old _ _ h0]; exact HW.out
        obtain ⟨c1, f1⟩ := cells1_of hh
        have R := Lib.hid (show cs.all clB = false by
          rw [List.all_eq_false]
          exact ⟨_, List.getElem_mem hlt, by rw [E.out, hB]; simp⟩)
        have hb2 := Lib.hid (hb1.trans (b2.mono hb1.size))
        clear b2 hb1 hB HA HW
        go_wp2_with fail
        refine leaves_cons (f := 84) (args := #[.pointer (some ⟨w.heap.size, 0, none⟩)]) (by simp) (by simp [go_sem]) ?_
        refine (catch_panic _ _ _ _ _ _ c1 f1).mono ?_
        rintro e u' w'' ⟨rfl, rfl, rfl⟩
        have hbb : w.heap.size < w2.heap.size := World.block_lt_of_cell? _ _ c1
        have c2 : (w2.alloc (.cells #[.int .i64 K, .int .i64 A, .int .i64 B] 110)).cell? ⟨w.heap.size, 0, none⟩ = some (.bool false) := (World.cell?_alloc_past _ _ _ hbb).trans c1
        refine ⟨.bool false, by simp [results, Tryd.results72, go_sem, c2], by rw [R.out], (hb2.out.alloc hb2.out.size _).setCell (Nat.le_refl _) _⟩
      · go_wp2_with fail
        refine (raise_yes _ _ _ _ hB).mono ?_
        rintro e w2 ⟨rfl, b2⟩
        have hh : w2.heap[w.heap.size]? = some (.cells #[.bool false] 4 (0, 0)) := by
          have h0 := (Array.getElem?_eq_some_iff.1 HW.out).1
          rw [b2.block _ (by simp; omega), heap_alloc_old _ _ h0]; exact HW.out
        have N := Lib.hid (show (cs.take (k + 1)).all clB = true by
          rw [List.take_add_one, List.getElem?_eq_getElem hlt, List.all_append, HA.out, E.out]
          simp [hB])
        have hb2 := hb1.trans (b2.mono hb1.size)
        have HH := Lib.hid hh
        clear b2 hb1 hB HA HW hh
        go_wp2_with fail
        go_roundw
        case rel => exact ⟨k + 1, by omega, by go_num, N, HH, hb2⟩
        case measure => simp [intOf]; omega
    · obtain rfl : k = cs.length := by omega
      obtain ⟨c1, f1⟩ := cells1_of HW.out
      have R := Lib.hid (show cs.all clB = true by have := HA.out; rwa [List.take_length] at this)
      have hbb : w.heap.size < wr.heap.size := World.block_lt_of_cell? _ _ c1
      clear HA HW
      go_wp2
      have c2 : (wr.setCell ⟨w.heap.size, 0, none⟩ (.bool true)).cell? ⟨w.heap.size, 0, none⟩ = some (.bool true) := by simp [go_sem, c1]
      have f2 : (wr.setCell ⟨w.heap.size, 0, none⟩ (.bool true)).frozen? ⟨w.heap.size, 0, none⟩ = false := by simp [go_sem, f1]
      refine leaves_cons (f := 84) (args := #[.pointer (some ⟨w.heap.size, 0, none⟩)]) (by simp) (by simp [go_sem]) ?_
      refine (catch_idle _ _ _ c2 f2).mono ?_
      rintro e u' w'' ⟨rfl, rfl, rfl⟩
      have c3 : ((wr.setCell ⟨w.heap.size, 0, none⟩ (.bool true)).alloc (.cells #[.int .i64 0, .int .i64 0, .int .i64 0] 110)).cell? ⟨w.heap.size, 0, none⟩ = some (.bool true) := (World.cell?_alloc_past _ _ _ (by simpa using hbb)).trans c2
      refine ⟨.bool true, by simp [results, Tryd.results72, go_sem, c3], by rw [R.out], ?_⟩
      exact ((hb.setCell (Nat.le_refl _) _).alloc (by simp; omega) _).setCell (Nat.le_refl _) _
end Go.Proofs.YtgojlabkngnkdaaDoor
