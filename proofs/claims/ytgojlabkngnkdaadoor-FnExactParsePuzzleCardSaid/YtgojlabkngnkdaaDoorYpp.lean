/-
  ParsePuzzle in the program, by its contract. Conditions: a text of at most 2^20 bytes; the library's variables hold what they held at the start.
-/
import Derived.Test.YtgojlabkngnkdaaDoorYph
import Derived.Test.YtgojlabkngnkdaaDoorPimC
import Derived.Test.YtgojlabkngnkdaaDoorPrsP
import Derived.Deep.CutRange
namespace Go.Proofs.YtgojlabkngnkdaaDoor
open Go.RowKit

theorem pp_empty : ppB [] = true ∧ ppR [] = [] := pp_of (cs := []) (by simp [pzB]) rfl
theorem split_rowG (l : List UInt8) (hl : l.length ≤ 1073741824) (w : World) (hE : Env w) :
    Calls Tryd.prog 47 #[.string (bstr l), .string ⟨#[44]⟩] w fun e w' => ∃ g, e = .returned (.slice (some ⟨g, 0, none⟩) (C.splitW l).length (C.splitW l).length) ∧ w'.heap[g]? = some (C.wordsO l) ∧ w.heap.size ≤ g ∧ Below w.heap.size w w' := by
  refine (C.split_any l hl w hE).mono ?_
  rintro e w' ⟨rfl, rfl⟩
  exact ⟨_, rfl, heap_alloc_new _ _, Nat.le_refl _, (Below.refl _ w).alloc (Nat.le_refl _) _⟩
theorem Sv.three {w : World} {u : Value} {V : List Int} (h : Sv w u V) (h3 : V.length = 3) : ∃ b off cap K A B, u = .slice (some ⟨b, off, none⟩) 3 cap ∧ V = [K, A, B] ∧ w.cell? ⟨b, off, none⟩ = some (.int .i64 K) ∧ w.cell? ⟨b, off + 1, none⟩ = some (.int .i64 A) ∧ w.cell? ⟨b, off + 2, none⟩ = some (.int .i64 B) := by
  match V, h3 with
  | [K, A, B], _ =>
    obtain ⟨p, cap, rfl, hx⟩ := h
    obtain ⟨b, off, rfl, _, hc⟩ := hx (by simp)
    exact ⟨b, off, cap, K, A, B, rfl, rfl, hc 0 (by simp), hc 1 (by simp), hc 2 (by simp)⟩

set_option maxHeartbeats 16000000 in
set_option maxRecDepth 20000 in
theorem implParsePz_any (l : List UInt8) (w : World) (hl : l.length ≤ 1048576) (hE : Env w) :
    Calls Tryd.prog 22 #[.string (bstr l)] w fun e w' => ∃ u, e = .returned (.tuple #[.agg #[u], .bool (ppB l)]) ∧ Ck w' w.heap.size u (ppR l) ∧ Below w.heap.size w w' := by
  have hsz := bstr_size l
  have hbl := bstr_list l
  obtain ⟨s, es⟩ : ∃ s, bstr l = s := ⟨_, rfl⟩
  have ES := Lib.hid es
  rw [es] at hsz hbl ⊢
  clear es
  by_cases h0 : l = []
  · rw [h0] at hbl
    have hem : s.toList.isEmpty = true := by rw [hbl]; rfl
    have N := pp_empty
    rw [h0, N.1, N.2]
    clear N h0 hbl hE hl hsz
    obtain ⟨W, eW⟩ : ∃ W, w.alloc (.cells #[.slice none 0 0] 43) = W := ⟨_, rfl⟩
    have hb0 : Below w.heap.size w W := by rw [← eW]; exact (Below.refl _ _).alloc (Nat.le_refl _) _
    obtain ⟨cR, fR⟩ := cells1_of (show W.heap[w.heap.size]? = some (.cells #[.slice none 0 0] 43 (0, 0)) by rw [← eW]; exact heap_alloc_new w _)
    go_enter Tryd.func22, Tryd.ntmps22
    go_wp2_with fail
    exact bodyPost_ret (v := .tuple #[.agg #[.slice none 0 0], .bool true]) (by simp [results, Tryd.results22, go_sem, cR]) rfl ⟨_, rfl, Ck.nil _ _, hb0.setCell (Nat.le_refl _) _⟩
  have hem : s.toList.isEmpty = false := by
    rw [hbl]
    cases l with
    | nil => exact absurd rfl h0
    | cons a t => rfl
  have hpos : l.length ≠ 0 := fun e => h0 (List.length_eq_zero_iff.1 e)
  obtain ⟨W, eW⟩ : ∃ W, (w.alloc (.cells #[.slice none 0 0] 43)).alloc (.cells #[.slice none 0 0] 43) = W := ⟨_, rfl⟩
  have hb0 : Below w.heap.size w W := by rw [← eW]; exact ((Below.refl _ _).alloc (Nat.le_refl _) _).alloc (by simp) _
  have ZW : W.heap.size = w.heap.size + 1 + 1 := by rw [← eW]; simp
  have HR := Lib.hid (show W.heap[w.heap.size]? = some (.cells #[.slice none 0 0] 43 (0, 0)) by rw [← eW]; exact blk_a w _ _)
  have HP := Lib.hid (show W.heap[w.heap.size + 1]? = some (.cells #[.slice none 0 0] 43 (0, 0)) by rw [← eW]; exact blk_b w _ _)
  obtain ⟨n, en⟩ : ∃ n, (C.splitW l).length = n := ⟨_, rfl⟩
  have EN := Lib.hid en
  have hn2 : n ≤ 1048577 := by have := C.splitW_len l; omega
  have SP := Lib.hid (split_rowG l (by omega) W (hE.below hb0 (Nat.le_refl _)))
  rw [ES.out, en] at SP
  have HE := Lib.hid hE
  have H0 := Lib.hid h0
  have EW := Lib.hid eW
  clear h0 en hE hbl eW
  go_enter Tryd.func22, Tryd.ntmps22
  go_wp2_with fail
  rw [EW.out]
  clear EW
  refine SP.out.mono ?_
  rintro e w2 ⟨gw, rfl, HOW, hgw, b2⟩
  clear SP
  have hb2 := nxt hb0 b2
  have HR2 := (b2.block _ (by omega)).trans HR.out
  have HP2 := (b2.block _ (by omega)).trans HP.out
  have z2 := b2.size
  have lw := box_lt HOW
  clear b2 HR HP hb0
  go_wp2_with fail
  go_loopw [16] (fun i wr => ∃ (k : Nat) (x : Value) (cs : List Cl), k ≤ n ∧ i = .int .i64 k ∧ wr.heap[w.heap.size]? = some (.cells #[.slice none 0 0] 43 (0, 0)) ∧ wr.heap[w.heap.size + 1]? = some (.cells #[x] 43 (0, 0)) ∧ wr.heap[gw]? = some (C.wordsO l) ∧ Hid (Ck wr w2.heap.size x cs) ∧ Hid (WsIs l k cs) ∧ w2.heap.size ≤ wr.heap.size ∧ Below w.heap.size w wr) (fun i _ => n - (intOf i).toNat)
  case atStart => exact ⟨0, _, [], Nat.zero_le _, rfl, HR2, HP2, HOW, Lib.hid (Ck.nil _ _), Lib.hid (WsIs.zero l), Nat.le_refl _, hb2⟩
  case round =>
    clear HR2 HP2 HOW hb2
    obtain ⟨k, x, cs, hk, rfl, hR, hP, hW, HC, HWS, hz, hb⟩ := hrel
    have HRr := Lib.hid hR
    have HPr := Lib.hid hP
    have HWr := Lib.hid hW
    have HCL := Lib.hid HWS.out.1
    by_cases hlt : k < n
    · have hw : (C.splitW l)[k]? = some ((C.splitW l)[k]'(by rw [EN.out]; exact hlt)) := List.getElem?_eq_getElem _
      obtain ⟨wd, ewd⟩ : ∃ wd, (C.splitW l)[k]'(by rw [EN.out]; exact hlt) = wd := ⟨_, rfl⟩
      rw [ewd] at hw
      have hwl : wd.length ≤ 1048576 := by have := C.splitW_mem_len l wd (List.mem_of_getElem? hw); omega
      have hcell := C.words_cell hW hw
      have PN0 := P.parseN_any wd wr hwl (HE.out.below hb (Nat.le_refl _))
      obtain ⟨sw, esw⟩ : ∃ sw, bstr wd = sw := ⟨_, rfl⟩
      rw [esw] at hcell PN0
      have PN := Lib.hid PN0
      have HW := Lib.hid hw
      clear PN0 hw ewd hwl esw hR hP hW
      go_wp2_with fail
      clear hcell
      refine PN.out.mono ?_
      rintro e w3 ⟨b3, ⟨V, u3, rfl, o3, hV, ht⟩ | ⟨rfl, hno⟩⟩
      · have hR3 := (b3.block _ (box_lt HRr.out)).trans HRr.out
        have hP3 := (b3.block _ (box_lt HPr.out)).trans HPr.out
        have hW3 := (b3.block _ (box_lt HWr.out)).trans HWr.out
        have z3 := b3.size
        have B3 := nxt hb b3
        have HC3 := Lib.hid (HC.out.below b3 (Nat.le_refl _))
        clear b3 PN HRr HPr HWr HC
        by_cases h3 : V.length = 3
        · obtain ⟨b, off, cap, K, A, B, rfl, rfl, n0, n1, n2⟩ := Sv.three o3.sv h3
          have HWI := Lib.hid (HWS.out.snoc HW.out (show WordIs wd ⟨K, A, B⟩ from ⟨hV, ht⟩))
          have lb : b < w3.heap.size := World.block_lt_of_cell? _ _ n0
          have HR3 := Lib.hid hR3
          have HP3 := Lib.hid hP3
          have HW3 := Lib.hid hW3
          have hC3 := HC3.out
          obtain ⟨px, cx, rfl⟩ := hC3.shape
          have SA := fun (W' : World) (h : Below w3.heap.size w3 W') => And.intro (cells1_of ((h.block _ (box_lt HP3.out)).trans HP3.out)).1 (And.intro ((h.cell (p := ⟨b, off, none⟩) lb).trans n0) (And.intro ((h.cell (p := ⟨b, off + 1, none⟩) lb).trans n1) ((h.cell (p := ⟨b, off + 2, none⟩) lb).trans n2)))
          obtain ⟨gb1, gb2, gb3, gb4⟩ := SA w3.drew (Below.refl _ _).drew
          obtain ⟨ge1, -, -, -⟩ := SA (w3.alloc (.cells #[.int .i64 K, .int .i64 A, .int .i64 B] 73)).drew ((Below.refl _ _).alloc (Nat.le_refl _) _).drew
          clear SA n0 n1 n2 hR3 hP3 hW3 hV ht o3 hC3 h3 HWS HW
          go_upto_region 10 with (fail)
          go_region_law (first
            | (refine step_append_clue rfl (.tmp 34) (.tmp 45) rfl w2.heap.size _ cs rfl (HC3.out.below (by first | exact (Below.refl _ _).drew.alloc (Nat.le_refl _) _ | exact (Below.refl _ _).alloc (Nat.le_refl _) _ | exact ((Below.refl _ _).alloc (Nat.le_refl _) _).drew) (Nat.le_refl _)) _ [⟨K, A, B⟩] rfl (by first | exact cs_one w3.drew ⟨K, A, B⟩ | exact cs_one w3 ⟨K, A, B⟩ | exact (cs_one w3 ⟨K, A, B⟩).below (Below.refl _ _).drew (Nat.le_refl _)) (by have := HCL.out; simp; omega) (by simp; omega) ?_; intro v6 w6 o6 g6; have B6 : Below w2.heap.size w3 w6 := (by first | exact (((Below.refl _ _).drew.alloc (Nat.le_refl _) _).mono (by omega)).trans (CkGrown (HC3.out.below ((Below.refl _ _).drew.alloc (Nat.le_refl _) _) (Nat.le_refl _)) (by simp; omega) g6) | exact (((Below.refl _ _).alloc (Nat.le_refl _) _).mono (by omega)).trans (CkGrown (HC3.out.below ((Below.refl _ _).alloc (Nat.le_refl _) _) (Nat.le_refl _)) (by simp; omega) g6) | exact ((((Below.refl _ _).alloc (Nat.le_refl _) _).drew).mono (by omega)).trans (CkGrown (HC3.out.below ((Below.refl _ _).alloc (Nat.le_refl _) _).drew (Nat.le_refl _)) (by simp; omega) g6)); have k6 := (B6.block (w.heap.size + 1) (by omega)).trans HP3.out; obtain ⟨c6, f6⟩ := cells1_of k6; have O6 := Lib.hid o6; obtain ⟨p6, q6, rfl⟩ := o6.shape; clear o6 g6))
          all_goals
            clear gb1 gb2 gb3 gb4 ge1
            have O7 : Hid (Ck w6 w2.heap.size (.slice p6 (cs.length + 1) q6) (cs ++ [⟨K, A, B⟩])) := Lib.hid (by have z := O6.out; rw [List.length_append] at z; exact z)
            have z6 := B6.size
            go_wp2_with fail
            go_roundw
            case rel => exact ⟨k + 1, _, cs ++ [⟨K, A, B⟩], by omega, by go_num, box_far ((B6.block w.heap.size (by omega)).trans HR3.out) (by omega) _, box_set k6, box_far ((B6.block gw lw).trans HW3.out) (by omega) _, Lib.hid (Ck.abv O7.out ((Abv.refl _ _).setCell (by omega) _ _)), HWI, by simp [World.setCell]; omega, (B3.trans (B6.mono (by omega))).setCell (Nat.le_succ _) _⟩
            case measure => simp [intOf]; omega
        · have N := Lib.hid (pp_word H0.out HW.out fun c hc => word_long hV h3 hc)
          obtain ⟨pu, cu, rfl⟩ := o3.sv.form
          have d3 : (((V.length : Nat) : Int) == 3) = false := by rw [beq_eq_false_iff_ne]; omega
          clear hV ht o3
          obtain ⟨cR, fR⟩ := cells1_of hR3
          go_wp2_with fail
          exact bodyPost_ret (v := .tuple #[.agg #[.slice none 0 0], .bool false]) (by simp [results, Tryd.results22, go_sem, cR]) rfl ⟨_, ret_pz N.out.1.symm, by rw [N.out.2]; exact Ck.nil _ _, B3.setCell (Nat.le_refl _) _⟩
      · have N := Lib.hid (pp_word H0.out HW.out fun c hc => word_none hno hc)
        have hR3 := (b3.block _ (box_lt HRr.out)).trans HRr.out
        have B3 := nxt hb b3
        clear hno PN
        obtain ⟨cR, fR⟩ := cells1_of hR3
        go_wp2_with fail
        exact bodyPost_ret (v := .tuple #[.agg #[.slice none 0 0], .bool false]) (by simp [results, Tryd.results22, go_sem, cR]) rfl ⟨_, ret_pz N.out.1.symm, by rw [N.out.2]; exact Ck.nil _ _, B3.setCell (Nat.le_refl _) _⟩
    · obtain rfl : k = n := by omega
      have WA := Lib.hid (ws_all H0.out (by rw [EN.out]; exact HWS.out))
      have PC0 := implIsPuzzle_any x cs wr HC.out.cv (by have := HCL.out; omega)
      obtain ⟨px, cx, rfl⟩ := HC.out.shape
      obtain ⟨cP, fP⟩ := cells1_of hP
      cases hg : pzB cs with
      | false =>
        rw [hg] at PC0
        have PC := Lib.hid PC0
        have N := Lib.hid (WA.out.2 hg)
        clear PC0 WA hg hR hP hW
        go_wp2_with fail
        clear cP fP
        refine PC.out.mono ?_
        rintro e w3 ⟨rfl, b3⟩
        have hR3 := (b3.block _ (box_lt HRr.out)).trans HRr.out
        have B3 := nxt hb b3
        obtain ⟨cR, fR⟩ := cells1_of hR3
        go_wp2_with fail
        exact bodyPost_ret (v := .tuple #[.agg #[.slice none 0 0], .bool false]) (by simp [results, Tryd.results22, go_sem, cR]) rfl ⟨_, ret_pz N.out.1.symm, by rw [N.out.2]; exact Ck.nil _ _, B3.setCell (Nat.le_refl _) _⟩
      | true =>
        rw [hg] at PC0
        have PC := Lib.hid PC0
        have N := Lib.hid (WA.out.1 hg)
        clear PC0 WA hg hR hP hW
        go_wp2_with fail
        clear cP fP
        refine PC.out.mono ?_
        rintro e w3 ⟨rfl, b3⟩
        obtain ⟨cR, fR⟩ := cells1_of ((b3.block _ (box_lt HRr.out)).trans HRr.out)
        obtain ⟨cP, fP⟩ := cells1_of ((b3.block _ (box_lt HPr.out)).trans HPr.out)
        have B3 := nxt hb b3
        have HC3 := HC.out.below b3 (Nat.le_refl _)
        go_wp2_with fail
        exact bodyPost_ret (v := .tuple #[.agg #[.slice px cs.length cx], .bool true]) (by simp [results, Tryd.results22, go_sem, cR]) rfl ⟨_, ret_pz N.out.1.symm, by rw [N.out.2]; exact (Ck.abv HC3 ((Abv.refl _ _).setCell (by omega) _ _)).mono (by omega), B3.setCell (Nat.le_refl _) _⟩
end Go.Proofs.YtgojlabkngnkdaaDoor
