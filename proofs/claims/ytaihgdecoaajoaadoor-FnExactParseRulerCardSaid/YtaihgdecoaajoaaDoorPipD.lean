/-
  ParsePieces, by its contract: the program answers what the model's way to read a text answers. Conditions: a text of at most 2^20 bytes; the library's variables hold what they held at the start.
-/
import Derived.Test.YtaihgdecoaajoaaDoorPrsD
namespace Go.Proofs.YtaihgdecoaajoaaDoor
open Go.RowKit

/-- If no list that the words read as has this text, then the text is none of pieces. -/
theorem at_none {l : List UInt8} (h : ¬ l = [48]) (H : ∀ V, AtTo l (splitW l).length V → itG 43 V ≠ l) : parB l = false ∧ parR l = [] := by
  refine par_no h fun ⟨_, hg⟩ => ?_
  have hA : AtTo l (splitW l).length (outW l) := by
    refine ⟨outW_len l, fun j hj w hw => ?_⟩
    obtain ⟨h0, _⟩ := out_word hg hw
    rw [(dd_read h0 rfl).2, List.getD_eq_getElem?_getD, outW, List.getElem?_map, hw]; rfl
  refine H _ hA ?_
  obtain ⟨_, e⟩ := at_good hA hg
  rw [itG_txt]
  · unfold txtK
    rw [List.take_length, ← e, join_splitW]
  · intro x hx
    obtain ⟨w, hw, rfl⟩ := List.mem_map.1 hx
    obtain ⟨j, hj, rfl⟩ := List.getElem_of_mem hw
    have := (out_word hg (List.getElem?_eq_getElem hj)).1
    omega
theorem good_nonneg {V : List Int} (g : Good V) : ∀ x ∈ V, 0 ≤ x := fun x hx => by
  obtain ⟨j, hj, rfl⟩ := List.getElem_of_mem hx
  have := g.2.1 j hj
  rw [List.getD_eq_getElem?_getD, List.getElem?_eq_getElem hj] at this
  simp only [Option.getD_some] at this
  omega

set_option maxHeartbeats 4000000 in
set_option maxRecDepth 20000 in
theorem implParse_any (l : List UInt8) (w : World) (hl : l.length ≤ 1048576) (hE : Env w) :
    Calls Tryd.prog 18 #[.string (bstr l)] w fun e w' => ∃ u, e = .returned (.tuple #[u, .bool (parB l)]) ∧ Ow w' w.heap.size u (parR l) ∧ Below w.heap.size w w' := by
  have hsz := bstr_size l
  have hPN := parseN_any l w hl hE
  obtain ⟨s, es⟩ : ∃ s, bstr l = s := ⟨_, rfl⟩
  rw [es] at hsz hPN ⊢
  by_cases h0 : l = [48]
  · subst h0
    have e0 : s = ⟨#[48]⟩ := es.symm
    clear es hPN
    subst e0
    have HR := Lib.hid par_zero
    clear hsz hE
    go_enter Tryd.func18, Tryd.ntmps18
    go_wp2
    go_ret2
    exact ⟨_, ret_lb rfl HR.out.1.symm, by rw [HR.out.2]; exact ow_nil _ _, Below.refl _ _⟩
  · have H0 := Lib.hid h0
    have hs0 : (s.toList == [48]) = false := by rw [← es, bstr_list]; simpa using h0
    have HPN := Lib.hid hPN
    have hsl := splitW_len l
    have hn0 : (splitW l).length ≠ 0 := fun e => splitW_ne l (List.length_eq_zero_iff.1 e)
    clear es h0 hPN hE hsz
    go_enter Tryd.func18, Tryd.ntmps18
    go_wp2_with fail
    refine (HPN.out).mono ?_
    rintro e w1 ⟨b1, ⟨V, u, rfl, ho, hV, ht⟩ | ⟨rfl, hno⟩⟩
    · have hVl := hV.1
      by_cases hg : goodB V = true
      · have g := goodB_iff.1 hg
        have HP := Lib.hid (at_same H0.out (fun e => by rw [e] at hVl; simp at hVl; omega) g (by rw [← itG_txt (good_nonneg g)]; exact ht))
        have HG := Lib.hid hg
        clear hV ht g hg
        go_wp2_with fail
        refine (arePieces_any _ V _ ho.sv (by omega)).mono ?_
        rintro e w2 ⟨rfl, b2⟩
        have hg := HG.out
        have B2 := nxt b1 b2
        have o2 := ho.below b2 (Nat.le_refl _)
        clear b2 ho
        go_wp2_with fail
        go_ret2
        exact ⟨_, ret_lb rfl HP.out.1.symm, by rw [HP.out.2]; exact o2, B2⟩
      · have HP := Lib.hid (at_bad H0.out hV (fun h => hg (goodB_iff.2 h)))
        have HG : Hid (goodB V = false) := Lib.hid (by simpa using hg)
        clear hV ht hg
        go_wp2_with fail
        refine (arePieces_any _ V _ ho.sv (by omega)).mono ?_
        rintro e w2 ⟨rfl, b2⟩
        have hg := HG.out
        have B2 := nxt b1 b2
        clear b2 ho
        go_wp2_with fail
        go_ret2
        exact ⟨_, ret_lb rfl HP.out.1.symm, by rw [HP.out.2]; exact ow_nil _ _, B2⟩
    · have HP := Lib.hid (at_none H0.out hno)
      clear hno
      go_wp2_with fail
      go_ret2
      exact ⟨_, ret_lb rfl HP.out.1.symm, by rw [HP.out.2]; exact ow_nil _ _, b1⟩

end Go.Proofs.YtaihgdecoaajoaaDoor
