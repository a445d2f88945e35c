/-
  The greatest common divisor, in the model and in the program, by contracts. Conditions: numbers from 0 to 2^40.
-/
import Derived.Test.YtdgadabfahmdmaaVgd
import Derived.IntWalk
namespace Go.Proofs.Ytdgadabfahmdmaa
open Go.RowKit

def gl : List Nat → Nat → Nat
  | [], d => d
  | n :: ns, d => gl ns (Nat.gcd d n)
theorem gl_snoc (n : Nat) : ∀ (l : List Nat) (d : Nat), gl (l ++ [n]) d = Nat.gcd (gl l d) n := by
  intro l
  induction l with
  | nil => intro d; rfl
  | cons a l ih => intro d; exact ih _
theorem gcd_next (d n : Nat) : Nat.gcd n (d % n) = Nat.gcd d n := by
  rw [Nat.gcd_comm d n, Nat.gcd_rec n d, Nat.gcd_comm n]
theorem gl_bd {B : Nat} : ∀ (l : List Nat) (d : Nat), d ≤ B → (∀ n ∈ l, n ≤ B) → gl l d ≤ B := by
  intro l
  induction l with
  | nil => intro d h _; exact h
  | cons a l ih =>
    intro d h hl
    refine ih _ ?_ fun n hn => hl n (by simp [hn])
    have ha := hl a (by simp)
    by_cases h0 : d = 0
    · subst h0; rw [Nat.gcd_zero_left]; exact ha
    · exact Nat.le_trans (Nat.gcd_le_left a (by omega)) h
theorem take_snocG {cs : List Nat} {k : Nat} (hk : k < cs.length) : cs.take (k + 1) = cs.take k ++ [cs.getD k 0] := by
  rw [List.take_add_one, List.getElem?_eq_getElem hk, List.getD_eq_getElem?_getD, List.getElem?_eq_getElem hk]
  rfl

set_option maxHeartbeats 2000000 in
theorem commonDivisor_any (v : Value) (ns : List Nat) (w : World) (h : Sv w v (iL ns)) (hl : ns.length ≤ 1099511627776) (hb : ∀ n ∈ ns, n ≤ 1099511627776) :
    Calls Try.prog 78 #[v] w fun e w' => e = .returned (.int .i64 (gl ns 0 : Int)) ∧ Below w.heap.size w w' := by
  have hlen := iL_len ns
  obtain ⟨p, cap, rfl, hx⟩ := h
  rw [hlen] at hx ⊢
  have HX : Hid (0 < ns.length → ∃ b off, p = some ⟨b, off, none⟩ ∧ b < w.heap.size ∧ ∀ j, j < ns.length → w.cell? ⟨b, off + j, none⟩ = some (.int .i64 ((ns.getD j 0 : Nat) : Int))) := Lib.hid (fun h0 => by
    obtain ⟨b, off, h1, h2, h3⟩ := hx h0
    exact ⟨b, off, h1, h2, fun j hj => by rw [← iL_at]; exact h3 j hj⟩)
  have HB := Lib.hid hb
  clear hx hlen hb
  go_enter Try.func78, Try.ntmps78
  go_wp2
  go_loopw [3, 8] (fun t i wr => ∃ k : Nat, k ≤ ns.length ∧ i = .int .i64 (k : Int) ∧ t = .int .i64 (gl (ns.take k) 0 : Nat) ∧ Below w.heap.size w wr) (fun _ i _ => ns.length - (intOf i).toNat)
  case atStart => exact ⟨0, Nat.zero_le _, rfl, rfl, Below.refl _ _⟩
  case round =>
    obtain ⟨k, hk, rfl, rfl, hbw⟩ := hrel
    by_cases hlt : k < ns.length
    · obtain ⟨b, off, rfl, hbl, hc⟩ := HX.out (by omega)
      have hcell := (hbw.cell (p := ⟨b, off + k, none⟩) hbl).trans (hc k hlt)
      have hnb := HB.out _ (at_mem hlt)
      have G1 := gl_snoc (ns.getD k 0) (ns.take k) 0
      rw [← take_snocG hlt] at G1
      have G2 := gl_bd (ns.take k) 0 (Nat.zero_le 1099511627776) fun n hn => HB.out n (List.mem_of_mem_take hn)
      obtain ⟨n0, en⟩ : ∃ n, ns.getD k 0 = n := ⟨_, rfl⟩
      rw [en] at hcell hnb G1
      obtain ⟨d0, ed⟩ : ∃ d, gl (ns.take k) 0 = d := ⟨_, rfl⟩
      rw [ed] at G1 G2 ⊢
      have G1 := Lib.hid G1
      have j0 : (0 : Int) ≤ k := by omega
      have j1 : (k : Int) < ns.length := by omega
      clear hc en ed
      go_wp2
      go_loopw [3, 5] (fun t i wr => ∃ d n : Nat, i = .int .i64 (n : Int) ∧ t = .int .i64 (d : Int) ∧ n ≤ 1099511627776 ∧ d ≤ 1099511627776 ∧ Hid (Nat.gcd d n = Nat.gcd d0 n0) ∧ Below w.heap.size w wr) (fun _ i _ => (intOf i).toNat)
      case atStart => exact ⟨d0, n0, rfl, rfl, hnb, G2, Lib.hid rfl, hbw⟩
      case round =>
        clear hcell hbw
        obtain ⟨d, n, rfl, rfl, hn, hd, HG, hbw⟩ := hrel
        by_cases h0 : n = 0
        · subst h0
          have e1 := HG.out
          rw [Nat.gcd_zero_right] at e1
          have E1 := Lib.hid e1
          clear e1
          go_wp2
          go_roundw
          case rel => exact ⟨k + 1, by omega, by go_num, by rw [G1.out, ← E1.out], hbw⟩
          case measure => simp only [intOf]; omega
        · have d1 : ((n : Int) != 0) = true := by rw [bne_iff_ne]; omega
          have d2 : ¬ (n : Int) = 0 := by omega
          obtain ⟨r, er⟩ : ∃ r, d % n = r := ⟨_, rfl⟩
          have hr : r < n := by rw [← er]; exact Nat.mod_lt _ (by omega)
          have hm : (d : Int).tmod (n : Int) = (r : Int) := by rw [← er, Int.ofNat_tmod]
          have hw : IntKind.i64.wrap (r : Int) = (r : Int) := IntWalk.i64_in _ (by omega)
          have HG2 : Hid (Nat.gcd n r = Nat.gcd d0 n0) := Lib.hid (by rw [← er, gcd_next]; exact HG.out)
          clear er
          go_wp2
          go_quiet (fail)
          go_wp2
          go_roundw
          case rel => exact ⟨n, r, rfl, rfl, by omega, hn, HG2, below_drewN hbw _⟩
          case measure => simp only [intOf]; omega
    · have hke : k = ns.length := by omega
      subst hke
      go_wp2
      go_ret
      exact ⟨ret_int (by first | rfl | rw [List.take_length]), hbw⟩

set_option maxHeartbeats 2000000 in
theorem cnCommon_any (v : Value) (ns : List Nat) (w : World) (h : Sv w v (iL ns)) (hl : ns.length ≤ 1099511627776) (hb : ∀ n ∈ ns, n ≤ 1099511627776) :
    Calls Try.prog 76 #[v] w fun e w' => e = .returned (.int .i64 (gl ns 0 : Int)) ∧ Below w.heap.size w w' := by
  have hlen := iL_len ns
  obtain ⟨p, cap, rfl, hx⟩ := h
  rw [hlen] at hx ⊢
  have HX : Hid (0 < ns.length → ∃ b off, p = some ⟨b, off, none⟩ ∧ b < w.heap.size ∧ ∀ j, j < ns.length → w.cell? ⟨b, off + j, none⟩ = some (.int .i64 ((ns.getD j 0 : Nat) : Int))) := Lib.hid (fun h0 => by
    obtain ⟨b, off, h1, h2, h3⟩ := hx h0
    exact ⟨b, off, h1, h2, fun j hj => by rw [← iL_at]; exact h3 j hj⟩)
  have HB := Lib.hid hb
  clear hx hlen hb
  go_enter Try.func76, Try.ntmps76
  go_wp2
  go_loopw [3, 9] (fun t i wr => ∃ k : Nat, k ≤ ns.length ∧ i = .int .i64 (k : Int) ∧ t = .int .i64 (gl (ns.take k) 0 : Nat) ∧ Below w.heap.size w wr) (fun _ i _ => ns.length - (intOf i).toNat)
  case atStart => exact ⟨0, Nat.zero_le _, rfl, rfl, Below.refl _ _⟩
  case round =>
    obtain ⟨k, hk, rfl, rfl, hbw⟩ := hrel
    by_cases hlt : k < ns.length
    · obtain ⟨b, off, rfl, hbl, hc⟩ := HX.out (by omega)
      have hcell := (hbw.cell (p := ⟨b, off + k, none⟩) hbl).trans (hc k hlt)
      have hnb := HB.out _ (at_mem hlt)
      have G1 := gl_snoc (ns.getD k 0) (ns.take k) 0
      rw [← take_snocG hlt] at G1
      have G2 := gl_bd (ns.take k) 0 (Nat.zero_le 1099511627776) fun n hn => HB.out n (List.mem_of_mem_take hn)
      obtain ⟨n0, en⟩ : ∃ n, ns.getD k 0 = n := ⟨_, rfl⟩
      rw [en] at hcell hnb G1
      obtain ⟨d0, ed⟩ : ∃ d, gl (ns.take k) 0 = d := ⟨_, rfl⟩
      rw [ed] at G1 G2 ⊢
      have G1 := Lib.hid G1
      have j0 : (0 : Int) ≤ k := by omega
      have j1 : (k : Int) < ns.length := by omega
      clear hc en ed
      go_wp2
      go_loopw [3, 6] (fun t i wr => ∃ d n : Nat, i = .int .i64 (n : Int) ∧ t = .int .i64 (d : Int) ∧ n ≤ 1099511627776 ∧ d ≤ 1099511627776 ∧ Hid (Nat.gcd d n = Nat.gcd d0 n0) ∧ Below w.heap.size w wr) (fun _ i _ => (intOf i).toNat)
      case atStart => exact ⟨d0, n0, rfl, rfl, hnb, G2, Lib.hid rfl, hbw⟩
      case round =>
        clear hcell hbw
        obtain ⟨d, n, rfl, rfl, hn, hd, HG, hbw⟩ := hrel
        by_cases h0 : n = 0
        · subst h0
          have e1 := HG.out
          rw [Nat.gcd_zero_right] at e1
          have E1 := Lib.hid e1
          clear e1
          go_wp2
          go_roundw
          case rel => exact ⟨k + 1, by omega, by go_num, by rw [G1.out, ← E1.out], hbw⟩
          case measure => simp only [intOf]; omega
        · have d1 : (0 : Int) < n := by omega
          have d2 : ¬ (n : Int) = 0 := by omega
          obtain ⟨r, er⟩ : ∃ r, d % n = r := ⟨_, rfl⟩
          have hr : r < n := by rw [← er]; exact Nat.mod_lt _ (by omega)
          have hm : (d : Int).tmod (n : Int) = (r : Int) := by rw [← er, Int.ofNat_tmod]
          have hw : IntKind.i64.wrap (r : Int) = (r : Int) := IntWalk.i64_in _ (by omega)
          have HG2 : Hid (Nat.gcd n r = Nat.gcd d0 n0) := Lib.hid (by rw [← er, gcd_next]; exact HG.out)
          clear er
          go_wp2
          go_quiet (fail)
          go_wp2
          go_roundw
          case rel => exact ⟨n, r, rfl, rfl, by omega, hn, HG2, below_drewN hbw _⟩
          case measure => simp only [intOf]; omega
    · have hke : k = ns.length := by omega
      subst hke
      go_wp2
      go_ret
      exact ⟨ret_int (by first | rfl | rw [List.take_length]), hbw⟩
end Go.Proofs.Ytdgadabfahmdmaa
