/-
  Plain lists of integers: cuts told from the other end, the parts of a ring, and the fewest opened links that join chains. No condition; no program is spoken of here.
-/
import Derived.Test.YtillkjkdpkgckaaCpure
namespace Go.Proofs.Ytillkjkdpkgckaa

/-- The last k cuts told from the other end. -/
def mirTo (m : Int) (xs : List Int) (k : Nat) : List Int := (List.range k).map fun j => m - 1 - xs.getD (xs.length - 1 - j) 0
theorem mirTo_succ (m : Int) (xs : List Int) (k : Nat) : mirTo m xs (k + 1) = mirTo m xs k ++ [m - 1 - xs.getD (xs.length - 1 - k) 0] := by
  simp [mirTo, List.range_succ]
theorem mirTo_len (m : Int) (xs : List Int) (k : Nat) : (mirTo m xs k).length = k := by simp [mirTo]
def mirC (m : Int) (xs : List Int) : List Int := mirTo m xs xs.length

/-- What is told ahead of the last part. -/
def preR : Int → List Int → List Int
  | _, [] => []
  | f, c :: l => (c - f) :: 1 :: preR (c + 1) l
def endR : Int → List Int → Int
  | f, [] => f
  | _, c :: l => endR (c + 1) l
theorem rawF_pre (m : Int) : ∀ (l : List Int) (f : Int), rawF f m l = preR f l ++ [m - endR f l] := by
  intro l
  induction l with
  | nil => intro f; rfl
  | cons c l ih => intro f; simp only [rawF, preR, endR, ih, List.cons_append]
theorem preR_len : ∀ (l : List Int) (f : Int), (preR f l).length = 2 * l.length := by
  intro l
  induction l with
  | nil => intro f; rfl
  | cons c l ih => intro f; simp only [preR, List.length_cons, ih]; omega
end Go.Proofs.Ytillkjkdpkgckaa
