/-
  The search for complete and sparse rulers, plainly: what it finds, how many, and that it finds something. No condition; no program is spoken of here.
-/
import Derived.Test.YthienikceehcoaaRnd
namespace Go.Proofs.Ythienikceehcoaa

abbrev RsR := List Int × Int
/-- Whether a ruler is what is looked for. -/
noncomputable def okR (c : Bool) (ms : List Int) : Bool := if c = true then decide ((wiK ms false ((lastM ms).toNat + 1)).length = 0) else spB ms
def rsS (a f : RsR) : RsR := (if a.2 = 0 then f.1 else a.1, a.2 + f.2)
noncomputable def rsG (F : List Int → RsR) (c : Bool) (ms : List Int) : Nat → Nat → RsR → RsR
  | 0, _, a => a
  | f + 1, n, a => rsG F c ms f (n + 1) (if c = false ∧ spB (ms ++ [(n : Int)]) = false then a else rsS a (F (ms ++ [(n : Int)])))
noncomputable def rs (c : Bool) (len : Nat) : Nat → List Int → RsR
  | 0, ms => if okR c (ms ++ [(len : Int)]) = true then (ms ++ [(len : Int)], 1) else ([], 0)
  | d + 1, ms => rsG (rs c len d) c ms (len - d - ((lastM ms).toNat + 1)) ((lastM ms).toNat + 1) ([], 0)

end Go.Proofs.Ythienikceehcoaa
