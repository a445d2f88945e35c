/-
  Closed facts of the program: its own knob is unset, all of its types are laid out, and what its head says of how it was made. Conditions: none.
-/
import Derived.Test.YtpijogajjinedaaRows
import Derived.ProofKit
import Derived.Below
namespace Go.Proofs.Ytpijogajjinedaa
theorem ownT : ownKnob Try.prog.godebug = none := by kernel_rfl
theorem laidOutT : laidOutB Try.prog = true := by kernel_rfl
theorem headsT : (Try.pinned.checked.prog.mayEnter && (false == Try.pinned.checked.prog.liftsFinal) && (Try.pinned.checked.prog.make == some Rows.fnExactArePiecesRow.make)) = true := by kernel_rfl
theorem enterT : Try.pinned.checked.prog.mayEnter = true := by
  have h := headsT
  simp only [Bool.and_eq_true] at h
  exact h.1.1
theorem finalT : Try.pinned.checked.prog.liftsFinal = false := by
  have h := headsT
  simp only [Bool.and_eq_true, beq_iff_eq] at h
  exact h.1.2.symm
theorem makeT : Try.pinned.checked.prog.make = some Rows.fnExactArePiecesRow.make := by
  have h := headsT
  simp only [Bool.and_eq_true, beq_iff_eq] at h
  exact h.2
end Go.Proofs.Ytpijogajjinedaa
