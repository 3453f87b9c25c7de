/-
  Is a number one of so many? (Out of Dk0.) No Go here.
-/
import Derived.Test.YtamhnnkmjhapmaaMem
namespace Go.Proofs.Ytamhnnkmjhapmaa
open Go.RowKit
set_option linter.unusedVariables false
set_option maxRecDepth 100000

/-- Is there such a partition? -/
def inP (P : Nat) (p : Int) : Bool := decide (0 ≤ p ∧ p < (P : Int))
theorem inP_iff (P : Nat) (p : Int) : inP P p = true ↔ ∃ k : Nat, p = k ∧ k < P := by
  unfold inP
  rw [decide_eq_true_eq]
  constructor
  · intro h; exact ⟨p.toNat, by omega, by omega⟩
  · rintro ⟨k, rfl, h⟩; omega
theorem inP_no {P : Nat} {p : Int} (h : inP P p = false) : p < 0 ∨ (0 ≤ p ∧ (P : Int) ≤ p) := by
  unfold inP at h
  rw [decide_eq_false_iff_not] at h
  omega
theorem inP_at {P k : Nat} (h : k < P) : inP P (k : Int) = true := (inP_iff _ _).2 ⟨k, rfl, h⟩

end Go.Proofs.Ytamhnnkmjhapmaa
