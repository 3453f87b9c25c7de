/-
  Contracts: SamePieces of two slices that read the same; SpoilPieces.
-/
import Derived.Test.YtamhnnkmjhapmaaSplit
import Derived.Test.YtamhnnkmjhapmaaMem
namespace Go.Proofs.Ytamhnnkmjhapmaa
open Go.RowKit
set_option linter.unusedVariables false
set_option maxRecDepth 100000

theorem AllInts.flat (l : List (Nat × Nat × Nat)) : AllInts (flat l) := by
  intro j hj
  have hl := flat_len l
  have f := flat_get l (j / 3) (by omega)
  have e : j = j / 3 * 3 + j % 3 := by omega
  have h3 : j % 3 = 0 ∨ j % 3 = 1 ∨ j % 3 = 2 := by omega
  rcases h3 with h | h | h
  · exact ⟨_, by rw [e, h]; exact f.1⟩
  · exact ⟨_, by rw [e, h]; exact f.2.1⟩
  · exact ⟨_, by rw [e, h]; exact f.2.2⟩

end Go.Proofs.Ytamhnnkmjhapmaa
