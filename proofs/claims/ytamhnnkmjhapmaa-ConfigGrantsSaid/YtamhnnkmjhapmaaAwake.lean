/-
  The contract of layer 1's awake: it answers true, whatever the world.
-/
import Derived.Test.YtamhnnkmjhapmaaSame
namespace Go.Proofs.Ytamhnnkmjhapmaa
open Go.RowKit
set_option linter.unusedVariables false
set_option maxRecDepth 100000

theorem awake_pieces : spl 60 10 = [(0, 60, 4), (1, 0, 6)] := by decide

end Go.Proofs.Ytamhnnkmjhapmaa
