/-
  The contract of Num: an error's number.
-/
import Derived.Test.YtamhnnkmjhapmaaPlain
import Derived.Test.YtamhnnkmjhapmaaChecked
namespace Go.Proofs.Ytamhnnkmjhapmaa
open Go.RowKit
set_option linter.unusedVariables false
set_option maxRecDepth 100000

theorem num_any (n : Int) (w : World) :
    Calls Try.prog 18 #[.int .i64 n] w fun e w' => e = .returned (.int .i64 n) ∧ w = w' := by
  go_enter Try.func18, Try.ntmps18
  go_wp2
  go_ret
  exact ⟨rfl, rfl⟩

end Go.Proofs.Ytamhnnkmjhapmaa
