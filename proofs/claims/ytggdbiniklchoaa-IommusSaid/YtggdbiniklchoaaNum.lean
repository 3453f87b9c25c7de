/-
  The contract of Num: an error's number.
-/
import Derived.Test.YtggdbiniklchoaaPlain
import Derived.Test.YtggdbiniklchoaaChecked
namespace Go.Proofs.Ytggdbiniklchoaa
open Go.RowKit
set_option linter.unusedVariables false
set_option maxRecDepth 100000

theorem num_any (n : Int) (w : World) :
    Calls Try.prog 6 #[.int .i64 n] w fun e w' => e = .returned (.int .i64 n) ∧ w = w' := by
  go_enter Try.func6, Try.ntmps6
  go_wp2
  go_ret
  exact ⟨rfl, rfl⟩

end Go.Proofs.Ytggdbiniklchoaa
