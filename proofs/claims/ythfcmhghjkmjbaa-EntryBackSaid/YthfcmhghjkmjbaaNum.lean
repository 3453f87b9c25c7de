/-
  The contract of Num: an error's number.
-/
import Derived.Test.YthfcmhghjkmjbaaPlain
import Derived.Test.YthfcmhghjkmjbaaChecked
namespace Go.Proofs.Ythfcmhghjkmjbaa
open Go.RowKit
set_option linter.unusedVariables false

theorem num_any (n : Int) (w : World) :
    Calls Try.prog 12 #[.int .i64 n] w fun e w' => e = .returned (.int .i64 n) ∧ w = w' := by
  go_enter Try.func12, Try.ntmps12
  go_wp2
  go_ret
  exact ⟨rfl, rfl⟩

end Go.Proofs.Ythfcmhghjkmjbaa
