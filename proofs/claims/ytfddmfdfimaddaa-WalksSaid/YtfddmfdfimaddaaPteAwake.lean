/-
  The contract of layer 4's awake: it answers true, whatever the world. And contracts of answers that are known.
-/
import Derived.Test.YtfddmfdfimaddaaPte3
namespace Go.Proofs.Ytfddmfdfimaddaa
open Go.RowKit
set_option linter.unusedVariables false

theorem eput_is (f p n c : Int) (w : World) (hn : eN f p = n) (hc : e4 (eB f p) = c) :
    Calls Try.prog 34 #[.agg #[.int .i64 f, .int .i64 p]] w fun e w' => e = .returned (.tuple #[.int .i64 n, .int .i64 c]) ∧ Below w.heap.size w w' := by
  subst hn hc; exact eput_any f p w
theorem eget_is (x f p c : Int) (w : World) (hf : gF x = f) (hp : gP x = p) (hc : e4 (gB x) = c) :
    Calls Try.prog 29 #[.int .i64 x] w fun e w' => e = .returned (.tuple #[.agg #[.int .i64 f, .int .i64 p], .int .i64 c]) ∧ Below w.heap.size w w' := by
  subst hf hp hc; exact eget_any x w
theorem emay_is (f p : Int) (b : Bool) (w : World) (hb : eB f p = b) :
    Calls Try.prog 35 #[.agg #[.int .i64 f, .int .i64 p]] w fun e w' => e = .returned (.bool b) ∧ Below w.heap.size w w' := by
  subst hb; exact emay_any f p w

end Go.Proofs.Ytfddmfdfimaddaa
