/-
  The contract of layer 16's awake: it answers true, whatever the world. And contracts of answers that are known.
-/
import Derived.Test.YtcjmgjdejljjkaaDe2
import Derived.Test.YtcjmgjdejljjkaaDe4
import Derived.Test.YtcjmgjdejljjkaaNum
namespace Go.Proofs.Ytcjmgjdejljjkaa
open Go.RowKit
set_option linter.unusedVariables false
set_option maxRecDepth 100000

theorem deget_is (s : ByteArray) (D : Value) (w : World) (h : degV s.data.toList = D) :
    Calls Try.prog 22 #[.string s] w fun e w' => e = .returned D ∧ Below w.heap.size w w' := by
  subst h; exact deget_any s w
theorem demay_is (o x l b n : Int) (B : Bool) (w : World) (h : deB o x l b n = B) :
    Calls Try.prog 35 #[.agg #[.int .i64 o, .int .i64 x, .int .i64 l, .int .i64 b, .int .i64 n]] w fun e w' => e = .returned (.bool B) ∧ Below w.heap.size w w' := by
  subst h; exact demay_any o x l b n w

end Go.Proofs.Ytcjmgjdejljjkaa
