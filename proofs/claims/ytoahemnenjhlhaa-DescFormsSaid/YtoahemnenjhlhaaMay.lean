/-
  Contracts: May of addr and of the document.
-/
import Derived.Test.YtoahemnenjhlhaaPlain
import Derived.Test.YtoahemnenjhlhaaChecked
import Derived.Test.YtoahemnenjhlhaaNum
namespace Go.Proofs.Ytoahemnenjhlhaa
open Go.RowKit
set_option linter.unusedVariables false
set_option maxRecDepth 100000

end Go.Proofs.Ytoahemnenjhlhaa
