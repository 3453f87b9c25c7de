/-
  Contracts: May of addr and of the document.
-/
import Derived.Test.YtfkdohnpfjdehaaPlain
import Derived.Test.YtfkdohnpfjdehaaChecked
import Derived.Test.YtfkdohnpfjdehaaNum
namespace Go.Proofs.Ytfkdohnpfjdehaa
open Go.RowKit
set_option linter.unusedVariables false
set_option maxRecDepth 100000

end Go.Proofs.Ytfkdohnpfjdehaa
