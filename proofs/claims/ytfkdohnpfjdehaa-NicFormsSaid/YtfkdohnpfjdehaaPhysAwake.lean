/-
  The contract of layer 3's awake: it answers true, whatever the world.
-/
import Derived.Test.YtfkdohnpfjdehaaPhysW
import Derived.Test.YtfkdohnpfjdehaaNum
namespace Go.Proofs.Ytfkdohnpfjdehaa
open Go.RowKit
set_option linter.unusedVariables false
set_option maxRecDepth 100000

def aw0 : List UInt8 := zeros 128
def aw1 : List UInt8 := wrL aw0 62 [97, 98, 99, 100]
def aw2 : List UInt8 := pwL aw1 4 67305985
def aw3 : List UInt8 := zeL aw2 1

end Go.Proofs.Ytfkdohnpfjdehaa
