/-
  Plain words for layer 7's awake: what each call answers.
-/
import Derived.Test.YtggdbiniklchoaaIop11
import Derived.Test.YtggdbiniklchoaaIoAll
namespace Go.Proofs.Ytggdbiniklchoaa
open Go.RowKit
set_option linter.unusedVariables false
set_option maxRecDepth 100000

def psA : List (List Int) := [[0, 1], [2, 3]]
def aw7_0 : List UInt8 := psA.flatten.foldl zeL (zeros 512)
def aw7_1 : List UInt8 := ioMapL psA aw7_0 1 17 6 3
def aw7_3 : List UInt8 := ioMapL psA aw7_1 1 18 7 1
def aw7_4 : List UInt8 := ioUnL psA aw7_3 1 17
theorem fA_ok : okP (frs (zeros 512)) psA = true := by decide +kernel
theorem fA_no : okP (frs aw7_0) [[0, 1], [1, 3]] = false := by decide +kernel
theorem fA_1 : ioMapC psA aw7_0 1 17 6 3 = 0 := by decide +kernel
theorem fA_2 : ioMapC psA aw7_1 1 33 6 3 = 701 := by decide +kernel
theorem fA_2l : ioMapL psA aw7_1 1 33 6 3 = aw7_1 := ioMapL_no _ _ _ _ _ _ (by rw [fA_2]; decide)
theorem fA_3 : ioMapC psA aw7_1 1 18 7 1 = 0 := by decide +kernel
theorem fA_4 : ioTrC psA aw7_3 1 1148 10 false = 0 := by decide +kernel
theorem fA_4p : ioTrP psA aw7_3 1 1148 10 false = [(6, 60, 4), (7, 0, 6)] := by decide +kernel
theorem fA_5 : ioTrC psA aw7_3 1 1148 10 true = 703 := by decide +kernel
theorem fA_5p : ioTrP psA aw7_3 1 1148 10 true = [] := by unfold ioTrP; rw [fA_5]; rfl
theorem fA_6 : ioTrC psA aw7_3 0 0 1 false = 702 := by decide +kernel
theorem fA_6p : ioTrP psA aw7_3 0 0 1 false = [] := by unfold ioTrP; rw [fA_6]; rfl
theorem fA_7 : ioUnC psA aw7_3 1 17 = 0 := by decide +kernel
theorem fA_8 : ioTrC psA aw7_4 1 1088 1 false = 702 := by decide +kernel
theorem fA_8p : ioTrP psA aw7_4 1 1088 1 false = [] := by unfold ioTrP; rw [fA_8]; rfl
theorem fA_9 : ioUnC psA aw7_4 1 17 = 702 := by decide +kernel
theorem fA_9l : ioUnL psA aw7_4 1 17 = aw7_4 := ioUnL_no _ _ _ _ (by rw [fA_9]; decide)

end Go.Proofs.Ytggdbiniklchoaa
