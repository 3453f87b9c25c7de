/-
  Texts: their parts and sums, as equations of the run; what of a text a Write looks at. No Go function here.
-/
import Derived.Test.YtobpggpjboonfaaDoorPhys0
namespace Go.Proofs.YtobpggpjboonfaaDoor
open Go.RowKit
set_option linter.unusedVariables false
set_option maxRecDepth 100000

theorem stx_ext (l : List UInt8) (a b : Nat) : (str l).extract a b = str ((l.drop a).take (b - a)) := by
  apply ByteArray.ext
  apply Array.toList_inj.1
  simp [str, ByteArray.data_extract]
theorem stx_l (q : List UInt8) (k : Nat) (hk : k ≤ q.length) (wx : World) : (Instr.slice 9 (.string (str q)) (some (.int .i64 (k : Int))) none none).run Tryd.prog wx = .ok (.string (str (q.drop k))) wx := by
  have h := run_slice_string_l (P := Tryd.prog) wx 9 (str q) Tryd.underlying9 .i64 (k : Int) (by omega) (by rw [str_size]; omega)
  rw [h, Int.toNat_natCast, str_size, stx_ext, List.take_of_length_le (by simp)]
theorem stx_h (q : List UInt8) (k : Nat) (hk : k ≤ q.length) (wx : World) : (Instr.slice 9 (.string (str q)) none (some (.int .i64 (k : Int))) none).run Tryd.prog wx = .ok (.string (str (q.take k))) wx := by
  have h := run_slice_string_h (P := Tryd.prog) wx 9 (str q) Tryd.underlying9 .i64 (k : Int) (by omega) (by rw [str_size]; omega)
  rw [h, Int.toNat_natCast, stx_ext]; simp
theorem stx_add (a b : List UInt8) (h : a.length + b.length ≤ 9223372036854775807) (wx : World) : (Op.stringOp .add (str a) (str b)).run Tryd.prog wx = .ok (.string (str (a ++ b))) wx := by
  rw [run_string_add_sum wx (str a) (str b) (by rw [str_size, str_size]; exact h), str_append]

end Go.Proofs.YtobpggpjboonfaaDoor
