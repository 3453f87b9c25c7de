/-
  Contracts of package phys: New, Size, Read, Write, Zero.
-/
import Derived.Test.YtfkdohnpfjdehaaPhys0
import Derived.Test.YtfkdohnpfjdehaaMay
namespace Go.Proofs.Ytfkdohnpfjdehaa
open Go.RowKit
set_option linter.unusedVariables false
set_option maxRecDepth 100000

/-- Bytes that are all 0. -/
def zeros (n : Nat) : List UInt8 := List.replicate n 0
theorem zeros_len (n : Nat) : (zeros n).length = n := by simp [zeros]

/-- The cells of a new memory: kept closed to the walk. -/
def zMem : Array Value := (Value.int .i64 0 :: List.replicate 4096 (Value.int .u8 0)).toArray
theorem zMem_ne : ¬ (zMem = #[]) := by
  intro h
  have := congrArg Array.size h
  simp only [zMem, List.size_toArray, List.length_cons, List.length_replicate] at this
  cases this
theorem zMem_set (c : Int) (m : Nat) (h : m ≤ 4096) : zMem.setIfInBounds 0 (.int .i64 c) = (Value.int .i64 c :: (bts (zeros m) ++ List.replicate (4096 - m) (Value.int .u8 0))).toArray := by
  have e : bts (zeros m) ++ List.replicate (4096 - m) (Value.int .u8 0) = List.replicate 4096 (Value.int .u8 0) := by
    simp only [bts, zeros, List.map_replicate]
    rw [show ((0 : UInt8).toNat : Int) = 0 from rfl, List.replicate_append_replicate, show m + (4096 - m) = 4096 by omega]
  rw [e]
  unfold zMem
  rw [List.setIfInBounds_toArray, List.set_cons_zero]

end Go.Proofs.Ytfkdohnpfjdehaa
