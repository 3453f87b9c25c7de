/-
  Contracts of package phys: New, Size, Read, Write, Zero.
-/
import Derived.Test.YtobpggpjboonfaaDoorPhys0
import Derived.Test.YtobpggpjboonfaaDoorMay
namespace Go.Proofs.YtobpggpjboonfaaDoor
open Go.RowKit
set_option linter.unusedVariables false
set_option maxRecDepth 100000

theorem may_any (a n s : Int) (w : World) (h4 : s ≤ 9223372036854775807) :
    Calls Tryd.prog 62 #[.int .i64 a, .int .i64 n, .int .i64 s] w fun e w' => e = .returned (.bool (mayB a n s)) ∧ w = w' := by
  by_cases h : 0 ≤ a ∧ 0 ≤ n ∧ a ≤ s ∧ n ≤ s - a
  · rw [show mayB a n s = true from decide_eq_true h]
    exact may_yes a n s w h.1 h.2.1 h.2.2.1 h.2.2.2 h4
  · rw [show mayB a n s = false from decide_eq_false h]
    exact may_no a n s w h h4

/-- Bytes that are all 0. -/
def zeros (n : Nat) : List UInt8 := List.replicate n 0
theorem zeros_len (n : Nat) : (zeros n).length = n := by simp [zeros]

/-- The cells of a new memory: kept closed to the walk. -/
def zMem : Array Value := (Value.int .i64 0 :: List.replicate 4096 (Value.int .u8 0)).toArray
theorem zMem_ne : ¬ (zMem = #[]) := by
  intro h
  have := congrArg Array.size h
  simp only [zMem, List.size_toArray, List.length_cons, List.length_replicate] at this
  cases this
theorem zMem_set (c : Int) (m : Nat) (h : m ≤ 4096) : zMem.setIfInBounds 0 (.int .i64 c) = (Value.int .i64 c :: (bts (zeros m) ++ List.replicate (4096 - m) (Value.int .u8 0))).toArray := by
  have e : bts (zeros m) ++ List.replicate (4096 - m) (Value.int .u8 0) = List.replicate 4096 (Value.int .u8 0) := by
    simp only [bts, zeros, List.map_replicate]
    rw [show ((0 : UInt8).toNat : Int) = 0 from rfl, List.replicate_append_replicate, show m + (4096 - m) = 4096 by omega]
  rw [e]
  unfold zMem
  rw [List.setIfInBounds_toArray, List.set_cons_zero]

end Go.Proofs.YtobpggpjboonfaaDoor
