/-
  The contract of firstPiece of addr.
-/
import Derived.Test.YtobpggpjboonfaaDoorMay
namespace Go.Proofs.YtobpggpjboonfaaDoor
open Go.RowKit
set_option linter.unusedVariables false
set_option maxRecDepth 100000

theorem first_any (a n k : Int) (w : World) (h0 : 0 ≤ a) (h1 : 0 ≤ n) (h2 : a ≤ 4096) (h3 : n ≤ 4096) (hk : k = min n (64 - a % 64)) :
    Calls Tryd.prog 63 #[.int .i64 a, .int .i64 n] w fun e w' => e = .returned (.agg #[.int .i64 (a / 64), .int .i64 (a % 64), .int .i64 k]) ∧ Below w.heap.size w w' := by
  subst hk
  by_cases h : n ≤ 64 - a % 64
  · rw [show min n (64 - a % 64) = n from by omega]
    go_enter Tryd.func63, Tryd.ntmps63
    go_wp2
    exact bodyPost_ret (v := .agg #[.int .i64 (a / 64), .int .i64 (a % 64), .int .i64 n]) (by simp [results, Tryd.results63, go_sem] <;> omega) rfl ⟨rfl, (Below.refl _ _).alloc (Nat.le_refl _) _⟩
  · rw [show min n (64 - a % 64) = 64 - a % 64 from by omega]
    go_enter Tryd.func63, Tryd.ntmps63
    go_wp2
    exact bodyPost_ret (v := .agg #[.int .i64 (a / 64), .int .i64 (a % 64), .int .i64 (64 - a % 64)]) (by simp [results, Tryd.results63, go_sem] <;> omega) rfl ⟨rfl, (Below.refl _ _).alloc (Nat.le_refl _) _⟩

end Go.Proofs.YtobpggpjboonfaaDoor
