/-
  Contracts: May of addr and of the document.
-/
import Derived.Test.YtobpggpjboonfaaDoorPlain
import Derived.Test.YtobpggpjboonfaaDoorChecked
import Derived.Test.YtobpggpjboonfaaDoorNum
namespace Go.Proofs.YtobpggpjboonfaaDoor
open Go.RowKit
set_option linter.unusedVariables false
set_option maxRecDepth 100000

theorem may_yes (a n s : Int) (w : World) (h0 : 0 ≤ a) (h1 : 0 ≤ n) (h2 : a ≤ s) (h3 : n ≤ s - a) (h4 : s ≤ 9223372036854775807) :
    Calls Tryd.prog 62 #[.int .i64 a, .int .i64 n, .int .i64 s] w fun e w' => e = .returned (.bool true) ∧ w = w' := by
  go_enter Tryd.func62, Tryd.ntmps62
  go_wp2
  go_ret
  exact ⟨rfl, rfl⟩

theorem may_no (a n s : Int) (w : World) (h : ¬ (0 ≤ a ∧ 0 ≤ n ∧ a ≤ s ∧ n ≤ s - a)) (h4 : s ≤ 9223372036854775807) :
    Calls Tryd.prog 62 #[.int .i64 a, .int .i64 n, .int .i64 s] w fun e w' => e = .returned (.bool false) ∧ w = w' := by
  by_cases ha : 0 ≤ a
  · by_cases hn : 0 ≤ n
    · by_cases hs : a ≤ s
      · have hd : decide (n ≤ s - a) = false := by simp; omega
        have hl : s - a < n := by omega
        clear h
        go_enter Tryd.func62, Tryd.ntmps62
        go_wp2
        go_ret
        exact ⟨rfl, rfl⟩
      · clear h
        go_enter Tryd.func62, Tryd.ntmps62
        go_wp2
        go_ret
        exact ⟨rfl, rfl⟩
    · clear h
      go_enter Tryd.func62, Tryd.ntmps62
      go_wp2
      go_ret
      exact ⟨rfl, rfl⟩
  · clear h
    go_enter Tryd.func62, Tryd.ntmps62
    go_wp2
    go_ret
    exact ⟨rfl, rfl⟩

theorem rmay_yes (a n s : Int) (w : World) (h0 : 0 ≤ a) (h1 : 0 ≤ n) (h2 : a ≤ s) (h3 : n ≤ s - a) (h4 : s ≤ 9223372036854775807) :
    Calls Tryd.prog 61 #[.int .i64 a, .int .i64 n, .int .i64 s] w fun e w' => e = .returned (.bool true) ∧ w = w' := by
  have hs : 0 ≤ s := by omega
  go_enter Tryd.func61, Tryd.ntmps61
  go_wp2
  go_ret
  exact ⟨rfl, rfl⟩

theorem rmay_no (a n s : Int) (w : World) (h : ¬ (0 ≤ a ∧ 0 ≤ n ∧ a ≤ s ∧ n ≤ s - a)) (h4 : s ≤ 9223372036854775807) :
    Calls Tryd.prog 61 #[.int .i64 a, .int .i64 n, .int .i64 s] w fun e w' => e = .returned (.bool false) ∧ w = w' := by
  by_cases ha : 0 ≤ a
  · by_cases hn : 0 ≤ n
    · by_cases hs : a ≤ s
      · have hd : decide (n ≤ s - a) = false := by simp; omega
        have hl : s - a < n := by omega
        have hs0 : 0 ≤ s := by omega
        clear h
        go_enter Tryd.func61, Tryd.ntmps61
        go_wp2
        go_ret
        exact ⟨rfl, rfl⟩
      · clear h
        by_cases hs0 : 0 ≤ s
        · go_enter Tryd.func61, Tryd.ntmps61
          go_wp2
          go_ret
          exact ⟨rfl, rfl⟩
        · go_enter Tryd.func61, Tryd.ntmps61
          go_wp2
          go_ret
          exact ⟨rfl, rfl⟩
    · clear h
      go_enter Tryd.func61, Tryd.ntmps61
      go_wp2
      go_ret
      exact ⟨rfl, rfl⟩
  · clear h
    go_enter Tryd.func61, Tryd.ntmps61
    go_wp2
    go_ret
    exact ⟨rfl, rfl⟩

end Go.Proofs.YtobpggpjboonfaaDoor
