/-
  Contracts of layer 4: May, Put, fieldsOf, Get of package pte; those of the document.
-/
import Derived.Test.YtobpggpjboonfaaDoorPte0
import Derived.Test.YtobpggpjboonfaaDoorChecked
namespace Go.Proofs.YtobpggpjboonfaaDoor
open Go.RowKit
set_option linter.unusedVariables false
set_option maxRecDepth 100000

theorem emay_any (f p : Int) (w : World) :
    Calls Tryd.prog 65 #[.agg #[.int .i64 f, .int .i64 p]] w fun e w' => e = .returned (.bool (eB f p)) ∧ Below w.heap.size w w' := by
  by_cases hp : p = 0
  · subst hp
    by_cases hf : f = 0
    · subst hf
      rw [eB_zero]
      go_enter Tryd.func65, Tryd.ntmps65
      go_wp2
      go_ret
      exact ⟨rfl, (Below.refl _ _).alloc (Nat.le_refl _) _⟩
    · rw [eB_no f 0 (by omega)]
      have hf' : (f == 0) = false := by simpa using hf
      go_enter Tryd.func65, Tryd.ntmps65
      go_wp2
      go_ret
      exact ⟨rfl, (Below.refl _ _).alloc (Nat.le_refl _) _⟩
  · have hp' : (p == 0) = false := by simpa using hp
    by_cases h0 : 1 ≤ p
    · skip
      by_cases h1 : p ≤ 3
      · skip
        by_cases h2 : 0 ≤ f
        · skip
          by_cases h3 : f < 64
          · skip
            rw [eB_yes f p (by omega) (by omega) (by omega) (by omega)]
            go_enter Tryd.func65, Tryd.ntmps65
            go_wp2
            go_ret
            exact ⟨rfl, (Below.refl _ _).alloc (Nat.le_refl _) _⟩
          · rw [eB_no f p (by omega)]
            have g3 : 64 ≤ f := by omega
            go_enter Tryd.func65, Tryd.ntmps65
            go_wp2
            go_ret
            exact ⟨rfl, (Below.refl _ _).alloc (Nat.le_refl _) _⟩
        · rw [eB_no f p (by omega)]
          have g2 : f < 0 := by omega
          go_enter Tryd.func65, Tryd.ntmps65
          go_wp2
          go_ret
          exact ⟨rfl, (Below.refl _ _).alloc (Nat.le_refl _) _⟩
      · rw [eB_no f p (by omega)]
        have g1 : 3 < p := by omega
        go_enter Tryd.func65, Tryd.ntmps65
        go_wp2
        go_ret
        exact ⟨rfl, (Below.refl _ _).alloc (Nat.le_refl _) _⟩
    · rw [eB_no f p (by omega)]
      have g0 : p < 1 := by omega
      go_enter Tryd.func65, Tryd.ntmps65
      go_wp2
      go_ret
      exact ⟨rfl, (Below.refl _ _).alloc (Nat.le_refl _) _⟩

theorem remay_any (f p : Int) (w : World) :
    Calls Tryd.prog 44 #[.agg #[.int .i64 f, .int .i64 p]] w fun e w' => e = .returned (.bool (eB f p)) ∧ Below w.heap.size w w' := by
  by_cases hp : p = 0
  · subst hp
    by_cases hf : f = 0
    · subst hf
      rw [eB_zero]
      go_enter Tryd.func44, Tryd.ntmps44
      go_wp2
      go_ret
      exact ⟨rfl, (Below.refl _ _).alloc (Nat.le_refl _) _⟩
    · rw [eB_no f 0 (by omega)]
      have hf' : (f == 0) = false := by simpa using hf
      go_enter Tryd.func44, Tryd.ntmps44
      go_wp2
      go_ret
      exact ⟨rfl, (Below.refl _ _).alloc (Nat.le_refl _) _⟩
  · have hp' : (p == 0) = false := by simpa using hp
    by_cases h0 : 1 ≤ p
    · skip
      by_cases h1 : p ≤ 3
      · skip
        by_cases h2 : 0 ≤ f
        · skip
          by_cases h3 : f < 64
          · skip
            rw [eB_yes f p (by omega) (by omega) (by omega) (by omega)]
            go_enter Tryd.func44, Tryd.ntmps44
            go_wp2
            go_ret
            exact ⟨rfl, (Below.refl _ _).alloc (Nat.le_refl _) _⟩
          · rw [eB_no f p (by omega)]
            have g3 : 64 ≤ f := by omega
            go_enter Tryd.func44, Tryd.ntmps44
            go_wp2
            go_ret
            exact ⟨rfl, (Below.refl _ _).alloc (Nat.le_refl _) _⟩
        · rw [eB_no f p (by omega)]
          have g2 : f < 0 := by omega
          go_enter Tryd.func44, Tryd.ntmps44
          go_wp2
          go_ret
          exact ⟨rfl, (Below.refl _ _).alloc (Nat.le_refl _) _⟩
      · rw [eB_no f p (by omega)]
        have g1 : 3 < p := by omega
        go_enter Tryd.func44, Tryd.ntmps44
        go_wp2
        go_ret
        exact ⟨rfl, (Below.refl _ _).alloc (Nat.le_refl _) _⟩
    · rw [eB_no f p (by omega)]
      have g0 : p < 1 := by omega
      go_enter Tryd.func44, Tryd.ntmps44
      go_wp2
      go_ret
      exact ⟨rfl, (Below.refl _ _).alloc (Nat.le_refl _) _⟩

end Go.Proofs.YtobpggpjboonfaaDoor
