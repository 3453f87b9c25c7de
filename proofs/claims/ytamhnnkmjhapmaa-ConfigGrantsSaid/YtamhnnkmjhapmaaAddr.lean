/-
  Layer 1's five laws: each answers true for every input.
-/
import Derived.Test.YtamhnnkmjhapmaaAwake
import Derived.Test.YtamhnnkmjhapmaaPlain2
namespace Go.Proofs.Ytamhnnkmjhapmaa
open Go.RowKit
set_option linter.unusedVariables false
set_option maxRecDepth 100000

/-- What is asked of a run. Kept closed to the walk. -/
def fitB (a n s : Int) : Bool := decide (0 ≤ a ∧ 0 ≤ n ∧ a ≤ s ∧ n ≤ s - a)
theorem fitB_yes {a n s : Int} (h : 0 ≤ a ∧ 0 ≤ n ∧ a ≤ s ∧ n ≤ s - a) : fitB a n s = true := by unfold fitB; exact decide_eq_true h
theorem fitB_no {a n s : Int} (h : ¬ (0 ≤ a ∧ 0 ≤ n ∧ a ≤ s ∧ n ≤ s - a)) : fitB a n s = false := by unfold fitB; exact decide_eq_false h

theorem may_any (a n s : Int) (w : World) (h4 : s ≤ 9223372036854775807) :
    Calls Try.prog 49 #[.int .i64 a, .int .i64 n, .int .i64 s] w fun e w' => e = .returned (.bool (fitB a n s)) ∧ w = w' := by
  by_cases h : 0 ≤ a ∧ 0 ≤ n ∧ a ≤ s ∧ n ≤ s - a
  · rw [fitB_yes h]; exact may_yes a n s w h.1 h.2.1 h.2.2.1 h.2.2.2 h4
  · rw [fitB_no h]; exact may_no a n s w h h4

theorem rmay_any (a n s : Int) (w : World) (h4 : s ≤ 9223372036854775807) :
    Calls Try.prog 47 #[.int .i64 a, .int .i64 n, .int .i64 s] w fun e w' => e = .returned (.bool (fitB a n s)) ∧ w = w' := by
  by_cases h : 0 ≤ a ∧ 0 ≤ n ∧ a ≤ s ∧ n ≤ s - a
  · rw [fitB_yes h]; exact rmay_yes a n s w h.1 h.2.1 h.2.2.1 h.2.2.2 h4
  · rw [fitB_no h]; exact rmay_no a n s w h h4

/-- What Split answers: pieces and a code. -/
def Ans (L : List (Nat × Nat × Nat)) (c : Int) (w : World) (e : Ending) (w' : World) : Prop :=
  ∃ v, e = .returned (.tuple #[v, .int .i64 c]) ∧ w'.ownsRow w.heap.size 75 3 v L.length (flat L) ∧ Below w.heap.size w w'

def ansL (a n : Int) : List (Nat × Nat × Nat) := if 0 ≤ a ∧ 0 ≤ n ∧ a ≤ 4096 ∧ n ≤ 4096 - a then spl a.toNat n.toNat else []
def ansC (a n : Int) : Int := if 0 ≤ a ∧ 0 ≤ n ∧ a ≤ 4096 ∧ n ≤ 4096 - a then 0 else 100

theorem ansL_len (a n : Int) : (ansL a n).length ≤ 65536 := by
  unfold ansL
  split
  · have := spl_len n.toNat a.toNat; omega
  · simp

theorem split_any (a n : Int) (w : World) : Calls Try.prog 50 #[.int .i64 a, .int .i64 n] w (Ans (ansL a n) (ansC a n) w) := by
  unfold ansL ansC
  by_cases h : 0 ≤ a ∧ 0 ≤ n ∧ a ≤ 4096 ∧ n ≤ 4096 - a
  · rw [if_pos h, if_pos h]
    exact split_yes a n w h.1 h.2.1 (by omega)
  · rw [if_neg h, if_neg h]
    refine (split_no a n w h).mono ?_
    rintro e w' ⟨rfl, rfl⟩
    exact ⟨_, rfl, World.ownsRow_nil _ _ _ _, Below.refl _ _⟩

theorem rsplit_any (a n : Int) (w : World) : Calls Try.prog 55 #[.int .i64 a, .int .i64 n] w (Ans (ansL a n) (ansC a n) w) := by
  unfold ansL ansC
  by_cases h : 0 ≤ a ∧ 0 ≤ n ∧ a ≤ 4096 ∧ n ≤ 4096 - a
  · rw [if_pos h, if_pos h]
    exact rsplit_yes a n w h.1 h.2.1 (by omega)
  · rw [if_neg h, if_neg h]
    refine (rsplit_no a n w h).mono ?_
    rintro e w' ⟨rfl, rfl⟩
    exact ⟨_, rfl, World.ownsRow_nil _ _ _ _, Below.refl _ _⟩

end Go.Proofs.Ytamhnnkmjhapmaa
