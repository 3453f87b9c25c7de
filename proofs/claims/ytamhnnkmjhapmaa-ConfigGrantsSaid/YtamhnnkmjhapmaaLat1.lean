/-
  Contracts of layer 9: May, Dominates, Join of package lattice; those of the document.
-/
import Derived.Test.YtamhnnkmjhapmaaLat0
import Derived.Test.YtamhnnkmjhapmaaPlain2
import Derived.Test.YtamhnnkmjhapmaaNum
import Derived.Test.YtamhnnkmjhapmaaMem
namespace Go.Proofs.Ytamhnnkmjhapmaa
open Go.RowKit
set_option linter.unusedVariables false
set_option maxRecDepth 100000

/-- A block of two cells, as the walk asks for it. -/
theorem pair_at {w : World} {g : Nat} {t : TypeId} {x y : Value} (h : Blk w g t [x, y]) : w.cell? ⟨g, 0, none⟩ = some x ∧ w.cell? ⟨g, 1, none⟩ = some y ∧ w.frozen? ⟨g, 0, none⟩ = false ∧ w.frozen? ⟨g, 1, none⟩ = false :=
  ⟨h.cell 0, h.cell 1, h.frozen 0, h.frozen 1⟩

theorem may_parts (l c : Int) : lB l c = true ∧ 0 ≤ l ∧ l ≤ 3 ∧ 0 ≤ c ∧ c ≤ 15 ∨ lB l c = false ∧ (l < 0 ∨ 0 ≤ l ∧ 3 < l ∨ 0 ≤ l ∧ l ≤ 3 ∧ c < 0 ∨ 0 ≤ l ∧ l ≤ 3 ∧ 0 ≤ c ∧ decide (c ≤ 15) = false) := by
  by_cases h : 0 ≤ l ∧ l ≤ 3 ∧ 0 ≤ c ∧ c ≤ 15
  · exact .inl ⟨decide_eq_true h, h⟩
  · refine .inr ⟨decide_eq_false h, ?_⟩
    rw [decide_eq_false_iff_not]
    omega

theorem lmay_any (l c : Int) (w : World) :
    Calls Try.prog 61 #[.agg #[.int .i64 l, .int .i64 c]] w fun e w' => e = .returned (.bool (lB l c)) ∧ Below w.heap.size w w' := by
  rcases may_parts l c with ⟨h, h0, h1, h2, h3⟩ | ⟨h, h0 | ⟨h0, h1⟩ | ⟨h0, h1, h2⟩ | ⟨h0, h1, h2, h3⟩⟩
  all_goals
    rw [h]; clear h
    go_enter Try.func61, Try.ntmps61
    go_wp2
    go_ret
    exact ⟨rfl, (Below.refl _ _).alloc (Nat.le_refl _) _⟩

theorem rlmay_any (l c : Int) (w : World) :
    Calls Try.prog 27 #[.agg #[.int .i64 l, .int .i64 c]] w fun e w' => e = .returned (.bool (lB l c)) ∧ Below w.heap.size w w' := by
  rcases may_parts l c with ⟨h, h0, h1, h2, h3⟩ | ⟨h, h0 | ⟨h0, h1⟩ | ⟨h0, h1, h2⟩ | ⟨h0, h1, h2, h3⟩⟩
  all_goals
    rw [h]; clear h
    go_enter Try.func27, Try.ntmps27
    go_wp2
    go_ret
    exact ⟨rfl, (Below.refl _ _).alloc (Nat.le_refl _) _⟩

theorem lmay_is (l c : Int) (b : Bool) (w : World) (h : lB l c = b) :
    Calls Try.prog 61 #[.agg #[.int .i64 l, .int .i64 c]] w fun e w' => e = .returned (.bool b) ∧ Below w.heap.size w w' := by subst h; exact lmay_any l c w
theorem rlmay_is (l c : Int) (b : Bool) (w : World) (h : lB l c = b) :
    Calls Try.prog 27 #[.agg #[.int .i64 l, .int .i64 c]] w fun e w' => e = .returned (.bool b) ∧ Below w.heap.size w w' := by subst h; exact rlmay_any l c w

/-- The ways of a call of Dominates: Q is what its last test makes of the categories. -/
theorem dom_parts (l c l' c' : Int) (Q : Bool) (hQ : 0 ≤ c → c ≤ 15 → 0 ≤ c' → c' ≤ 15 → Q = hasB c c') :
    lB l c = false ∧ lD l c l' c' = false ∨ lB l c = true ∧ lB l' c' = false ∧ lD l c l' c' = false ∨ lB l c = true ∧ lB l' c' = true ∧ l < l' ∧ lD l c l' c' = false ∨ lB l c = true ∧ lB l' c' = true ∧ l' ≤ l ∧ Q = lD l c l' c' := by
  by_cases h : lB l c = true
  · by_cases h' : lB l' c' = true
    · have a := lB_of h
      have b := lB_of h'
      by_cases hl : l' ≤ l
      · refine .inr (.inr (.inr ⟨h, h', hl, ?_⟩))
        rw [hQ (by omega) (by omega) (by omega) (by omega)]
        unfold lD; rw [h, h', decide_eq_true hl]; simp
      · refine .inr (.inr (.inl ⟨h, h', by omega, ?_⟩))
        unfold lD; rw [decide_eq_false hl]; simp
    · exact .inr (.inl ⟨h, by simpa using h', lD_no _ _ _ _ (.inr (by simpa using h'))⟩)
  · exact .inl ⟨by simpa using h, lD_no _ _ _ _ (.inl (by simpa using h))⟩

/-- The ways of a call of Join: Q is the bits of both. -/
theorem join_parts (l c l' c' : Int) (Q : Int) (hQ : 0 ≤ c → c ≤ 15 → 0 ≤ c' → c' ≤ 15 → Q = orC c c') :
    lB l c = false ∧ jL l c l' c' = 0 ∧ jC l c l' c' = 0 ∧ jE l c l' c' = 900 ∨ lB l c = true ∧ lB l' c' = false ∧ jL l c l' c' = 0 ∧ jC l c l' c' = 0 ∧ jE l c l' c' = 900 ∨
    lB l c = true ∧ lB l' c' = true ∧ l < l' ∧ l' = jL l c l' c' ∧ Q = jC l c l' c' ∧ jE l c l' c' = 0 ∨ lB l c = true ∧ lB l' c' = true ∧ l' ≤ l ∧ l = jL l c l' c' ∧ Q = jC l c l' c' ∧ jE l c l' c' = 0 := by
  by_cases h : lB l c = true
  · by_cases h' : lB l' c' = true
    · have a := lB_of h
      have b := lB_of h'
      obtain ⟨j1, j2, j3⟩ := join_yes l c l' c' h h'
      rw [j1, j2, j3, hQ (by omega) (by omega) (by omega) (by omega)]
      by_cases hl : l' ≤ l
      · refine .inr (.inr (.inr ⟨h, h', hl, ?_, rfl, rfl⟩)); unfold mxL; rw [if_neg (by omega)]
      · refine .inr (.inr (.inl ⟨h, h', by omega, ?_, rfl, rfl⟩)); unfold mxL; rw [if_pos (by omega)]
    · exact .inr (.inl ⟨h, by simpa using h', join_no _ _ _ _ (.inr (by simpa using h'))⟩)
  · exact .inl ⟨by simpa using h, join_no _ _ _ _ (.inl (by simpa using h))⟩

end Go.Proofs.Ytamhnnkmjhapmaa
