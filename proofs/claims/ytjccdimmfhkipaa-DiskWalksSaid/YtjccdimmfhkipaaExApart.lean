/-
  Layer 18's law ExtentApart: it answers true for every input.
-/
import Derived.Test.YtjccdimmfhkipaaExAwake
import Derived.Test.YtjccdimmfhkipaaExArgs
namespace Go.Proofs.Ytjccdimmfhkipaa
open Go.RowKit
set_option linter.unusedVariables false
set_option linter.unusedSimpArgs false
set_option maxRecDepth 100000

theorem goB_free (s : Int) : ∀ (ps : List (Int × Int)) (F : Nat → Bool), goB ps s F = true → ∀ i, i < ps.length → ∀ t : Nat, (ps.getD i (0, 0)).1.toNat ≤ t → t < (ps.getD i (0, 0)).1.toNat + (ps.getD i (0, 0)).2.toNat → F t = false := by
  intro ps
  induction ps with
  | nil => intro F _ i hi; simp at hi
  | cons q ps ih =>
    intro F h i hi t h1 h2
    simp only [goB, Bool.and_eq_true] at h
    cases i with
    | zero =>
      have h1 : q.1.toNat ≤ t := h1
      have h2 : t < q.1.toNat + q.2.toNat := h2
      have := (freeB_iff F q.2.toNat q.1.toNat).1 h.2.1 (t - q.1.toNat) (by omega)
      rw [show q.1.toNat + (t - q.1.toNat) = t by omega] at this
      exact this
    | succ i =>
      have := ih _ h.2.2 i (by simpa using hi) t h1 h2
      unfold addF at this
      simp only [Bool.or_eq_false_iff] at this
      exact this.1
theorem goB_two (s : Int) : ∀ (ps : List (Int × Int)) (F : Nat → Bool), goB ps s F = true → ∀ i j, i < j → j < ps.length → ∀ t : Nat, (ps.getD i (0, 0)).1.toNat ≤ t → t < (ps.getD i (0, 0)).1.toNat + (ps.getD i (0, 0)).2.toNat →
    (ps.getD j (0, 0)).1.toNat ≤ t → t < (ps.getD j (0, 0)).1.toNat + (ps.getD j (0, 0)).2.toNat → False := by
  intro ps
  induction ps with
  | nil => intro F _ i j _ hj; simp at hj
  | cons q ps ih =>
    intro F h i j hij hj t h1 h2 h3 h4
    simp only [goB, Bool.and_eq_true] at h
    obtain ⟨j, rfl⟩ : ∃ m, j = m + 1 := ⟨j - 1, by omega⟩
    cases i with
    | zero =>
      have h1 : q.1.toNat ≤ t := h1
      have h2 : t < q.1.toNat + q.2.toNat := h2
      have := goB_free s ps _ h.2.2 j (by simpa using hj) t h3 h4
      unfold addF at this
      rw [decide_eq_true h1, decide_eq_true h2] at this
      simp at this
    | succ i => exact ih _ h.2.2 i j (by omega) (by simpa using hj) t h1 h2 h3 h4
/-- Two sectors of shares that may be are one only where share and sector are. -/
theorem ext_apart {ps : List (Int × Int)} {s : Int} (h : extB ps s = true) {i j x y : Nat} (hi : i < ps.length) (hj : j < ps.length) (hx : (x : Int) < (ps.getD i (0, 0)).2) (hy : (y : Int) < (ps.getD j (0, 0)).2) :
    ((ps.getD i (0, 0)).1 + x = (ps.getD j (0, 0)).1 + y) ↔ (i = j ∧ x = y) := by
  have hg := (extB_parts h).2.2.2.2
  obtain ⟨i0, i1, _, _⟩ := extB_run h i hi
  obtain ⟨j0, j1, _, _⟩ := extB_run h j hj
  constructor
  · intro e
    by_cases hij : i = j
    · subst hij; exact ⟨rfl, by omega⟩
    · exfalso
      rcases Nat.lt_or_gt_of_ne hij with hlt | hlt
      · exact goB_two s ps noB hg i j hlt hj ((ps.getD i (0, 0)).1 + x).toNat (by omega) (by omega) (by omega) (by omega)
      · exact goB_two s ps noB hg j i hlt hi ((ps.getD i (0, 0)).1 + x).toNat (by omega) (by omega) (by omega) (by omega)
  · rintro ⟨rfl, rfl⟩; rfl
/-- A sector of a share that may be. -/
theorem toC_one {ps : List (Int × Int)} (h : extB ps 64 = true) {i x : Nat} (hi : i < ps.length) (hx : (x : Int) < (ps.getD i (0, 0)).2) : toC ps i x 1 = ((ps.getD i (0, 0)).1 + x, 0) ∧ 0 ≤ (ps.getD i (0, 0)).1 + x ∧ (ps.getD i (0, 0)).1 + x < 64 := by
  obtain ⟨i0, i1, i2, i3⟩ := extB_run h i hi
  refine ⟨?_, by omega, by omega⟩
  rw [toC_at h hi, if_pos]
  exact decide_eq_true (by omega)

end Go.Proofs.Ytjccdimmfhkipaa
