/-
  Rows told by places: any, all. No Go here.
-/
import Derived.Test.YtamhnnkmjhapmaaMem
namespace Go.Proofs.Ytamhnnkmjhapmaa

/-- How far a row was walked: to its end, if r. -/
def Upto (n : Nat) (I : Nat → World → Prop) (w : World) (r : Bool) : Prop := ∃ k, k ≤ n ∧ I k w ∧ (r = true → k = n)

theorem range_any_yes {n k : Nat} {p : Nat → Bool} (hk : k < n) (h : p k = true) : (List.range n).any p = true := List.any_eq_true.2 ⟨k, List.mem_range.2 hk, h⟩
theorem range_any_no {n : Nat} {p : Nat → Bool} (h : ∀ j, j < n → p j = false) : (List.range n).any p = false := List.any_eq_false.2 (fun x hx => by simp [h x (List.mem_range.1 hx)])
theorem range_any_not (n : Nat) (q : Nat → Bool) : (List.range n).any (fun i => !q i) = !(List.range n).all q := by
  rw [List.all_eq_not_any_not, Bool.not_not]
theorem range_all_iff {n : Nat} {q : Nat → Bool} : (List.range n).all q = true ↔ ∀ j, j < n → q j = true := by
  rw [List.all_eq_true]
  exact ⟨fun h j hj => h j (List.mem_range.2 hj), fun h j hj => h j (List.mem_range.1 hj)⟩
theorem range_any_iff {n : Nat} {q : Nat → Bool} : (List.range n).any q = true ↔ ∃ j, j < n ∧ q j = true := by
  rw [List.any_eq_true]
  exact ⟨fun ⟨j, hj, h⟩ => ⟨j, List.mem_range.1 hj, h⟩, fun ⟨j, hj, h⟩ => ⟨j, List.mem_range.2 hj, h⟩⟩
/-- A row's test, by places. -/
theorem all_range {α : Type} (l : List α) (d : α) (f : α → Bool) : (List.range l.length).all (fun i => f (l.getD i d)) = l.all f := by
  rw [Bool.eq_iff_iff, range_all_iff, List.all_eq_true]
  constructor
  · intro h x hx
    obtain ⟨j, hj, rfl⟩ := List.getElem_of_mem hx
    have := h j hj
    simpa [List.getD, List.getElem?_eq_getElem hj] using this
  · intro h j hj
    simp only [List.getD, List.getElem?_eq_getElem hj, Option.getD_some]
    exact h _ (List.getElem_mem hj)
theorem any_range {α : Type} (l : List α) (d : α) (f : α → Bool) : (List.range l.length).any (fun i => f (l.getD i d)) = l.any f := by
  rw [Bool.eq_iff_iff, range_any_iff, List.any_eq_true]
  constructor
  · rintro ⟨j, hj, h⟩
    refine ⟨_, List.getElem_mem hj, ?_⟩
    simpa [List.getD, List.getElem?_eq_getElem hj] using h
  · rintro ⟨x, hx, h⟩
    obtain ⟨j, hj, rfl⟩ := List.getElem_of_mem hx
    exact ⟨j, hj, by simpa [List.getD, List.getElem?_eq_getElem hj] using h⟩
theorem all_congr_range {n : Nat} {p q : Nat → Bool} (h : ∀ j, j < n → p j = q j) : (List.range n).all p = (List.range n).all q := by
  rw [Bool.eq_iff_iff, range_all_iff, range_all_iff]
  exact ⟨fun k j hj => by rw [← h j hj]; exact k j hj, fun k j hj => by rw [h j hj]; exact k j hj⟩

end Go.Proofs.Ytamhnnkmjhapmaa
