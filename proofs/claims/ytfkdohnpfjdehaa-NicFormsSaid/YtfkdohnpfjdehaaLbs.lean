/-
  Plain words: labels, two cells each; one of a slice of them. No Go function here.
-/
import Derived.Test.YtfkdohnpfjdehaaMem
import Derived.Test.YtfkdohnpfjdehaaLat0
namespace Go.Proofs.Ytfkdohnpfjdehaa
open Go.RowKit
set_option linter.unusedVariables false
set_option maxRecDepth 100000

/-- The cells of labels. -/
def lbs (ls : List (Int × Int)) : List Int := ls.flatMap fun x => [x.1, x.2]
theorem lbs_cons (x : Int × Int) (l : List (Int × Int)) : lbs (x :: l) = x.1 :: x.2 :: lbs l := by simp [lbs]
theorem lbs_append (l m : List (Int × Int)) : lbs (l ++ m) = lbs l ++ lbs m := by simp [lbs, List.flatMap_append]
theorem lbs_one (x : Int × Int) : lbs [x] = [x.1, x.2] := by simp [lbs]
theorem lbs_len (l : List (Int × Int)) : (lbs l).length = l.length * 2 := by
  induction l with
  | nil => rfl
  | cons x l ih => rw [lbs_cons]; simp only [List.length_cons, ih]; omega
theorem lbs_get (l : List (Int × Int)) : ∀ i (h : i < l.length), (lbs l)[i * 2]? = some l[i].1 ∧ (lbs l)[i * 2 + 1]? = some l[i].2 := by
  induction l with
  | nil => intro i h; cases h
  | cons x l ih =>
    intro i h
    cases i with
    | zero => rw [lbs_cons]; exact ⟨rfl, rfl⟩
    | succ i =>
      have := ih i (by simpa using h)
      rw [lbs_cons, show (i + 1) * 2 = i * 2 + 1 + 1 by omega]
      exact this
theorem lbs_of (n : Nat) : ∀ zs : List Int, zs.length = n * 2 → ∃ l : List (Int × Int), zs = lbs l ∧ l.length = n := by
  induction n with
  | zero => intro zs h; exact ⟨[], List.length_eq_zero_iff.1 (by omega), rfl⟩
  | succ n ih =>
    intro zs h
    match zs, h with
    | a :: b :: r, h =>
      obtain ⟨l, rfl, hl⟩ := ih r (by simp at h; omega)
      exact ⟨(a, b) :: l, by rw [lbs_cons], by simp [hl]⟩
    | [_], h => simp at h; omega
    | [], h => simp at h
theorem lb_at {w : World} {A : Option Addr} {n c : Nat} {l : List (Int × Int)} (h : Sl w (.slice A n c) n 2 (ints (lbs l))) (hl : l.length = n) (k : Nat) (hk : k < l.length) :
    ∃ b o, A = some ⟨b, o, none⟩ ∧ b < w.heap.size ∧ w.cell? ⟨b, o + k * 2, none⟩ = some (.int .i64 l[k].1) ∧ w.cell? ⟨b, o + k * 2 + 1, none⟩ = some (.int .i64 l[k].2) := by
  obtain ⟨A', cap, e, hc, hxl, hA⟩ := h
  simp only [Value.slice.injEq] at e
  obtain ⟨rfl, _, rfl⟩ := e
  obtain ⟨b, o, rfl, hb, hcell⟩ := hA (by omega)
  have g := lbs_get l k hk
  refine ⟨b, o, rfl, hb, hcell _ _ (by simp [ints, g.1]), ?_⟩
  rw [Nat.add_assoc]
  exact hcell _ _ (by simp [ints, g.2])
/-- May all labels be, and are there 1 to 4? -/
def allL (ls : List (Int × Int)) : Bool := ls.all fun x => lB x.1 x.2
def newL (ls : List (Int × Int)) : Bool := decide (1 ≤ ls.length ∧ ls.length ≤ 4) && allL ls
theorem allL_no {ls : List (Int × Int)} {k : Nat} (hk : k < ls.length) (h : lB ls[k].1 ls[k].2 = false) : allL ls = false := by
  unfold allL
  rw [List.all_eq_false]
  exact ⟨ls[k], List.getElem_mem hk, by simp [h]⟩
theorem allL_yes {ls : List (Int × Int)} (h : ∀ k (hk : k < ls.length), lB ls[k].1 ls[k].2 = true) : allL ls = true := by
  unfold allL
  rw [List.all_eq_true]
  intro x hx
  obtain ⟨k, hk, rfl⟩ := List.getElem_of_mem hx
  exact h k hk

end Go.Proofs.Ytfkdohnpfjdehaa
