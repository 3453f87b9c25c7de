/-
  Plain words on memory: several blocks of one type, each known whole, and that nothing that was there at first has turned. No Go function here.
-/
import Derived.Test.YtllppgjddboelaaMem
import Derived.Test.YtllppgjddboelaaPlain2
namespace Go.Proofs.Ytllppgjddboelaa
open Go.RowKit
set_option linter.unusedVariables false
set_option maxRecDepth 100000

/-- Since w0 nothing that was there has turned, and each block of bs is just its cells. -/
structure Bks (t : TypeId) (w0 w : World) (bs : List (Nat × List Value)) : Prop where
  blk : ∀ (i : Nat) (p : Nat × List Value), bs[i]? = some p → Blk w p.1 t p.2
  below : Below w0.heap.size w0 w
  size : w0.heap.size ≤ w.heap.size

section
variable {t : TypeId} {w0 w w' : World} {bs : List (Nat × List Value)}
theorem Bks.start (t : TypeId) (w : World) : Bks t w w [] := ⟨fun i p h => by simp at h, Below.refl _ _, Nat.le_refl _⟩
theorem Bks.next (h : Bks t w0 w bs) (hb : Below w.heap.size w w') : Bks t w0 w' bs :=
  ⟨fun i p hp => (h.blk i p hp).below hb (h.blk i p hp).lt, Below.down h.below hb h.size, Nat.le_trans h.size hb.size⟩
theorem Bks.drewN (h : Bks t w0 w bs) (n : Nat) : Bks t w0 (w.drewN n) bs := ⟨fun i p hp => (h.blk i p hp).drewN n, bdrewN h.below n, h.size⟩
theorem Bks.drew (h : Bks t w0 w bs) : Bks t w0 w.drew bs := h.drewN 1
theorem Bks.push (h : Bks t w0 w bs) (cs : List Value) : Bks t w0 (w.alloc (.cells cs.toArray t)) ((w.heap.size, cs) :: bs) := by
  refine ⟨fun i p hp => ?_, h.below.alloc h.size _, Nat.le_trans h.size (by simp)⟩
  match i with
  | 0 =>
    simp only [List.getElem?_cons_zero, Option.some.injEq] at hp
    subst hp
    exact Blk.new _ _ _
  | i + 1 => exact (h.blk i p (by simpa using hp)).alloc _
theorem Bks.far (h : Bks t w0 w bs) (o : Obj) : Bks t w0 (w.alloc o) bs :=
  ⟨fun i p hp => (h.blk i p hp).alloc _, h.below.alloc h.size _, Nat.le_trans h.size (by simp)⟩
theorem Bks.front (h : Bks t w0 w bs) (n : Nat) : Bks t w0 w (bs.take n) := by
  refine ⟨fun i p hp => h.blk i p ?_, h.below, h.size⟩
  rw [List.getElem?_take] at hp
  split at hp
  · exact hp
  · cases hp
theorem Bks.back (h : Bks t w0 w bs) (n : Nat) : Bks t w0 w (bs.drop n) := by
  refine ⟨fun i p hp => h.blk (n + i) p ?_, h.below, h.size⟩
  rwa [List.getElem?_drop] at hp
/-- The i-th block's two cells, as the walk asks for them. -/
theorem Bks.two (h : Bks t w0 w bs) (i : Nat) {g : Nat} {x y : Value} (hi : bs[i]? = some (g, [x, y])) : w.cell? ⟨g, 0, none⟩ = some x ∧ w.cell? ⟨g, 1, none⟩ = some y ∧ w.frozen? ⟨g, 0, none⟩ = false ∧ w.frozen? ⟨g, 1, none⟩ = false :=
  let b := h.blk i _ hi
  ⟨b.cell 0, b.cell 1, b.frozen 0, b.frozen 1⟩
/-- .. a cell of it. -/
theorem Bks.cell (h : Bks t w0 w bs) (i : Nat) {g : Nat} {cs : List Value} (hi : bs[i]? = some (g, cs)) (j : Nat) : w.cell? ⟨g, j, none⟩ = cs[j]? := (h.blk i _ hi).cell j
theorem Bks.lt (h : Bks t w0 w bs) (i : Nat) {g : Nat} {cs : List Value} (hi : bs[i]? = some (g, cs)) : g < w.heap.size := (h.blk i _ hi).lt
/-- A store into the i-th block (its number differs from the others', and it was made since w0). -/
theorem Bks.set (h : Bks t w0 w bs) (i : Nat) {g : Nat} {cs : List Value} (hi : bs[i]? = some (g, cs)) (hg : w0.heap.size ≤ g) (hne : ∀ (j : Nat) (p : Nat × List Value), bs[j]? = some p → p.1 = g → j = i) (o : Nat) (u : Value) : Bks t w0 (w.setCell ⟨g, o, none⟩ u) (bs.set i (g, cs.set o u)) := by
  refine ⟨fun j p hp => ?_, h.below.setCell hg _, by simpa using h.size⟩
  rw [List.getElem?_set] at hp
  by_cases e : i = j
  · subst e
    rw [if_pos rfl, if_pos (List.getElem?_eq_some_iff.1 hi).1] at hp
    simp only [Option.some.injEq] at hp
    subst hp
    exact (h.blk i _ hi).set o u
  · rw [if_neg e] at hp
    exact (h.blk j p hp).far (fun hh => e (hne j p hp hh).symm) u
end

end Go.Proofs.Ytllppgjddboelaa
