/-
  What a call leaves, told by the blocks that may have turned. No Go here.
-/
import Derived.Test.YtobpggpjboonfaaDoorMem
namespace Go.Proofs.YtobpggpjboonfaaDoor
open Go.RowKit
set_option linter.unusedVariables false
set_option maxRecDepth 100000

/-- Nothing has turned but blocks of S, and what is new. -/
structure Fo (S : Nat → Prop) (w w' : World) : Prop where
  os : w'.os = w.os
  tape : w'.tape = w.tape
  output : w'.output = w.output
  size : w.heap.size ≤ w'.heap.size
  block : ∀ k, k < w.heap.size → ¬ S k → w'.heap[k]? = w.heap[k]?

section
variable {S : Nat → Prop} {a b c : World}
theorem Fo.refl (S : Nat → Prop) (w : World) : Fo S w w := ⟨rfl, rfl, rfl, Nat.le_refl _, fun _ _ _ => rfl⟩
theorem Fo.of (h : Below a.heap.size a b) (S : Nat → Prop) : Fo S a b := ⟨h.os, h.tape, h.output, h.size, fun i hi _ => h.block i hi⟩
theorem Fo.trans (h : Fo S a b) (k : Fo S b c) : Fo S a c :=
  ⟨k.os.trans h.os, k.tape.trans h.tape, k.output.trans h.output, Nat.le_trans h.size k.size, fun i hi hn => (k.block i (Nat.lt_of_lt_of_le hi h.size) hn).trans (h.block i hi hn)⟩
/-- .. where the second may also turn what is new since a. -/
theorem Fo.trans_new {S' : Nat → Prop} (h : Fo S a b) (k : Fo S' b c) (hS : ∀ i, S' i → S i ∨ a.heap.size ≤ i) : Fo S a c :=
  ⟨k.os.trans h.os, k.tape.trans h.tape, k.output.trans h.output, Nat.le_trans h.size k.size, fun i hi hn => (k.block i (Nat.lt_of_lt_of_le hi h.size) (fun e => by rcases hS i e with e | e; exact hn e; omega)).trans (h.block i hi hn)⟩
theorem Fo.grown {row : Option Nat} (h : Fo S a b) (k : b.grownBy c row) (hr : ∀ g, row = some g → S g ∨ a.heap.size ≤ g) : Fo S a c :=
  ⟨k.os.trans h.os, k.tape.trans h.tape, k.output.trans h.output, Nat.le_trans h.size k.size, fun i hi hn => (k.block i (Nat.lt_of_lt_of_le hi h.size) (fun e => by rcases hr i e.symm with e | e; exact hn e; omega)).trans (h.block i hi hn)⟩
theorem Fo.set (h : Fo S a b) {p : Addr} (hp : S p.block ∨ a.heap.size ≤ p.block) (u : Value) : Fo S a (b.setCell p u) :=
  h.grown (gset (grefl b (some p.block)) (.inl rfl) u) (fun g hg => by injection hg with hg; subst hg; exact hp)
theorem Fo.alloc (h : Fo S a b) (o : Obj) : Fo S a (b.alloc o) := h.grown (World.grownBy_alloc b o none) (fun g hg => by cases hg)
theorem Fo.drewN (h : Fo S a b) (n : Nat) : Fo S a (b.drewN n) := ⟨h.os, h.tape, h.output, h.size, h.block⟩
theorem Fo.mono {S' : Nat → Prop} (h : Fo S a b) (hS : ∀ i, i < a.heap.size → S i → S' i) : Fo S' a b := ⟨h.os, h.tape, h.output, h.size, fun i hi hn => h.block i hi (fun e => hn (hS i hi e))⟩
theorem Fo.below {B : Nat} {z : World} (h : Fo S b c) (hb : Below B z b) (hB : B ≤ b.heap.size) (hS : ∀ i, S i → B ≤ i) : Below B z c :=
  ⟨h.os.trans hb.os, h.tape.trans hb.tape, h.output.trans hb.output, Nat.le_trans hb.size h.size, fun k hk => (h.block k (by omega) (fun e => by have := hS k e; omega)).trans (hb.block k hk)⟩
theorem Fo.blk {i : Nat} {T : TypeId} {cs : List Value} (h : Fo S a b) (hg : Blk a i T cs) (hn : ¬ S i) : Blk b i T cs := (h.block i hg.lt hn).trans hg
end

end Go.Proofs.YtobpggpjboonfaaDoor
