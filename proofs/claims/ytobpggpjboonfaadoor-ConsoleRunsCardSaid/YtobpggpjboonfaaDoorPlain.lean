/-
  Plain words for the proofs of this seat: runs of bytes parted frame by frame, as lists of numbers, and what such a list is as cells. No Go here.
-/
import Derived.WalkKit
import Derived.Lib.Hide
import Derived.Deep.QuietTactic
import Derived.BigQuiet
namespace Go.Proofs.YtobpggpjboonfaaDoor
open Go.RowKit

/-- The pieces of n bytes from a on, frame by frame: frame, offset, length; f: fuel. -/
def pcs : Nat → Nat → Nat → List (Nat × Nat × Nat)
  | 0, _, _ => []
  | f + 1, a, n => if n = 0 then [] else (a / 64, a % 64, min n (64 - a % 64)) :: pcs f (a + min n (64 - a % 64)) (n - min n (64 - a % 64))

theorem pcs_fuel (f : Nat) : ∀ a n, n ≤ f → pcs f a n = pcs n a n := by
  induction f using Nat.strongRecOn with
  | ind f ih =>
    intro a n h
    match f, n with
    | 0, 0 => rfl
    | 0, n + 1 => omega
    | f + 1, 0 => simp [pcs]
    | f + 1, n + 1 =>
      simp only [pcs]
      rw [if_neg (by omega), if_neg (by omega)]
      have e1 := ih f (by omega) (a + min (n + 1) (64 - a % 64)) (n + 1 - min (n + 1) (64 - a % 64)) (by omega)
      rcases Nat.lt_or_ge n (f + 1) with hn | hn
      · have e2 := ih n (by omega) (a + min (n + 1) (64 - a % 64)) (n + 1 - min (n + 1) (64 - a % 64)) (by omega)
        rw [e1, e2]
      · omega

/-- The pieces of n bytes from a on. -/
def spl (a n : Nat) : List (Nat × Nat × Nat) := pcs n a n

theorem spl_zero (a : Nat) : spl a 0 = [] := rfl

theorem spl_step (a n : Nat) (h : 0 < n) : spl a n = (a / 64, a % 64, min n (64 - a % 64)) :: spl (a + min n (64 - a % 64)) (n - min n (64 - a % 64)) := by
  unfold spl
  obtain ⟨n, rfl⟩ : ∃ m, n = m + 1 := ⟨n - 1, by omega⟩
  simp only [pcs]
  rw [if_neg (by omega)]
  rw [pcs_fuel n _ _ (by omega)]

theorem spl_len (n : Nat) : ∀ a, (spl a n).length ≤ n := by
  induction n using Nat.strongRecOn with
  | ind n ih =>
    intro a
    rcases Nat.eq_zero_or_pos n with h | h
    · subst h; simp [spl_zero]
    · rw [spl_step a n h]
      have := ih (n - min n (64 - a % 64)) (by omega) (a + min n (64 - a % 64))
      simp only [List.length_cons]
      omega

/-- A piece's cells. -/
def pv (p : Nat × Nat × Nat) : List Value := [.int .i64 p.1, .int .i64 p.2.1, .int .i64 p.2.2]
/-- The cells of pieces. -/
def flat (l : List (Nat × Nat × Nat)) : List Value := l.flatMap pv

theorem flat_len (l : List (Nat × Nat × Nat)) : (flat l).length = l.length * 3 := by
  induction l with
  | nil => rfl
  | cons p l ih => simp only [flat, List.flatMap_cons, List.length_append, List.length_cons] at ih ⊢; rw [ih]; simp [pv]; omega

theorem flat_append (l m : List (Nat × Nat × Nat)) : flat (l ++ m) = flat l ++ flat m := by simp [flat, List.flatMap_append]

theorem flat_one (p : Nat × Nat × Nat) : flat [p] = pv p := by simp [flat]

/-- The k-th cell of the i-th piece. -/
theorem flat_get (l : List (Nat × Nat × Nat)) : ∀ i (h : i < l.length), (flat l)[i * 3]? = some (.int .i64 l[i].1) ∧ (flat l)[i * 3 + 1]? = some (.int .i64 l[i].2.1) ∧ (flat l)[i * 3 + 2]? = some (.int .i64 l[i].2.2) := by
  induction l with
  | nil => intro i h; simp at h
  | cons p l ih =>
    intro i h
    have e : flat (p :: l) = pv p ++ flat l := by simp [flat]
    match i with
    | 0 => rw [e]; simp [pv]
    | i + 1 =>
      have := ih i (by simpa using h)
      have hp : (pv p).length = 3 := rfl
      rw [e, List.getElem?_append_right (by omega), List.getElem?_append_right (by omega), List.getElem?_append_right (by omega), hp]
      rw [show (i + 1) * 3 - 3 = i * 3 from by omega, show (i + 1) * 3 + 1 - 3 = i * 3 + 1 from by omega, show (i + 1) * 3 + 2 - 3 = i * 3 + 2 from by omega]
      simpa using this

/-- What is owned stays owned where nothing that was there has turned. -/
theorem own_below {w w' : World} {base : Nat} {e : TypeId} {size : Nat} {v : Value} {n : Nat} {xs : List Value} (h : w.ownsRow base e size v n xs) (hb : Below w.heap.size w w') : w'.ownsRow base e size v n xs :=
  h.kept (row := none) ⟨hb.os, hb.tape, hb.output, hb.size, fun k hk _ => hb.block k hk⟩ (by cases hv : v.ownBlock <;> simp)

theorem add_none (b o j : Nat) : (⟨b, o, none⟩ : Addr).add j = ⟨b, o + j, none⟩ := by unfold Addr.add; split <;> simp_all

/-- The cells of a new block. -/
theorem row_new (w : World) (cs : List Value) (t : TypeId) : ∀ j u, cs[j]? = some u → (w.alloc (.cells cs.toArray t)).cell? ((⟨w.heap.size, 0, none⟩ : Addr).add j) = some u := by
  intro j u hj
  rw [add_none, cell_of_row (w.alloc (.cells cs.toArray t)) w.heap.size (0 + j) cs.toArray t (0, 0) (heap_alloc_new w _)]
  simpa using hj

/-- A piece's three cells in a new block. -/
theorem pv_new (w : World) (x y z : Value) (t : TypeId) : ∀ j u, [x, y, z][j]? = some u → (w.alloc (.cells #[x, y, z] t)).cell? ((⟨w.heap.size, 0, none⟩ : Addr).add j) = some u :=
  row_new w [x, y, z] t

theorem pv_new2 (w : World) (o : Obj) (x y z : Value) (t : TypeId) : ∀ j u, [x, y, z][j]? = some u → ((w.alloc o).alloc (.cells #[x, y, z] t)).cell? ((⟨w.heap.size + 1, 0, none⟩ : Addr).add j) = some u := by
  intro j u hj
  have h := row_new (w.alloc o) [x, y, z] t j u hj
  have e : (w.alloc o).heap.size = w.heap.size + 1 := by simp
  rw [e] at h
  exact h

theorem pv_one (x y z : Int) : ∀ u ∈ [Value.int .i64 x, .int .i64 y, .int .i64 z], u.oneCell' = true := by
  intro u hu
  simp only [List.mem_cons, List.not_mem_nil, or_false] at hu
  rcases hu with rfl | rfl | rfl <;> rfl

theorem spl_next (b m k : Nat) (ds L : List (Nat × Nat × Nat)) (hm : 0 < m) (hk : k = min m (64 - b % 64)) (h : ds ++ spl b m = L) : (ds ++ [(b / 64, b % 64, k)]) ++ spl (b + k) (m - k) = L := by
  rw [← h, spl_step b m hm, ← hk]; simp

/-- A row that came out of a call's own memory, of which w1's blocks kept all; then two new blocks and an append: the first of the two blocks still stands. -/
theorem kept_first {w w1 w2 : World} {v : Value} {base n : Nat} {e : TypeId} {size : Nat} {xs : List Value} (o o' : Obj) (h : w.ownsRow base e size v n xs) (hs : w.heap.size ≤ w1.heap.size)
    (hg : ((w1.alloc o).alloc o').grownBy w2 v.ownBlock) : w2.heap[w1.heap.size]? = some o := by
  rw [hg.block w1.heap.size (by simp; omega) (fun e => by have := h.lt _ e.symm; omega)]
  rw [Below.heap_alloc _ _ _ (by simp)]
  exact heap_alloc_new w1 o

theorem below_two {B : Nat} {w0 w w1 w2 : World} {v : Value} {n : Nat} {e : TypeId} {size : Nat} {xs : List Value} (o o' : Obj) (h : w.ownsRow B e size v n xs) (hB : B ≤ w.heap.size) (hb0 : Below B w0 w) (hb : Below w.heap.size w w1)
    (hg : ((w1.alloc o).alloc o').grownBy w2 v.ownBlock) : Below B w0 w2 := by
  have hs := hb.size
  exact ((((hb0.trans (hb.mono hB)).alloc (by omega) o).alloc (by simp; omega) o').grown hg (by simp; omega) (fun k hk => (h.lt k hk).1))

theorem own_drewN {w : World} {base : Nat} {e : TypeId} {size : Nat} {v : Value} {n : Nat} {xs : List Value} (h : w.ownsRow base e size v n xs) (k : Nat) : (w.drewN k).ownsRow base e size v n xs := h

theorem bdrewN {B : Nat} {a w : World} (h : Below B a w) (n : Nat) : Below B a (w.drewN n) := ⟨h.os, h.tape, h.output, h.size, h.block⟩

theorem below_one {B : Nat} {w0 w w2 : World} {v : Value} {n : Nat} {e : TypeId} {size : Nat} {xs : List Value} (o : Obj) (h : w.ownsRow B e size v n xs) (hB : B ≤ w.heap.size) (hb0 : Below B w0 w)
    (hg : (w.alloc o).grownBy w2 v.ownBlock) : Below B w0 w2 :=
  (hb0.alloc hB o).grown hg (by simp; omega) (fun k hk => (h.lt k hk).1)

theorem grefl (w : World) (row : Option Nat) : w.grownBy w row := ⟨rfl, rfl, rfl, Nat.le_refl _, fun _ _ _ => rfl⟩
theorem gtrans {a b c : World} {row : Option Nat} (h : a.grownBy b row) (k : b.grownBy c row) : a.grownBy c row :=
  ⟨k.os.trans h.os, k.tape.trans h.tape, k.output.trans h.output, Nat.le_trans h.size k.size, fun i hi hn => (k.block i (Nat.lt_of_lt_of_le hi h.size) hn).trans (h.block i hi hn)⟩
theorem gbelow {B : Nat} {w0 w w' : World} {row : Option Nat} (h : Below B w0 w) (hg : w.grownBy w' row) (hB : B ≤ w.heap.size) (hr : ∀ k, row = some k → B ≤ k) : Below B w0 w' := h.grown hg hB hr
theorem Below.down {B : Nat} {a b c : World} (h : Below B a b) (k : Below b.heap.size b c) (hB : B ≤ b.heap.size) : Below B a c := h.trans (k.mono hB)

theorem wfb {a : Int} (h : (Lit.int .i64 a).wf = true) : -9223372036854775808 ≤ a ∧ a ≤ 9223372036854775807 := by
  simp only [Lit.wf, Bool.and_eq_true, decide_eq_true_eq] at h
  exact h

end Go.Proofs.YtobpggpjboonfaaDoor
