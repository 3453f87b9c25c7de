/-
  Plain words of layer 2: a table of owners as a list; where an owner stands in it; a table in memory. No Go function here.
-/
import Derived.Test.YtamhnnkmjhapmaaMem
import Derived.Test.YtamhnnkmjhapmaaChecked
namespace Go.Proofs.Ytamhnnkmjhapmaa
open Go.RowKit
set_option linter.unusedVariables false
set_option maxRecDepth 100000

/-- The places below k at which p stands. -/
def ownTo (l : List Int) (p : Int) : Nat → List Int
  | 0 => []
  | k + 1 => if l.getD k 0 = p then ownTo l p k ++ [(k : Int)] else ownTo l p k
theorem ownTo_yes (l : List Int) (p : Int) (k : Nat) (h : l.getD k 0 = p) : ownTo l p (k + 1) = ownTo l p k ++ [(k : Int)] := by show (if _ then _ else _) = _; rw [if_pos h]
theorem ownTo_no (l : List Int) (p : Int) (k : Nat) (h : l.getD k 0 ≠ p) : ownTo l p (k + 1) = ownTo l p k := by show (if _ then _ else _) = _; rw [if_neg h]
theorem ownTo_len (l : List Int) (p : Int) (k : Nat) : (ownTo l p k).length ≤ k := by
  induction k with
  | zero => simp [ownTo]
  | succ k ih => show (if _ then _ else _ : List Int).length ≤ _; split <;> first | (simp; omega) | omega
/-- An owner's places. -/
def ownL (l : List Int) (p : Int) : List Int := ownTo l p l.length
theorem ownL_len (l : List Int) (p : Int) : (ownL l p).length ≤ l.length := ownTo_len l p _

/-- How many places the owners from a below b have. -/
def manyTo (l : List Int) (a : Int) : Nat → Nat
  | 0 => 0
  | n + 1 => manyTo l a n + (ownL l (a + n)).length

/-- Each place of a table has one owner. -/
theorem many_one (l : List Int) (a : Int) : ∀ (n k : Nat), k ≤ l.length → (∀ j, j < k → a ≤ l.getD j 0 ∧ l.getD j 0 < a + n) → ((List.range n).map fun (i : Nat) => (ownTo l (a + i) k).length).sum = k := by
  intro n k
  induction k with
  | zero =>
    intro _ _
    have : ((List.range n).map fun (i : Nat) => (ownTo l (a + i) 0).length) = (List.range n).map fun (_ : Nat) => 0 := rfl
    rw [this]
    clear this
    induction n with
    | zero => rfl
    | succ n ih => rw [List.range_succ, List.map_append, List.sum_append, ih (fun j hj => absurd hj (by omega))]; rfl
  | succ k ih =>
    intro hk hr
    have h0 := ih (by omega) (fun j hj => hr j (by omega))
    obtain ⟨h1, h2⟩ := hr k (by omega)
    generalize hx : l.getD k 0 = x at h1 h2
    have key : ∀ m : Nat, ((List.range m).map fun (i : Nat) => (ownTo l (a + i) (k + 1)).length).sum = ((List.range m).map fun (i : Nat) => (ownTo l (a + i) k).length).sum + if x < a + m ∧ a ≤ x then 1 else 0 := by
      intro m
      induction m with
      | zero => simp
      | succ m im =>
        rw [List.range_succ, List.map_append, List.map_append, List.sum_append, List.sum_append, im]
        simp only [List.map_cons, List.map_nil, List.sum_cons, List.sum_nil, Nat.add_zero]
        by_cases hm : l.getD k 0 = a + m
        · rw [ownTo_yes l _ k hm]
          rw [hx] at hm
          rw [if_neg (by omega), if_pos (by omega)]
          simp only [List.length_append, List.length_cons, List.length_nil]
          omega
        · rw [ownTo_no l _ k hm]
          rw [hx] at hm
          by_cases hc : x < a + m ∧ a ≤ x
          · rw [if_pos hc, if_pos (by omega)]; omega
          · rw [if_neg hc, if_neg (by omega)]; omega
    rw [key n, h0, if_pos ⟨h2, h1⟩]

theorem many_sum (l : List Int) (a : Int) (n : Nat) : manyTo l a n = ((List.range n).map fun (i : Nat) => (ownL l (a + i)).length).sum := by
  induction n with
  | zero => rfl
  | succ n ih => rw [List.range_succ, List.map_append, List.sum_append, ← ih]; simp [manyTo]

theorem many_all (l : List Int) (h : ∀ x ∈ l, -2 ≤ x ∧ x ≤ 3) : manyTo l (-2) 6 = l.length := by
  rw [many_sum]
  refine many_one l (-2) 6 l.length (Nat.le_refl _) fun j hj => ?_
  have := getD_range l (-2) 3 h j hj
  omega
theorem many_le (l : List Int) (a : Int) (n : Nat) : manyTo l a n ≤ n * l.length := by
  induction n with
  | zero => simp [manyTo]
  | succ n ih =>
    have := ownL_len l (a + n)
    simp only [manyTo]
    rw [Nat.succ_mul]
    omega

/-- May a frame be set? -/
def setB (c : Nat) (f o : Int) : Bool := decide (0 ≤ f ∧ f < c ∧ -2 ≤ o ∧ o ≤ 3)
def setL (l : List Int) (f o : Int) : List Int := if setB l.length f o then l.set f.toNat o else l
def setC (c : Nat) (f o : Int) : Int := if setB c f o then 0 else 200
theorem setL_len (l : List Int) (f o : Int) : (setL l f o).length = l.length := by unfold setL; split <;> simp
theorem setL_range (l : List Int) (f o : Int) (h : ∀ x ∈ l, -2 ≤ x ∧ x ≤ 3) : ∀ x ∈ setL l f o, -2 ≤ x ∧ x ≤ 3 := by
  intro x hx
  unfold setL at hx
  split at hx
  · rename_i hs
    simp only [setB, decide_eq_true_eq] at hs
    rcases List.mem_or_eq_of_mem_set hx with hx | rfl
    · exact h x hx
    · omega
  · exact h x hx
def ofB (c : Nat) (f : Int) : Bool := decide (0 ≤ f ∧ f < c)
def ofN (l : List Int) (f : Int) : Int := if ofB l.length f then l.getD f.toNat 0 else 0
def ofC (c : Nat) (f : Int) : Int := if ofB c f then 0 else 200
theorem setC_ne (c : Nat) (f o : Int) : setC c f o = 0 ∨ setC c f o = 200 := by unfold setC; split <;> simp

/-- frames' table of count frames: at block g. -/
def Tab (w : World) (g : Nat) (l : List Int) : Prop :=
  l.length ≤ 64 ∧ ∃ rest : List Value, rest.length = 64 - l.length ∧ Blk w g 107 (.int .i64 l.length :: (ints l ++ rest))

section
variable {w w' : World} {g : Nat} {l : List Int}
theorem Tab.lt (h : Tab w g l) : g < w.heap.size := by obtain ⟨_, _, _, h⟩ := h; exact h.lt
theorem Tab.count (h : Tab w g l) : w.cell? ⟨g, 0, none⟩ = some (.int .i64 l.length) := by obtain ⟨_, _, _, h⟩ := h; rw [h.cell]; rfl
theorem Tab.at_ (h : Tab w g l) {k : Nat} (hk : k < l.length) : w.cell? ⟨g, 1 + k, none⟩ = some (.int .i64 (l.getD k 0)) := by
  obtain ⟨_, _, _, h⟩ := h
  rw [h.cell, Nat.add_comm, List.getElem?_cons_succ, List.getElem?_append_left (by rw [ints_len]; exact hk), ints_get l k hk]
theorem Tab.frozen (h : Tab w g l) (i : Nat) : w.frozen? ⟨g, i, none⟩ = false := by obtain ⟨_, _, _, h⟩ := h; exact h.frozen i
theorem Tab.set (h : Tab w g l) {k : Nat} (hk : k < l.length) (x : Int) : Tab (w.setCell ⟨g, 1 + k, none⟩ (.int .i64 x)) g (l.set k x) := by
  obtain ⟨hl, rest, hr, h⟩ := h
  refine ⟨by simpa using hl, rest, by simpa using hr, ?_⟩
  have := h.set (1 + k) (.int .i64 x)
  rw [Nat.add_comm 1 k, List.set_cons_succ, List.set_append_left _ _ (by rw [ints_len]; exact hk), ints_set] at this
  rw [Nat.add_comm 1 k]
  simpa using this
theorem Tab.drewN (h : Tab w g l) (n : Nat) : Tab (w.drewN n) g l := h
theorem Tab.below {B : Nat} (h : Tab w g l) (hb : Below B w w') (hg : g < B) : Tab w' g l := by obtain ⟨hl, r, hr, h⟩ := h; exact ⟨hl, r, hr, h.below hb hg⟩
theorem Tab.grown {row : Option Nat} (h : Tab w g l) (hb : w.grownBy w' row) (hg : some g ≠ row) : Tab w' g l := by obtain ⟨hl, r, hr, h⟩ := h; exact ⟨hl, r, hr, h.grown hb hg⟩
end
end Go.Proofs.Ytamhnnkmjhapmaa
