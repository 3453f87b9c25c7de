/-
  Plain words for layer 8: faults (tick, device, address, a write or not, code), what a row of them is as cells. No Go here.
-/
import Derived.Test.YtnlifmeikbgilaaMem
namespace Go.Proofs.Ytnlifmeikbgilaa
open Go.RowKit
set_option linter.unusedVariables false
set_option maxRecDepth 100000

/-- A fault. -/
structure Fl where
  t : Int
  d : Int
  i : Int
  w : Bool
  c : Int
instance : Inhabited Fl := ⟨⟨0, 0, 0, false, 0⟩⟩

/-- A fault's cells. -/
def fl5 (x : Fl) : List Value := [.int .i64 x.t, .int .i64 x.d, .int .i64 x.i, .bool x.w, .int .i64 x.c]
/-- A row's cells. -/
def fls (l : List Fl) : List Value := l.flatMap fl5

theorem fls_nil : fls [] = [] := rfl
theorem fls_cons (x : Fl) (l : List Fl) : fls (x :: l) = .int .i64 x.t :: .int .i64 x.d :: .int .i64 x.i :: .bool x.w :: .int .i64 x.c :: fls l := by simp [fls, fl5]
theorem fls_append (l m : List Fl) : fls (l ++ m) = fls l ++ fls m := by simp [fls, List.flatMap_append]
theorem fls_len (l : List Fl) : (fls l).length = l.length * 5 := by
  induction l with
  | nil => rfl
  | cons x l ih => rw [fls_cons]; simp only [List.length_cons, ih]; omega
theorem fls_get (l : List Fl) : ∀ i (h : i < l.length), (fls l)[i * 5]? = some (.int .i64 l[i].t) ∧ (fls l)[i * 5 + 1]? = some (.int .i64 l[i].d) ∧ (fls l)[i * 5 + 2]? = some (.int .i64 l[i].i) ∧ (fls l)[i * 5 + 3]? = some (.bool l[i].w) ∧ (fls l)[i * 5 + 4]? = some (.int .i64 l[i].c) := by
  induction l with
  | nil => intro i h; simp at h
  | cons x l ih =>
    intro i h
    match i with
    | 0 => rw [fls_cons]; simp
    | i + 1 =>
      have := ih i (by simpa using h)
      rw [fls_cons, show (i + 1) * 5 = i * 5 + 5 by omega]
      simpa using this
/-- A fault behind the last. -/
theorem fls_put (l : List Fl) (z : List Value) (x : Fl) (h : 5 ≤ z.length) : (((((fls l ++ z).set (l.length * 5) (.int .i64 x.t)).set (l.length * 5 + 1) (.int .i64 x.d)).set (l.length * 5 + 2) (.int .i64 x.i)).set (l.length * 5 + 3) (.bool x.w)).set (l.length * 5 + 4) (.int .i64 x.c) = fls (l ++ [x]) ++ z.drop 5 := by
  match z, h with
  | z0 :: z1 :: z2 :: z3 :: z4 :: z, _ =>
    induction l with
    | nil => simp [fls_cons, fls_nil]
    | cons y l ih =>
      simp only [fls_cons, List.length_cons, show (l.length + 1) * 5 = l.length * 5 + 5 by omega, List.cons_append]
      simp [ih]
theorem fls_one (l : List Fl) : ∀ u ∈ fls l, u.oneCell' = true := by
  intro u hu
  obtain ⟨x, _, hx⟩ := List.mem_flatMap.1 hu
  simp only [fl5, List.mem_cons, List.not_mem_nil, or_false] at hx
  rcases hx with rfl | rfl | rfl | rfl | rfl <;> rfl

/-- What a log keeps, what it only counts. -/
def addF (c : Nat) (l : List Fl) (x : Fl) : List Fl := if c ≤ l.length then l else l ++ [x]
def addK (c : Nat) (l : List Fl) (k : Nat) : Nat := if c ≤ l.length then min (k + 1) 65535 else k

end Go.Proofs.Ytnlifmeikbgilaa
