/-
  Plain words for layer 11: entries of vectors (is there one, where it leads, masked), a row of them as cells; what the calls answer and leave. No Go function here.
-/
import Derived.Test.YtocjkanhciohmaaMem
namespace Go.Proofs.Ytocjkanhciohmaa
open Go.RowKit
set_option linter.unusedVariables false
set_option maxRecDepth 100000

/-- An entry. -/
structure Ro where
  is : Bool
  p : Int
  m : Bool
/-- None. -/
def ro0 : Ro := ⟨false, 0, false⟩
instance : Inhabited Ro := ⟨ro0⟩
/-- An entry's cells. -/
def ro3 (x : Ro) : List Value := [.bool x.is, .int .i64 x.p, .bool x.m]
/-- A row's cells. -/
def ros (l : List Ro) : List Value := l.flatMap ro3

theorem ros_nil : ros [] = [] := rfl
theorem ros_cons (x : Ro) (l : List Ro) : ros (x :: l) = .bool x.is :: .int .i64 x.p :: .bool x.m :: ros l := by simp [ros, ro3]
theorem ros_append (l m : List Ro) : ros (l ++ m) = ros l ++ ros m := by simp [ros, List.flatMap_append]
theorem ros_len (l : List Ro) : (ros l).length = l.length * 3 := by
  induction l with
  | nil => rfl
  | cons x l ih => rw [ros_cons]; simp only [List.length_cons, ih]; omega
theorem ros_get (l : List Ro) : ∀ i, i < l.length → (ros l)[i * 3]? = some (.bool (l.getD i ro0).is) ∧ (ros l)[i * 3 + 1]? = some (.int .i64 (l.getD i ro0).p) ∧ (ros l)[i * 3 + 2]? = some (.bool (l.getD i ro0).m) := by
  induction l with
  | nil => intro i h; simp at h
  | cons x l ih =>
    intro i h
    match i with
    | 0 => rw [ros_cons]; simp
    | i + 1 =>
      have := ih i (by simpa using h)
      rw [ros_cons, show (i + 1) * 3 = i * 3 + 3 by omega]
      simpa using this
/-- An entry written. -/
theorem ros_set (x : Ro) (l : List Ro) : ∀ i, i < l.length → (((ros l).set (i * 3) (.bool x.is)).set (i * 3 + 1) (.int .i64 x.p)).set (i * 3 + 2) (.bool x.m) = ros (l.set i x) := by
  induction l with
  | nil => intro i h; simp at h
  | cons y l ih =>
    intro i h
    match i with
    | 0 => simp [ros_cons]
    | i + 1 =>
      have := ih i (by simpa using h)
      rw [show (i + 1) * 3 = i * 3 + 1 + 1 + 1 by omega]
      simp only [ros_cons, List.set_cons_succ]
      rw [this]
/-- An entry masked. -/
theorem ros_mask (m : Bool) (l : List Ro) : ∀ i, i < l.length → (ros l).set (i * 3 + 2) (.bool m) = ros (l.set i { l.getD i ro0 with m := m }) := by
  induction l with
  | nil => intro i h; simp at h
  | cons y l ih =>
    intro i h
    match i with
    | 0 => simp [ros_cons]
    | i + 1 =>
      have := ih i (by simpa using h)
      rw [show (i + 1) * 3 + 2 = i * 3 + 2 + 1 + 1 + 1 by omega]
      simp only [ros_cons, List.set_cons_succ, List.getD_cons_succ]
      rw [this]
theorem ros_one (l : List Ro) : ∀ u ∈ ros l, u.oneCell' = true := by
  intro u hu
  obtain ⟨x, _, hx⟩ := List.mem_flatMap.1 hu
  simp only [ro3, List.mem_cons, List.not_mem_nil, or_false] at hx
  rcases hx with rfl | rfl | rfl <;> rfl
theorem ros_take (l : List Ro) (k : Nat) : ros (l.take k) = (ros l).take (k * 3) := by
  induction l generalizing k with
  | nil => simp [ros_nil]
  | cons x l ih =>
    match k with
    | 0 => simp [ros_nil]
    | k + 1 => rw [List.take_succ_cons, ros_cons, ros_cons, show (k + 1) * 3 = k * 3 + 1 + 1 + 1 by omega, List.take_succ_cons, List.take_succ_cons, List.take_succ_cons, ih]
theorem ros_drop (l : List Ro) (k : Nat) : ros (l.drop k) = (ros l).drop (k * 3) := by
  induction l generalizing k with
  | nil => simp [ros_nil]
  | cons x l ih =>
    match k with
    | 0 => simp
    | k + 1 => rw [List.drop_succ_cons, ros_cons, show (k + 1) * 3 = k * 3 + 1 + 1 + 1 by omega, List.drop_succ_cons, List.drop_succ_cons, List.drop_succ_cons, ih]

/-- A device's eight entries are none. -/
def roZ : List Ro := List.replicate 8 ro0
/-- A row where device k's entries are none. -/
def clrT (T : List Ro) (k : Nat) : List Ro := T.take (k * 8) ++ roZ ++ T.drop (k * 8 + 8)
theorem clrT_len (T : List Ro) (k : Nat) (h : k * 8 + 8 ≤ T.length) : (clrT T k).length = T.length := by simp [clrT, roZ]; omega
theorem clrT_get (T : List Ro) (k i : Nat) (h : k * 8 + 8 ≤ T.length) : (clrT T k).getD i ro0 = if k * 8 ≤ i ∧ i < k * 8 + 8 then ro0 else T.getD i ro0 := by
  unfold clrT
  have hl : (T.take (k * 8)).length = k * 8 := by simp; omega
  by_cases h1 : i < k * 8
  · rw [if_neg (by omega), List.append_assoc]
    simp only [List.getD_eq_getElem?_getD]
    rw [List.getElem?_append_left (by omega), List.getElem?_take_of_lt h1]
  · by_cases h2 : i < k * 8 + 8
    · rw [if_pos (by omega), List.append_assoc]
      simp only [List.getD_eq_getElem?_getD]
      rw [List.getElem?_append_right (by omega), List.getElem?_append_left (by simp [roZ]; omega), hl]
      simp only [roZ, List.getElem?_replicate]
      split <;> rfl
    · rw [if_neg (by omega)]
      simp only [List.getD_eq_getElem?_getD]
      rw [List.getElem?_append_right (by simp [roZ]; omega), List.getElem?_drop]
      congr 2
      simp [roZ]; omega

/-- Are device and vector? D: how many devices. -/
def inR (D : Nat) (d v : Int) : Bool := decide (0 ≤ d ∧ d < D ∧ 0 ≤ v ∧ v < 8)
/-- The place of a device's vector. -/
def ixR (d v : Int) : Nat := d.toNat * 8 + v.toNat
/-- What stands there. -/
def atR (T : List Ro) (d v : Int) : Ro := T.getD (ixR d v) ro0
/-- May a vector be set? -/
def rsB (D : Nat) (d v p : Int) : Bool := inR D d v && decide (0 ≤ p ∧ p < 4)
def rsC (D : Nat) (d v p : Int) : Int := if rsB D d v p then 0 else 1100
def rsT (D : Nat) (T : List Ro) (d v p : Int) : List Ro := if rsB D d v p then T.set (ixR d v) ⟨true, p, false⟩ else T
/-- Is there an entry? The error. -/
def reC (D : Nat) (T : List Ro) (d v : Int) : Int := if inR D d v then (if (atR T d v).is then 0 else 1101) else 1100
def ruT (D : Nat) (T : List Ro) (d v : Int) : List Ro := if reC D T d v = 0 then T.set (ixR d v) ro0 else T
def rmT (D : Nat) (T : List Ro) (d v : Int) (m : Bool) : List Ro := if reC D T d v = 0 then T.set (ixR d v) { atR T d v with m := m } else T
def rlP (D : Nat) (T : List Ro) (d v : Int) : Int := if reC D T d v = 0 then (atR T d v).p else 0
def rlM (D : Nat) (T : List Ro) (d v : Int) : Bool := if reC D T d v = 0 then (atR T d v).m else false
def rcB (D : Nat) (d : Int) : Bool := decide (0 ≤ d ∧ d < D)
def rcC (D : Nat) (d : Int) : Int := if rcB D d then 0 else 1100
def rcT (D : Nat) (T : List Ro) (d : Int) : List Ro := if rcB D d then clrT T d.toNat else T
/-- A new table. -/
def newT : List Ro := List.replicate 32 ro0

theorem reC_cases (D : Nat) (T : List Ro) (d v : Int) : (inR D d v = false ∧ reC D T d v = 1100) ∨ (inR D d v = true ∧ (atR T d v).is = false ∧ reC D T d v = 1101) ∨ (inR D d v = true ∧ (atR T d v).is = true ∧ reC D T d v = 0) := by
  unfold reC
  cases h : inR D d v with
  | false => exact .inl ⟨rfl, by simp⟩
  | true =>
    cases h2 : (atR T d v).is with
    | false => exact .inr (.inl ⟨rfl, rfl, by simp⟩)
    | true => exact .inr (.inr ⟨rfl, rfl, by simp⟩)
theorem inR_iff (D : Nat) (d v : Int) : inR D d v = true ↔ ∃ i j : Nat, d = i ∧ v = j ∧ i < D ∧ j < 8 := by
  unfold inR
  rw [decide_eq_true_eq]
  constructor
  · rintro ⟨h1, h2, h3, h4⟩
    exact ⟨d.toNat, v.toNat, by omega, by omega, by omega, by omega⟩
  · rintro ⟨i, j, rfl, rfl, h1, h2⟩; omega
theorem rsT_len (D : Nat) (T : List Ro) (d v p : Int) : (rsT D T d v p).length = T.length := by unfold rsT; split <;> simp
theorem ruT_len (D : Nat) (T : List Ro) (d v : Int) : (ruT D T d v).length = T.length := by unfold ruT; split <;> simp
theorem rmT_len (D : Nat) (T : List Ro) (d v : Int) (m : Bool) : (rmT D T d v m).length = T.length := by unfold rmT; split <;> simp
theorem rcT_len (D : Nat) (T : List Ro) (d : Int) (h : D * 8 ≤ T.length) : (rcT D T d).length = T.length := by
  unfold rcT
  split
  · rename_i h1
    simp only [rcB, decide_eq_true_eq] at h1
    exact clrT_len T _ (by omega)
  · rfl
theorem newT_len : newT.length = 32 := by simp [newT]
theorem newT_at (d v : Int) : atR newT d v = ro0 := by
  unfold atR newT
  simp only [List.getD_eq_getElem?_getD, List.getElem?_replicate]
  split <;> rfl

end Go.Proofs.Ytocjkanhciohmaa
