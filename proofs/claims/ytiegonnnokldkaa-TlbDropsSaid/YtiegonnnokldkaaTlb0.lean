/-
  Plain words for layer 6: lines of a cache (device, page, frame, rights), what a row of them is as cells, what calls make of it. No Go here.
-/
import Derived.Test.YtiegonnnokldkaaMem
namespace Go.Proofs.Ytiegonnnokldkaa
open Go.RowKit
set_option linter.unusedVariables false

/-- A line: an entry of a device's page. -/
structure Ln where
  d : Int
  p : Int
  f : Int
  m : Int
instance : Inhabited Ln := ⟨⟨0, 0, 0, 0⟩⟩

/-- A line's numbers. -/
def ln4 (x : Ln) : List Int := [x.d, x.p, x.f, x.m]
/-- A row's numbers. -/
def lns (l : List Ln) : List Int := l.flatMap ln4

theorem lns_nil : lns [] = [] := rfl
theorem lns_cons (x : Ln) (l : List Ln) : lns (x :: l) = x.d :: x.p :: x.f :: x.m :: lns l := by simp [lns, ln4]
theorem lns_append (l m : List Ln) : lns (l ++ m) = lns l ++ lns m := by simp [lns, List.flatMap_append]
theorem lns_len (l : List Ln) : (lns l).length = l.length * 4 := by
  induction l with
  | nil => rfl
  | cons x l ih => rw [lns_cons]; simp only [List.length_cons, ih]; omega
theorem lns_get (l : List Ln) : ∀ i (h : i < l.length), (lns l)[i * 4]? = some l[i].d ∧ (lns l)[i * 4 + 1]? = some l[i].p ∧ (lns l)[i * 4 + 2]? = some l[i].f ∧ (lns l)[i * 4 + 3]? = some l[i].m := by
  induction l with
  | nil => intro i h; simp at h
  | cons x l ih =>
    intro i h
    match i with
    | 0 => rw [lns_cons]; simp
    | i + 1 =>
      have := ih i (by simpa using h)
      rw [lns_cons, show (i + 1) * 4 = i * 4 + 4 by omega]
      simpa using this
/-- A line's four numbers written into its place. -/
theorem lns_set (l : List Ln) (z : List Int) : ∀ i (h : i < l.length) (x : Ln), ((((lns l ++ z).set (i * 4) x.d).set (i * 4 + 1) x.p).set (i * 4 + 2) x.f).set (i * 4 + 3) x.m = lns (l.set i x) ++ z := by
  induction l with
  | nil => intro i h; simp at h
  | cons y l ih =>
    intro i h x
    match i with
    | 0 => rw [lns_cons]; simp [lns_cons]
    | i + 1 =>
      have := ih i (by simpa using h) x
      rw [lns_cons, show (i + 1) * 4 = i * 4 + 4 by omega]
      simp [lns_cons, this]
/-- .. the two of its entry. -/
theorem lns_set2 (l : List Ln) (z : List Int) : ∀ i (h : i < l.length) (f m : Int), ((lns l ++ z).set (i * 4 + 2) f).set (i * 4 + 3) m = lns (l.set i ⟨l[i].d, l[i].p, f, m⟩) ++ z := by
  induction l with
  | nil => intro i h; simp at h
  | cons y l ih =>
    intro i h f m
    match i with
    | 0 => rw [lns_cons]; simp [lns_cons]
    | i + 1 =>
      have := ih i (by simpa using h) f m
      rw [lns_cons, show (i + 1) * 4 = i * 4 + 4 by omega]
      simp [lns_cons, this]
/-- .. a line behind the last. -/
theorem lns_put (l : List Ln) (z : List Int) (x : Ln) (h : 4 ≤ z.length) : ((((lns l ++ z).set (l.length * 4) x.d).set (l.length * 4 + 1) x.p).set (l.length * 4 + 2) x.f).set (l.length * 4 + 3) x.m = lns (l ++ [x]) ++ z.drop 4 := by
  match z, h with
  | z0 :: z1 :: z2 :: z3 :: z, _ =>
    induction l with
    | nil => simp [lns_cons, lns_nil]
    | cons y l ih =>
      simp only [lns_cons, List.length_cons, show (l.length + 1) * 4 = l.length * 4 + 4 by omega, List.cons_append]
      simp [ih]

/-- Is it the line of a device's page? -/
def isK (d p : Int) (x : Ln) : Bool := x.d == d && x.p == p
/-- .. a line of a device? -/
def isD (d : Int) (x : Ln) : Bool := x.d == d

/-- Where the first one stands that is so; -1: there is none. -/
def idx (f : Ln → Bool) (l : List Ln) : Int := if l.findIdx f < l.length then (l.findIdx f : Int) else -1

theorem idx_found (f : Ln → Bool) (l : List Ln) (k : Nat) (hk : k < l.length) (h : f l[k] = true) (hb : ∀ j (hj : j < k), f l[j] = false) : idx f l = k := by
  have : l.findIdx f = k := by
    rw [List.findIdx_eq hk]
    exact ⟨h, fun j hj => hb j hj⟩
  simp [idx, this, hk]
theorem idx_none (f : Ln → Bool) (l : List Ln) (hb : ∀ j (hj : j < l.length), f l[j] = false) : idx f l = -1 := by
  have : l.findIdx f = l.length := by
    rw [List.findIdx_eq_length]
    intro x hx
    obtain ⟨j, hj, rfl⟩ := List.getElem_of_mem hx
    exact hb j hj
  simp [idx, this]
/-- The two ways of it. -/
theorem idx_cases (f : Ln → Bool) (l : List Ln) : (idx f l = -1 ∧ ∀ x ∈ l, f x = false) ∨ ∃ (k : Nat) (hk : k < l.length), idx f l = (k : Int) ∧ f l[k] = true ∧ ∀ j (hj : j < k), f (l[j]'(by omega)) = false := by
  by_cases h : l.findIdx f < l.length
  · right
    refine ⟨l.findIdx f, h, by simp [idx, h], List.findIdx_getElem (w := h), fun j hj => ?_⟩
    have := List.not_of_lt_findIdx hj
    simpa using this
  · left
    refine ⟨by simp [idx, h], ?_⟩
    have e : l.findIdx f = l.length := by have := List.findIdx_le_length (xs := l) (p := f); omega
    intro x hx
    have := List.findIdx_eq_length.1 e x hx
    simpa using this

/-- What is answered for a device's page. -/
def getF (l : List Ln) (d p : Int) : Int := if idx (isK d p) l < 0 then 0 else (l.getD (idx (isK d p) l).toNat default).f
def getM (l : List Ln) (d p : Int) : Int := if idx (isK d p) l < 0 then 0 else (l.getD (idx (isK d p) l).toNat default).m
def getB (l : List Ln) (d p : Int) : Bool := decide (0 ≤ idx (isK d p) l)

/-- Where there is such a line: it leads somewhere. -/
def mayB (d p f m : Int) : Bool := decide (0 ≤ d ∧ d < 4 ∧ 0 ≤ p ∧ p < 256 ∧ 0 ≤ f ∧ f < 64 ∧ 1 ≤ m ∧ m ≤ 3)

/-- A row into which a line is put; c: how many may be. -/
def putL (c : Nat) (l : List Ln) (x : Ln) : List Ln :=
  if 0 ≤ idx (isK x.d x.p) l then l.set (idx (isK x.d x.p) l).toNat x
  else if c < l.length + 1 then (l ++ [x]).tail else l ++ [x]

/-- No two of one device and page. -/
def Uq (l : List Ln) : Prop := l.Pairwise (fun x y => ¬ (x.d = y.d ∧ x.p = y.p))

theorem isK_iff (d p : Int) (x : Ln) : isK d p x = true ↔ x.d = d ∧ x.p = p := by simp [isK]
theorem isD_iff (d : Int) (x : Ln) : isD d x = true ↔ x.d = d := by simp [isD]

theorem putL_len (c : Nat) (l : List Ln) (x : Ln) (h : l.length ≤ c) : (putL c l x).length ≤ c ∧ (putL c l x).length ≤ l.length + 1 := by
  unfold putL
  split
  · simp; omega
  · split
    · simp; omega
    · simp; omega

theorem Uq.filter {l : List Ln} (h : Uq l) (f : Ln → Bool) : Uq (l.filter f) := List.Pairwise.filter _ h
theorem Uq.set {l : List Ln} (h : Uq l) (k : Nat) (x : Ln) (hk : k < l.length) (e : x.d = l[k].d ∧ x.p = l[k].p) : Uq (l.set k x) := by
  unfold Uq at *
  rw [List.pairwise_iff_getElem] at *
  intro i j hi hj hij
  have hi' : i < l.length := by simpa using hi
  have hj' : j < l.length := by simpa using hj
  have := h i j hi' hj' hij
  rw [List.getElem_set, List.getElem_set]
  split
  · split
    · omega
    · subst_vars; rw [e.1, e.2]; exact this
  · split
    · subst_vars; rw [e.1, e.2]; exact this
    · exact this
theorem Uq.snoc {l : List Ln} (h : Uq l) (x : Ln) (hn : ∀ y ∈ l, isK x.d x.p y = false) : Uq (l ++ [x]) := by
  unfold Uq at *
  rw [List.pairwise_append]
  refine ⟨h, by simp, fun a ha b hb => ?_⟩
  simp only [List.mem_cons, List.not_mem_nil, or_false] at hb
  subst hb
  have := hn a ha
  intro e
  rw [← Bool.not_eq_true, isK_iff] at this
  exact this e
theorem Uq.tail {l : List Ln} (h : Uq l) : Uq l.tail := h.sublist (List.tail_sublist l)

theorem Uq.put {l : List Ln} (h : Uq l) (c : Nat) (x : Ln) : Uq (putL c l x) := by
  unfold putL
  rcases idx_cases (isK x.d x.p) l with ⟨e, hn⟩ | ⟨k, hk, e, hy, _⟩
  · rw [e, if_neg (by omega)]
    split
    · exact (h.snoc x hn).tail
    · exact h.snoc x hn
  · rw [e, if_pos (by omega), Int.toNat_natCast]
    have := (isK_iff _ _ _).1 hy
    exact h.set k x hk ⟨this.1.symm, this.2.symm⟩

/-- The first one of a device's page is the one. -/
theorem Uq.erase {l : List Ln} (h : Uq l) (d p : Int) (k : Nat) (hk : k < l.length) (hy : isK d p l[k] = true) : l.filter (fun x => !isK d p x) = l.eraseIdx k := by
  induction l generalizing k with
  | nil => simp at hk
  | cons y l ih =>
    unfold Uq at h
    rw [List.pairwise_cons] at h
    match k with
    | 0 =>
      simp only [List.getElem_cons_zero] at hy
      simp only [List.eraseIdx_cons_zero, List.filter_cons, hy, Bool.not_true]
      rw [if_neg (by simp)]
      rw [List.filter_eq_self]
      intro z hz
      have h1 := h.1 z hz
      have h2 := (isK_iff _ _ _).1 hy
      cases hq : isK d p z with
      | false => rfl
      | true => exact absurd ⟨h2.1.trans ((isK_iff _ _ _).1 hq).1.symm, h2.2.trans ((isK_iff _ _ _).1 hq).2.symm⟩ h1
    | k + 1 =>
      simp only [List.getElem_cons_succ] at hy
      have hn : isK d p y = false := by
        cases hq : isK d p y with
        | false => rfl
        | true =>
          have h2 := (isK_iff _ _ _).1 hy
          have h3 := (isK_iff _ _ _).1 hq
          exact absurd ⟨h3.1.trans h2.1.symm, h3.2.trans h2.2.symm⟩ (h.1 _ (List.getElem_mem _))
      simp only [List.eraseIdx_cons_succ, List.filter_cons, hn, Bool.not_false, if_true]
      rw [ih h.2 k (by simpa using hk) hy]

end Go.Proofs.Ytiegonnnokldkaa
