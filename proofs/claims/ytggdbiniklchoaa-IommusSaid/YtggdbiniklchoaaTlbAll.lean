/-
  Plain words for layer 6: lines of a cache (device, page, frame, rights), what a row of them is as cells, what calls make of it. No Go here.
-/
import Derived.Test.YtggdbiniklchoaaMem
import Derived.Test.YtggdbiniklchoaaPlain2
import Derived.Test.YtggdbiniklchoaaChecked
import Derived.StillTailTactics
import Derived.Deep.AppendLies
import Derived.Test.YtggdbiniklchoaaPteAll
namespace Go.Proofs.Ytggdbiniklchoaa
open Go.RowKit
set_option linter.unusedVariables false
set_option maxRecDepth 100000

/-- A line: an entry of a device's page. -/
structure Ln where
  d : Int
  p : Int
  f : Int
  m : Int
instance : Inhabited Ln := ⟨⟨0, 0, 0, 0⟩⟩

/-- A line's numbers. -/
def ln4 (x : Ln) : List Int := [x.d, x.p, x.f, x.m]
/-- A row's numbers. -/
def lns (l : List Ln) : List Int := l.flatMap ln4

theorem lns_nil : lns [] = [] := rfl
theorem lns_cons (x : Ln) (l : List Ln) : lns (x :: l) = x.d :: x.p :: x.f :: x.m :: lns l := by simp [lns, ln4]
theorem lns_append (l m : List Ln) : lns (l ++ m) = lns l ++ lns m := by simp [lns, List.flatMap_append]
theorem lns_len (l : List Ln) : (lns l).length = l.length * 4 := by
  induction l with
  | nil => rfl
  | cons x l ih => rw [lns_cons]; simp only [List.length_cons, ih]; omega
theorem lns_get (l : List Ln) : ∀ i (h : i < l.length), (lns l)[i * 4]? = some l[i].d ∧ (lns l)[i * 4 + 1]? = some l[i].p ∧ (lns l)[i * 4 + 2]? = some l[i].f ∧ (lns l)[i * 4 + 3]? = some l[i].m := by
  induction l with
  | nil => intro i h; simp at h
  | cons x l ih =>
    intro i h
    match i with
    | 0 => rw [lns_cons]; simp
    | i + 1 =>
      have := ih i (by simpa using h)
      rw [lns_cons, show (i + 1) * 4 = i * 4 + 4 by omega]
      simpa using this
/-- A line's four numbers written into its place. -/
theorem lns_set (l : List Ln) (z : List Int) : ∀ i (h : i < l.length) (x : Ln), ((((lns l ++ z).set (i * 4) x.d).set (i * 4 + 1) x.p).set (i * 4 + 2) x.f).set (i * 4 + 3) x.m = lns (l.set i x) ++ z := by
  induction l with
  | nil => intro i h; simp at h
  | cons y l ih =>
    intro i h x
    match i with
    | 0 => rw [lns_cons]; simp [lns_cons]
    | i + 1 =>
      have := ih i (by simpa using h) x
      rw [lns_cons, show (i + 1) * 4 = i * 4 + 4 by omega]
      simp [lns_cons, this]
/-- .. the two of its entry. -/
theorem lns_set2 (l : List Ln) (z : List Int) : ∀ i (h : i < l.length) (f m : Int), ((lns l ++ z).set (i * 4 + 2) f).set (i * 4 + 3) m = lns (l.set i ⟨l[i].d, l[i].p, f, m⟩) ++ z := by
  induction l with
  | nil => intro i h; simp at h
  | cons y l ih =>
    intro i h f m
    match i with
    | 0 => rw [lns_cons]; simp [lns_cons]
    | i + 1 =>
      have := ih i (by simpa using h) f m
      rw [lns_cons, show (i + 1) * 4 = i * 4 + 4 by omega]
      simp [lns_cons, this]
/-- .. a line behind the last. -/
theorem lns_put (l : List Ln) (z : List Int) (x : Ln) (h : 4 ≤ z.length) : ((((lns l ++ z).set (l.length * 4) x.d).set (l.length * 4 + 1) x.p).set (l.length * 4 + 2) x.f).set (l.length * 4 + 3) x.m = lns (l ++ [x]) ++ z.drop 4 := by
  match z, h with
  | z0 :: z1 :: z2 :: z3 :: z, _ =>
    induction l with
    | nil => simp [lns_cons, lns_nil]
    | cons y l ih =>
      simp only [lns_cons, List.length_cons, show (l.length + 1) * 4 = l.length * 4 + 4 by omega, List.cons_append]
      simp [ih]

/-- Is it the line of a device's page? -/
def isK (d p : Int) (x : Ln) : Bool := x.d == d && x.p == p
/-- .. a line of a device? -/
def isD (d : Int) (x : Ln) : Bool := x.d == d

/-- Where the first one stands that is so; -1: there is none. -/
def idx (f : Ln → Bool) (l : List Ln) : Int := if l.findIdx f < l.length then (l.findIdx f : Int) else -1

theorem idx_found (f : Ln → Bool) (l : List Ln) (k : Nat) (hk : k < l.length) (h : f l[k] = true) (hb : ∀ j (hj : j < k), f l[j] = false) : idx f l = k := by
  have : l.findIdx f = k := by
    rw [List.findIdx_eq hk]
    exact ⟨h, fun j hj => hb j hj⟩
  simp [idx, this, hk]
theorem idx_none (f : Ln → Bool) (l : List Ln) (hb : ∀ j (hj : j < l.length), f l[j] = false) : idx f l = -1 := by
  have : l.findIdx f = l.length := by
    rw [List.findIdx_eq_length]
    intro x hx
    obtain ⟨j, hj, rfl⟩ := List.getElem_of_mem hx
    exact hb j hj
  simp [idx, this]
/-- The two ways of it. -/
theorem idx_cases (f : Ln → Bool) (l : List Ln) : (idx f l = -1 ∧ ∀ x ∈ l, f x = false) ∨ ∃ (k : Nat) (hk : k < l.length), idx f l = (k : Int) ∧ f l[k] = true ∧ ∀ j (hj : j < k), f (l[j]'(by omega)) = false := by
  by_cases h : l.findIdx f < l.length
  · right
    refine ⟨l.findIdx f, h, by simp [idx, h], List.findIdx_getElem (w := h), fun j hj => ?_⟩
    have := List.not_of_lt_findIdx hj
    simpa using this
  · left
    refine ⟨by simp [idx, h], ?_⟩
    have e : l.findIdx f = l.length := by have := List.findIdx_le_length (xs := l) (p := f); omega
    intro x hx
    have := List.findIdx_eq_length.1 e x hx
    simpa using this

/-- What is answered for a device's page. -/
def getF (l : List Ln) (d p : Int) : Int := if idx (isK d p) l < 0 then 0 else (l.getD (idx (isK d p) l).toNat default).f
def getM (l : List Ln) (d p : Int) : Int := if idx (isK d p) l < 0 then 0 else (l.getD (idx (isK d p) l).toNat default).m
def getB (l : List Ln) (d p : Int) : Bool := decide (0 ≤ idx (isK d p) l)

/-- Where there is such a line: it leads somewhere. -/
def tmB (d p f m : Int) : Bool := decide (0 ≤ d ∧ d < 4 ∧ 0 ≤ p ∧ p < 256 ∧ 0 ≤ f ∧ f < 64 ∧ 1 ≤ m ∧ m ≤ 3)

/-- A row into which a line is put; c: how many may be. -/
def putL (c : Nat) (l : List Ln) (x : Ln) : List Ln :=
  if 0 ≤ idx (isK x.d x.p) l then l.set (idx (isK x.d x.p) l).toNat x
  else if c < l.length + 1 then (l ++ [x]).tail else l ++ [x]

/-- No two of one device and page. -/
def Uq (l : List Ln) : Prop := l.Pairwise (fun x y => ¬ (x.d = y.d ∧ x.p = y.p))

theorem isK_iff (d p : Int) (x : Ln) : isK d p x = true ↔ x.d = d ∧ x.p = p := by simp [isK]
theorem isD_iff (d : Int) (x : Ln) : isD d x = true ↔ x.d = d := by simp [isD]

theorem putL_len (c : Nat) (l : List Ln) (x : Ln) (h : l.length ≤ c) : (putL c l x).length ≤ c ∧ (putL c l x).length ≤ l.length + 1 := by
  unfold putL
  split
  · simp; omega
  · split
    · simp; omega
    · simp; omega

theorem Uq.filter {l : List Ln} (h : Uq l) (f : Ln → Bool) : Uq (l.filter f) := List.Pairwise.filter _ h
theorem Uq.set {l : List Ln} (h : Uq l) (k : Nat) (x : Ln) (hk : k < l.length) (e : x.d = l[k].d ∧ x.p = l[k].p) : Uq (l.set k x) := by
  unfold Uq at *
  rw [List.pairwise_iff_getElem] at *
  intro i j hi hj hij
  have hi' : i < l.length := by simpa using hi
  have hj' : j < l.length := by simpa using hj
  have := h i j hi' hj' hij
  rw [List.getElem_set, List.getElem_set]
  split
  · split
    · omega
    · subst_vars; rw [e.1, e.2]; exact this
  · split
    · subst_vars; rw [e.1, e.2]; exact this
    · exact this
theorem Uq.snoc {l : List Ln} (h : Uq l) (x : Ln) (hn : ∀ y ∈ l, isK x.d x.p y = false) : Uq (l ++ [x]) := by
  unfold Uq at *
  rw [List.pairwise_append]
  refine ⟨h, by simp, fun a ha b hb => ?_⟩
  simp only [List.mem_cons, List.not_mem_nil, or_false] at hb
  subst hb
  have := hn a ha
  intro e
  rw [← Bool.not_eq_true, isK_iff] at this
  exact this e
theorem Uq.tail {l : List Ln} (h : Uq l) : Uq l.tail := h.sublist (List.tail_sublist l)

theorem Uq.put {l : List Ln} (h : Uq l) (c : Nat) (x : Ln) : Uq (putL c l x) := by
  unfold putL
  rcases idx_cases (isK x.d x.p) l with ⟨e, hn⟩ | ⟨k, hk, e, hy, _⟩
  · rw [e, if_neg (by omega)]
    split
    · exact (h.snoc x hn).tail
    · exact h.snoc x hn
  · rw [e, if_pos (by omega), Int.toNat_natCast]
    have := (isK_iff _ _ _).1 hy
    exact h.set k x hk ⟨this.1.symm, this.2.symm⟩

/-- The first one of a device's page is the one. -/
theorem Uq.erase {l : List Ln} (h : Uq l) (d p : Int) (k : Nat) (hk : k < l.length) (hy : isK d p l[k] = true) : l.filter (fun x => !isK d p x) = l.eraseIdx k := by
  induction l generalizing k with
  | nil => simp at hk
  | cons y l ih =>
    unfold Uq at h
    rw [List.pairwise_cons] at h
    match k with
    | 0 =>
      simp only [List.getElem_cons_zero] at hy
      simp only [List.eraseIdx_cons_zero, List.filter_cons, hy, Bool.not_true]
      rw [if_neg (by simp)]
      rw [List.filter_eq_self]
      intro z hz
      have h1 := h.1 z hz
      have h2 := (isK_iff _ _ _).1 hy
      cases hq : isK d p z with
      | false => rfl
      | true => exact absurd ⟨h2.1.trans ((isK_iff _ _ _).1 hq).1.symm, h2.2.trans ((isK_iff _ _ _).1 hq).2.symm⟩ h1
    | k + 1 =>
      simp only [List.getElem_cons_succ] at hy
      have hn : isK d p y = false := by
        cases hq : isK d p y with
        | false => rfl
        | true =>
          have h2 := (isK_iff _ _ _).1 hy
          have h3 := (isK_iff _ _ _).1 hq
          exact absurd ⟨h3.1.trans h2.1.symm, h3.2.trans h2.2.symm⟩ (h.1 _ (List.getElem_mem _))
      simp only [List.eraseIdx_cons_succ, List.filter_cons, hn, Bool.not_false, if_true]
      rw [ih h.2 k (by simpa using hk) hy]

end Go.Proofs.Ytggdbiniklchoaa

namespace Go.Proofs.Ytggdbiniklchoaa
open Go.RowKit
set_option linter.unusedVariables false
set_option maxRecDepth 100000

/-- The program's cache: at block g, c how many may stay, n the count as it is written, l the lines that stand in front. -/
def PT (w : World) (g : Nat) (c n : Nat) (l : List Ln) : Prop :=
  ∃ z : List Int, l.length * 4 + z.length = 68 ∧ Blk w g 100 (ints ((c : Int) :: (n : Int) :: (lns l ++ z)))

section
variable {w w' : World} {g c n : Nat} {l : List Ln}
theorem PT.lt (h : PT w g c n l) : g < w.heap.size := by obtain ⟨z, _, hb⟩ := h; exact hb.lt
theorem PT.len (h : PT w g c n l) : l.length ≤ 17 := by obtain ⟨z, hz, _⟩ := h; omega
theorem PT.size (h : PT w g c n l) : w.cell? ⟨g, 0, none⟩ = some (.int .i64 c) := by obtain ⟨z, _, hb⟩ := h; rw [hb.cell]; rfl
theorem PT.count (h : PT w g c n l) : w.cell? ⟨g, 1, none⟩ = some (.int .i64 n) := by obtain ⟨z, _, hb⟩ := h; rw [hb.cell]; rfl
theorem PT.frozen (h : PT w g c n l) (i : Nat) : w.frozen? ⟨g, i, none⟩ = false := by obtain ⟨z, _, hb⟩ := h; exact hb.frozen i
theorem PT.drewN (h : PT w g c n l) (k : Nat) : PT (w.drewN k) g c n l := h
theorem PT.alloc (h : PT w g c n l) (o : Obj) : PT (w.alloc o) g c n l := by obtain ⟨z, hz, hb⟩ := h; exact ⟨z, hz, hb.alloc o⟩
theorem PT.below {B : Nat} (h : PT w g c n l) (hb : Below B w w') (hg : g < B) : PT w' g c n l := by obtain ⟨z, hz, h⟩ := h; exact ⟨z, hz, h.below hb hg⟩
theorem PT.grown {row : Option Nat} (h : PT w g c n l) (hb : w.grownBy w' row) (hg : some g ≠ row) : PT w' g c n l := by obtain ⟨z, hz, h⟩ := h; exact ⟨z, hz, h.grown hb hg⟩
theorem PT.far (h : PT w g c n l) {p : Addr} (hp : g ≠ p.block) (u : Value) : PT (w.setCell p u) g c n l := by obtain ⟨z, hz, h⟩ := h; exact ⟨z, hz, h.far hp u⟩
theorem PT.apart_int {a : Nat} {cs : List Value} (h : PT w g c n l) (ha : Blk w a 3 cs) : g ≠ a := by obtain ⟨z, hz, hb⟩ := h; exact hb.apart ha (by decide)
/-- A line's cells. -/
theorem PT.at_ (h : PT w g c n l) (i : Nat) (hi : i < l.length) : w.cell? ⟨g, 2 + i * 4, none⟩ = some (.int .i64 l[i].d) ∧ w.cell? ⟨g, 2 + i * 4 + 1, none⟩ = some (.int .i64 l[i].p) ∧ w.cell? ⟨g, 2 + i * 4 + 2, none⟩ = some (.int .i64 l[i].f) ∧ w.cell? ⟨g, 2 + i * 4 + 3, none⟩ = some (.int .i64 l[i].m) := by
  obtain ⟨z, hz, hb⟩ := h
  have hl := lns_len l
  have hg := lns_get l i hi
  have key : ∀ j x, (lns l)[i * 4 + j]? = some x → w.cell? ⟨g, 2 + i * 4 + j, none⟩ = some (.int .i64 x) := by
    intro j x hx
    rw [hb.cell]
    have hj : i * 4 + j < (lns l).length := (List.getElem?_eq_some_iff.1 hx).1
    simp only [ints, List.map_cons, show 2 + i * 4 + j = i * 4 + j + 1 + 1 by omega, List.getElem?_cons_succ, List.getElem?_map]
    rw [List.getElem?_append_left hj, hx]; rfl
  exact ⟨key 0 _ hg.1, key 1 _ hg.2.1, key 2 _ hg.2.2.1, key 3 _ hg.2.2.2⟩
end

theorem arr_h (w : World) (g n : Nat) (hn : n ≤ 17) : (Instr.sliceAt 98 (.pointer (some ⟨g, 2, none⟩)) none (some (.int .i64 (n : Int))) none).run Try.prog w = .ok (.slice (some ⟨g, 2, none⟩) n 17) w := by
  have ht := Try.underlying98
  have hl : Try.prog.arrayLen 98 = 17 := by kernel_rfl
  have he : Try.prog.elem 98 = 97 := by kernel_rfl
  have hz : (Go.sizeOf 97).run Try.prog w = .ok 4 w := by
    have hi : (Try.prog.info? 97).map (fun i => i.size) = some 4 := by kernel_rfl
    cases h : Try.prog.info? 97 with
    | none => rw [h] at hi; cases hi
    | some i => rw [h] at hi; simp only [Option.map_some, Option.some.injEq] at hi; simp [Go.sizeOf, typeInfo, h, hi]
  rw [run_sliceAt_array_h w 98 ⟨g, 2, none⟩ (by rw [hl, he]; exact ht) .i64 _ (by omega) (by rw [hl]; omega), he, hz, hl]
  simp [Result.andThen, slicedAt, add_none]

theorem prow_any (g c n : Nat) (l : List Ln) (w : World) (h : PT w g c n l) (hn : n ≤ 17) :
    Calls Try.prog 79 #[.pointer (some ⟨g, 0, none⟩)] w fun e w' => e = .returned (.slice (some ⟨g, 2, none⟩) n 17) ∧ ∃ k, w' = w.drewN k := by
  have hc := h.count
  have hs := fun w => arr_h w g n hn
  clear h
  go_enter Try.func79, Try.ntmps79
  go_wp2_with fail
  go_quiet (fail)
  go_wp2_with fail
  go_ret
  exact ⟨rfl, nq, rfl⟩

/-- The test for the line of a device's page. -/
def fK (a b : Nat) : Value := .func (.func 80) #[] #[.pointer (some ⟨a, 0, none⟩), .pointer (some ⟨b, 0, none⟩)]
/-- .. for a line of a device. -/
def fD (a : Nat) : Value := .func (.func 75) #[] #[.pointer (some ⟨a, 0, none⟩)]

theorem of_any (d p : Int) (w : World) :
    Calls Try.prog 65 #[.int .i64 d, .int .i64 p] w fun e w' => e = .returned (fK w.heap.size (w.heap.size + 1)) ∧ w' = (w.alloc (Obj.cells [Value.int .i64 d].toArray 3)).alloc (Obj.cells [Value.int .i64 p].toArray 3) := by
  go_enter Try.func65, Try.ntmps65
  go_wp2_with fail
  go_ret
  exact ⟨rfl, rfl⟩

theorem all1_any (a : Nat) (d : Int) (x : Ln) (w : World) (ha : w.cell? ⟨a, 0, none⟩ = some (.int .i64 d)) :
    Calls Try.prog 75 #[.agg #[.int .i64 x.d, .int .i64 x.p, .int .i64 x.f, .int .i64 x.m], .pointer (some ⟨a, 0, none⟩)] w fun e w' => e = .returned (.bool (isD d x)) ∧ Below w.heap.size w w' := by
  obtain ⟨x1, x2, x3, x4⟩ := x
  have hlt := World.block_lt_of_cell? w _ ha
  go_enter Try.func75, Try.ntmps75
  go_wp2_with fail
  go_ret
  exact ⟨rfl, (Below.refl _ _).alloc (Nat.le_refl _) _⟩

theorem of1_any (a b : Nat) (d p : Int) (x : Ln) (w : World) (ha : w.cell? ⟨a, 0, none⟩ = some (.int .i64 d)) (hb : w.cell? ⟨b, 0, none⟩ = some (.int .i64 p)) :
    Calls Try.prog 80 #[.agg #[.int .i64 x.d, .int .i64 x.p, .int .i64 x.f, .int .i64 x.m], .pointer (some ⟨a, 0, none⟩), .pointer (some ⟨b, 0, none⟩)] w fun e w' => e = .returned (.bool (isK d p x)) ∧ Below w.heap.size w w' := by
  obtain ⟨x1, x2, x3, x4⟩ := x
  have hlt := World.block_lt_of_cell? w _ ha
  have hlt := World.block_lt_of_cell? w _ hb
  go_enter Try.func80, Try.ntmps80
  by_cases he : x1 = d
  · subst he
    have HK := Lib.hid (show (x2 == p) = isK x1 p ⟨x1, x2, x3, x4⟩ by simp [isK])
    go_wp2_with fail
    go_ret
    exact ⟨by rw [← HK.out]; rfl, (Below.refl _ _).alloc (Nat.le_refl _) _⟩
  · have HK := Lib.hid (show false = isK d p ⟨x1, x2, x3, x4⟩ by simp [isK, he])
    have he' : (x1 == d) = false := by simpa using he
    clear he
    go_wp2_with fail
    go_ret
    exact ⟨by rw [← HK.out]; rfl, (Below.refl _ _).alloc (Nat.le_refl _) _⟩

/-- A test that the calls ask. -/
def Tst (w : World) (F : Value) (f : Ln → Bool) : Prop :=
  (∃ a b d p, F = fK a b ∧ f = isK d p ∧ Blk w a 3 [.int .i64 d] ∧ Blk w b 3 [.int .i64 p]) ∨ (∃ a d, F = fD a ∧ f = isD d ∧ Blk w a 3 [.int .i64 d])

section
variable {w w' : World} {F : Value} {f : Ln → Bool}
theorem Tst.below (h : Tst w F f) (hb : Below w.heap.size w w') : Tst w' F f := by
  rcases h with ⟨a, b, d, p, h1, h2, h3, h4⟩ | ⟨a, d, h1, h2, h3⟩
  · exact .inl ⟨a, b, d, p, h1, h2, h3.below hb h3.lt, h4.below hb h4.lt⟩
  · exact .inr ⟨a, d, h1, h2, h3.below hb h3.lt⟩
theorem Tst.grown {g : Nat} {t : TypeId} {cs : List Value} (h : Tst w F f) (hb : w.grownBy w' (some g)) (hg : Blk w g t cs) (ht : t ≠ 3) : Tst w' F f := by
  rcases h with ⟨a, b, d, p, h1, h2, h3, h4⟩ | ⟨a, d, h1, h2, h3⟩
  · exact .inl ⟨a, b, d, p, h1, h2, h3.grown hb (fun e => hg.apart h3 ht (by injection e with e; exact e.symm)), h4.grown hb (fun e => hg.apart h4 ht (by injection e with e; exact e.symm))⟩
  · exact .inr ⟨a, d, h1, h2, h3.grown hb (fun e => hg.apart h3 ht (by injection e with e; exact e.symm))⟩
end

/-- One round's facts: a line, and the test on it. -/
structure Rnd (w : World) (g c n : Nat) (l : List Ln) (F : Value) (f : Ln → Bool) : Prop where
  tab : PT w g c n l
  tst : Tst w F f

set_option maxRecDepth 100000 in
theorem ifn_any (g c n : Nat) (l : List Ln) (F : Value) (f : Ln → Bool) (w : World) (h : PT w g c n l) (ht : Tst w F f) :
    Calls Try.prog 81 #[.slice (some ⟨g, 2, none⟩) l.length 17, F] w fun e w' => e = .returned (.int .i64 (idx f l)) ∧ Below w.heap.size w w' := by
  have hlen := h.len
  have hgl := h.lt
  have H : Hid (PT w g c n l) := Lib.hid h
  have HT := Lib.hid ht
  obtain ⟨m, hm⟩ : ∃ m, m = l.length := ⟨_, rfl⟩
  rw [← hm] at hlen ⊢
  have HM := Lib.hid hm; clear hm h
  rcases ht with ⟨a, b, d, p, rfl, rfl, ha, hb⟩ | ⟨a, d, rfl, rfl, ha⟩
  · unfold fK at *
    have HA := Lib.hid ha; have HB := Lib.hid hb
    clear ha hb
    clear HT
    go_enter Try.func81, Try.ntmps81
    go_wp2_with fail
    go_loopw [8] (fun i wr => ∃ (k : Nat), k ≤ m ∧ i = .int .i64 k ∧ (∀ j (hj : j < k) (hj' : j < l.length), isK d p l[j] = false) ∧ Below w.heap.size w wr) (fun i _ => m - (intOf i).toNat)
    case atStart => exact ⟨0, by omega, rfl, fun j hj => by omega, Below.refl _ _⟩
    case round =>
      obtain ⟨k, hk, rfl, hall, hbel⟩ := hrel
      have hsz := hbel.size
      have HALL := Lib.hid hall; clear hall
      by_cases hlt : k < m
      · have hkl : k < l.length := by rw [← HM.out]; exact hlt
        have htab := H.out.below hbel hgl
        obtain ⟨c0, c1, c2, c3⟩ := htab.at_ k hkl
        generalize hx : l[k] = x at *
        have HX := Lib.hid hx; clear hx htab
        go_wp2_with fail
        refine (of1_any _ _ d p x _ ((HA.out.below hbel HA.out.lt).cell 0) ((HB.out.below hbel HB.out.lt).cell 0)).mono ?_
        rintro e w1 ⟨rfl, b1⟩
        have bel1 := Below.down hbel b1 hsz
        clear c0 c1 c2 c3 b1 hbel
        cases hf : isK d p x with
        | true =>
          have HF := Lib.hid hf; clear hf
          go_wp2_with fail
          go_ret
          exact ⟨by rw [idx_found _ l k hkl (by rw [HX.out]; exact HF.out) (fun j hj => HALL.out j hj (by omega))]; rfl, bel1⟩
        | false =>
          have HF := Lib.hid hf; clear hf
          go_wp2_with fail
          go_roundw
          case rel => exact ⟨k + 1, by omega, by go_num, fun j hj hj' => by
            by_cases e : j = k
            · subst e; rw [HX.out]; exact HF.out
            · exact HALL.out j (by omega) hj', bel1⟩
          case measure => simp [intOf]; omega
      · go_wp2_with fail
        go_ret
        exact ⟨by rw [idx_none _ l (fun j hj => HALL.out j (by have := HM.out; omega) hj)]; rfl, hbel⟩
  · unfold fD at *
    have HA := Lib.hid ha
    clear ha
    clear HT
    go_enter Try.func81, Try.ntmps81
    go_wp2_with fail
    go_loopw [8] (fun i wr => ∃ (k : Nat), k ≤ m ∧ i = .int .i64 k ∧ (∀ j (hj : j < k) (hj' : j < l.length), isD d l[j] = false) ∧ Below w.heap.size w wr) (fun i _ => m - (intOf i).toNat)
    case atStart => exact ⟨0, by omega, rfl, fun j hj => by omega, Below.refl _ _⟩
    case round =>
      obtain ⟨k, hk, rfl, hall, hbel⟩ := hrel
      have hsz := hbel.size
      have HALL := Lib.hid hall; clear hall
      by_cases hlt : k < m
      · have hkl : k < l.length := by rw [← HM.out]; exact hlt
        have htab := H.out.below hbel hgl
        obtain ⟨c0, c1, c2, c3⟩ := htab.at_ k hkl
        generalize hx : l[k] = x at *
        have HX := Lib.hid hx; clear hx htab
        go_wp2_with fail
        refine (all1_any _ d x _ ((HA.out.below hbel HA.out.lt).cell 0)).mono ?_
        rintro e w1 ⟨rfl, b1⟩
        have bel1 := Below.down hbel b1 hsz
        clear c0 c1 c2 c3 b1 hbel
        cases hf : isD d x with
        | true =>
          have HF := Lib.hid hf; clear hf
          go_wp2_with fail
          go_ret
          exact ⟨by rw [idx_found _ l k hkl (by rw [HX.out]; exact HF.out) (fun j hj => HALL.out j hj (by omega))]; rfl, bel1⟩
        | false =>
          have HF := Lib.hid hf; clear hf
          go_wp2_with fail
          go_roundw
          case rel => exact ⟨k + 1, by omega, by go_num, fun j hj hj' => by
            by_cases e : j = k
            · subst e; rw [HX.out]; exact HF.out
            · exact HALL.out j (by omega) hj', bel1⟩
          case measure => simp [intOf]; omega
      · go_wp2_with fail
        go_ret
        exact ⟨by rw [idx_none _ l (fun j hj => HALL.out j (by have := HM.out; omega) hj)]; rfl, hbel⟩

end Go.Proofs.Ytggdbiniklchoaa

namespace Go.Proofs.Ytggdbiniklchoaa
open Go.RowKit
set_option linter.unusedVariables false
set_option maxRecDepth 100000

theorem infoLine : (Try.prog.info? 97).map (fun i => (i.zero, i.size, i.bytes)) = some (some (.agg #[.int .i64 0, .int .i64 0, .int .i64 0, .int .i64 0]), 4, 32) := by kernel_rfl

/-- The lines from the k-th on. -/
theorem sl_from (w : World) (g o len cap k : Nat) (hk : k < cap) (hl : k ≤ len) : (Instr.slice 125 (.slice (some ⟨g, o, none⟩) len cap) (some (.int .i64 (k : Int))) none none).run Try.prog w = .ok (.slice (some ⟨g, o + k * 4, none⟩) (len - k) (cap - k)) w := by
  obtain ⟨i0, hi, _, hz1, _⟩ := info_parts infoLine
  have he : Try.prog.elem 125 = 97 := by kernel_rfl
  have hz : (Go.sizeOf 97).run Try.prog w = .ok 4 w := by simp [Go.sizeOf, typeInfo, hi, hz1]
  rw [run_slice_l w 125 (some ⟨g, o, none⟩) len cap (by rw [he]; exact Try.underlying125) .i64 _ (by omega) (by omega), he, hz]
  have : ¬ (cap = k) := by omega
  simp [Result.andThen, sliced, this, add_none]

/-- 'append' of lines to none, where there is room: within a block. -/
theorem run_append_at (w : World) (ty : TypeId) (g o sCap m c : Nat) (a : Addr) (cur news : List Value) (t : TypeId) (h : Blk w g t cur) (hl : news.length = m * 4) (hnews : ∀ j u, news[j]? = some u → w.cell? (a.add j) = some u)
    (h1 : ∀ u ∈ news, u.oneCell' = true) (hroom : m ≤ sCap) (hfit : o + news.length ≤ cur.length) :
    (Builtin.append_ #[125, 125] ty #[.slice (some ⟨g, o, none⟩) 0 sCap, .slice (some a) m c]).run Try.prog w = .ok (.slice (some ⟨g, o, none⟩) m sCap) (w.setRow g (cur.take o ++ news ++ cur.drop (o + news.length)).toArray) := by
  obtain ⟨i, hi, hz0, hz1, hz2⟩ := info_parts infoLine
  have hf := run_firstCells_some (P := Try.prog) w i.size m a m c news (by rw [hz1]; exact hl) hnews
  have hst := run_storeCells_at Try.prog g o t news 0 cur.toArray w h (by simpa using hfit) h1
  simp only [Nat.add_zero] at hst
  simp [Builtin.append_, run_underlying Try.underlying125, sizeOf, typeInfo, hi, Builtin.lenOf, hroom, hf, add_none, hst]

/-- 'clear' of lines within a block. -/
theorem run_clear_at (w : World) (ty : TypeId) (g o n c : Nat) (cur : List Value) (t : TypeId) (h : Blk w g t cur) (hn : 0 < n) (hfit : o + n * 4 ≤ cur.length) :
    (Builtin.clear_ #[125] ty #[.slice (some ⟨g, o, none⟩) n c]).run Try.prog w = .ok (.tuple #[]) (w.setRow g (cur.take o ++ ints (List.replicate (n * 4) 0) ++ cur.drop (o + n * 4)).toArray) := by
  obtain ⟨i0, hi, hz0, _, _⟩ := info_parts infoLine
  have hst := run_storeCells_at Try.prog g o t (ints (List.replicate (n * 4) 0)) 0 cur.toArray w h (by simpa [ints_len] using hfit) (by
    intro v hv
    simp only [ints, List.map_replicate] at hv
    rw [List.eq_of_mem_replicate hv]; rfl)
  simp only [Nat.add_zero, ints_len, List.length_replicate] at hst
  have hzc : (Builtin.zeroCells (Value.agg #[.int .i64 0, .int .i64 0, .int .i64 0, .int .i64 0]).cells n).toList = ints (List.replicate (n * 4) 0) := by
    simp [Builtin.zeroCells, Value.cells, ints]
    apply List.ext_getElem
    · simp
    · intro i h1 h2
      simp only [List.getElem_map, List.getElem_range, List.getElem_replicate]
      have h4 : i % 4 < 4 := Nat.mod_lt _ (by omega)
      generalize i % 4 = q at h4
      match q, h4 with
      | 0, _ => rfl
      | 1, _ => rfl
      | 2, _ => rfl
      | 3, _ => rfl
  obtain ⟨m, rfl⟩ : ∃ m, n = m + 1 := ⟨n - 1, by omega⟩
  simp [Builtin.clear_, run_underlying Try.underlying125, zeroValue, typeInfo, hi, hz0, hzc, hst]

theorem ints_one (l : List Int) : ∀ u ∈ ints l, u.oneCell' = true := by
  intro u hu
  obtain ⟨x, _, rfl⟩ := List.mem_map.1 hu
  rfl

/-- What lies behind the first k lines. -/
theorem lns_drop (l : List Ln) (z : List Int) (k : Nat) (h : k ≤ l.length) : (lns l ++ z).drop (k * 4) = lns (l.drop k) ++ z := by
  have e : lns l = lns (l.take k) ++ lns (l.drop k) := by rw [← lns_append, List.take_append_drop]
  have hl : (lns (l.take k)).length = k * 4 := by rw [lns_len, List.length_take, Nat.min_eq_left h]
  rw [e, List.append_assoc, ← hl, List.drop_left]
theorem lns_take (l : List Ln) (z : List Int) (k : Nat) (h : k ≤ l.length) : (lns l ++ z).take (k * 4) = lns (l.take k) := by
  have e : lns l = lns (l.take k) ++ lns (l.drop k) := by rw [← lns_append, List.take_append_drop]
  have hl : (lns (l.take k)).length = k * 4 := by rw [lns_len, List.length_take, Nat.min_eq_left h]
  rw [e, List.append_assoc, ← hl, List.take_left]

section
variable {w w' : World} {g c n : Nat} {l : List Ln}
/-- A line written into its place. -/
theorem PT.put4 (h : PT w g c n l) (i : Nat) (hi : i < l.length) (x : Ln) : PT ((((w.setCell ⟨g, 2 + i * 4, none⟩ (.int .i64 x.d)).setCell ⟨g, 2 + i * 4 + 1, none⟩ (.int .i64 x.p)).setCell ⟨g, 2 + i * 4 + 2, none⟩ (.int .i64 x.f)).setCell ⟨g, 2 + i * 4 + 3, none⟩ (.int .i64 x.m)) g c n (l.set i x) := by
  obtain ⟨z, hz, hb⟩ := h
  have h4 := (((hb.setInt (2 + i * 4) x.d).setInt (2 + i * 4 + 1) x.p).setInt (2 + i * 4 + 2) x.f).setInt (2 + i * 4 + 3) x.m
  refine ⟨z, by rw [List.length_set]; exact hz, ?_⟩
  rw [show 2 + i * 4 + 3 = (i * 4 + 3) + 1 + 1 by omega, show 2 + i * 4 + 2 = (i * 4 + 2) + 1 + 1 by omega, show 2 + i * 4 + 1 = (i * 4 + 1) + 1 + 1 by omega, show 2 + i * 4 = i * 4 + 1 + 1 by omega] at h4 ⊢
  simp only [List.set_cons_succ] at h4
  rw [lns_set l z i hi x] at h4
  exact h4
/-- .. behind the last. -/
theorem PT.put4_end (h : PT w g c n l) (hl : l.length ≤ 16) (x : Ln) : PT ((((w.setCell ⟨g, 2 + l.length * 4, none⟩ (.int .i64 x.d)).setCell ⟨g, 2 + l.length * 4 + 1, none⟩ (.int .i64 x.p)).setCell ⟨g, 2 + l.length * 4 + 2, none⟩ (.int .i64 x.f)).setCell ⟨g, 2 + l.length * 4 + 3, none⟩ (.int .i64 x.m)) g c n (l ++ [x]) := by
  obtain ⟨z, hz, hb⟩ := h
  have h4 := (((hb.setInt (2 + l.length * 4) x.d).setInt (2 + l.length * 4 + 1) x.p).setInt (2 + l.length * 4 + 2) x.f).setInt (2 + l.length * 4 + 3) x.m
  refine ⟨z.drop 4, by simp; omega, ?_⟩
  generalize hk : l.length * 4 = k at *
  rw [show 2 + k + 3 = (k + 3) + 1 + 1 by omega, show 2 + k + 2 = (k + 2) + 1 + 1 by omega, show 2 + k + 1 = (k + 1) + 1 + 1 by omega, show 2 + k = k + 1 + 1 by omega] at h4 ⊢
  simp only [List.set_cons_succ] at h4
  subst hk
  rw [lns_put l z x (by omega)] at h4
  exact h4
/-- An entry's two numbers written into its place. -/
theorem PT.put2 (h : PT w g c n l) (i : Nat) (hi : i < l.length) (f m : Int) : PT ((w.setCell ⟨g, 2 + i * 4 + 2, none⟩ (.int .i64 f)).setCell ⟨g, 2 + i * 4 + 3, none⟩ (.int .i64 m)) g c n (l.set i ⟨l[i].d, l[i].p, f, m⟩) := by
  obtain ⟨z, hz, hb⟩ := h
  have h4 := (hb.setInt (2 + i * 4 + 2) f).setInt (2 + i * 4 + 3) m
  refine ⟨z, by rw [List.length_set]; exact hz, ?_⟩
  rw [show 2 + i * 4 + 3 = (i * 4 + 3) + 1 + 1 by omega, show 2 + i * 4 + 2 = (i * 4 + 2) + 1 + 1 by omega] at h4 ⊢
  simp only [List.set_cons_succ] at h4
  rw [lns_set2 l z i hi f m] at h4
  exact h4
/-- The count written. -/
theorem PT.count_ (h : PT w g c n l) (k : Nat) : PT (w.setCell ⟨g, 1, none⟩ (.int .i64 k)) g c k l := by
  obtain ⟨z, hz, hb⟩ := h
  exact ⟨z, hz, hb.setInt 1 k⟩
/-- The cells behind the last line may be written. -/
theorem PT.room (h : PT w g c n l) (hl : l.length ≤ 16) (j : Nat) (hj : j < 4) : ∃ u, w.cell? ⟨g, 2 + l.length * 4 + j, none⟩ = some u := by
  obtain ⟨z, hz, hb⟩ := h
  have : 2 + l.length * 4 + j < (ints ((c : Int) :: (n : Int) :: (lns l ++ z))).length := by rw [ints_len]; simp only [List.length_cons, List.length_append, lns_len]; omega
  exact ⟨_, by rw [hb.cell]; exact List.getElem?_eq_getElem this⟩
/-- The lines behind the first k, cleared: only those in front are known. -/
theorem PT.cleared (h : PT w g c n l) (k : Nat) (hk : k < l.length) : ∃ w1, (∀ ty cap, (Builtin.clear_ #[125] ty #[.slice (some ⟨g, 2 + k * 4, none⟩) (l.length - k) cap]).run Try.prog w = .ok (.tuple #[]) w1) ∧ PT w1 g c n (l.take k) ∧ w.grownBy w1 (some g) := by
  obtain ⟨z, hz, hb⟩ := h
  have hlen : (ints ((c : Int) :: (n : Int) :: (lns l ++ z))).length = 70 := by rw [ints_len]; simp only [List.length_cons, List.length_append, lns_len]; omega
  refine ⟨_, fun ty cap => run_clear_at w ty g (2 + k * 4) (l.length - k) cap _ _ hb (by omega) (by rw [hlen]; omega), ?_, grown_setRow _ _ _⟩
  have e : (ints ((c : Int) :: (n : Int) :: (lns l ++ z))).take (2 + k * 4) ++ ints (List.replicate ((l.length - k) * 4) 0) ++ (ints ((c : Int) :: (n : Int) :: (lns l ++ z))).drop (2 + k * 4 + (l.length - k) * 4) =
      ints ((c : Int) :: (n : Int) :: (lns (l.take k) ++ (List.replicate ((l.length - k) * 4) 0 ++ z))) := by
    rw [show 2 + k * 4 + (l.length - k) * 4 = l.length * 4 + 1 + 1 by omega, show 2 + k * 4 = k * 4 + 1 + 1 by omega]
    simp only [ints, List.map_cons, List.take_succ_cons, List.drop_succ_cons, ← List.map_take, ← List.map_drop]
    rw [lns_take l z k (by omega), lns_drop l z l.length (Nat.le_refl _)]
    simp [lns_nil]
  rw [e]
  refine ⟨_, ?_, hb.row _⟩
  rw [List.length_append, List.length_replicate, List.length_take]
  omega
/-- The lines behind the first one, copied to the front. -/
theorem PT.shifted {x : Ln} (h : PT w g c n (x :: l)) (hl : 0 < l.length) : ∃ w1, (∀ ty cap, (Builtin.append_ #[125, 125] ty #[.slice (some ⟨g, 2, none⟩) 0 17, .slice (some ⟨g, 6, none⟩) l.length cap]).run Try.prog w = .ok (.slice (some ⟨g, 2, none⟩) l.length 17) w1) ∧ (∃ y, PT w1 g c n (l ++ [y])) ∧ w.grownBy w1 (some g) := by
  have hlen17 := h.len
  obtain ⟨z, hz, hb⟩ := h
  simp only [List.length_cons] at hz hlen17
  have hlen : (ints ((c : Int) :: (n : Int) :: (lns (x :: l) ++ z))).length = 70 := by rw [ints_len]; simp only [List.length_cons, List.length_append, lns_len]; omega
  have hnl : (ints (lns l)).length = l.length * 4 := by rw [ints_len, lns_len]
  refine ⟨_, fun ty cap => run_append_at w ty g 2 17 l.length cap ⟨g, 6, none⟩ _ (ints (lns l)) _ hb hnl (fun j u hu => ?_) (ints_one _) (by omega) (by rw [hlen, hnl]; omega), ?_, grown_setRow _ _ _⟩
  · rw [add_none, hb.cell]
    have hj : j < (lns l).length := by have := (List.getElem?_eq_some_iff.1 hu).1; rwa [ints_len] at this
    rw [lns_cons]
    simp only [ints, List.map_cons, List.cons_append, show 6 + j = j + 1 + 1 + 1 + 1 + 1 + 1 by omega, List.getElem?_cons_succ, List.map_append]
    rw [List.getElem?_append_left (by rw [List.length_map]; exact hj)]
    exact hu
  · obtain ⟨l0, y, rfl⟩ : ∃ l0 y, l = l0 ++ [y] := by
      rcases List.eq_nil_or_concat l with rfl | ⟨a, b, h⟩
      · simp at hl
      · exact ⟨a, b, by simpa using h⟩
    refine ⟨y, ?_⟩
    have e : (ints ((c : Int) :: (n : Int) :: (lns (x :: (l0 ++ [y])) ++ z))).take 2 ++ ints (lns (l0 ++ [y])) ++ (ints ((c : Int) :: (n : Int) :: (lns (x :: (l0 ++ [y])) ++ z))).drop (2 + (ints (lns (l0 ++ [y]))).length) =
        ints ((c : Int) :: (n : Int) :: (lns (l0 ++ [y] ++ [y]) ++ z)) := by
      rw [hnl, Nat.add_comm 2]
      simp only [ints, List.map_cons, List.take_succ_cons, List.drop_succ_cons, List.take_zero, ← List.map_drop]
      rw [lns_drop _ z (l0 ++ [y]).length (by simp)]
      have e2 : (x :: (l0 ++ [y])).drop (l0 ++ [y]).length = [y] := by
        rw [List.length_append, List.length_singleton, List.drop_succ_cons, List.drop_left]
      rw [e2, lns_append (l0 ++ [y])]
      simp
    rw [e]
    refine ⟨z, ?_, hb.row _⟩
    simp at hz ⊢
    omega
end

end Go.Proofs.Ytggdbiniklchoaa

namespace Go.Proofs.Ytggdbiniklchoaa
open Go.RowKit
set_option linter.unusedVariables false
set_option maxRecDepth 100000

/-- A builtin of two arguments, by its run. -/
theorem wp_append_run {P : Program} {w : World} {o : Oper} {a : Act} {K : Act → World → Prop} {Q : Exit → Act → World → Prop} (s x : Operand) (t : TypeId)
    (ho : o.op = .call { callee := .builtin .append, args := #[s, x], argTypes := #[t, t] }) (vs vx v : Value) (w' : World) (hs : a.eval s = vs) (hx : a.eval x = vx)
    (hr : (Builtin.append_ #[t, t] o.type #[vs, vx]).run P w = .ok v w') (h : K (a.put o.dst v) w') : o.wp P a w K Q := by
  unfold Oper.wp execOp
  simp only [ho, resolve, invoke, builtin, Sem.run_bind, Sem.run_pure, Result.andThen_ok, List.map_toArray, List.map_cons, List.map_nil, hs, hx, hr]
  exact h

theorem wpList_append_run {P : Program} {w : World} {ops : Array Oper} {rest : List Oper} {o : Oper} {a : Act} {Q : Exit → Act → World → Prop} (hgd : o.guard = none) (s x : Operand) (t : TypeId)
    (ho : o.op = .call { callee := .builtin .append, args := #[s, x], argTypes := #[t, t] }) (vs vx v : Value) (w' : World) (hs : a.eval s = vs) (hx : a.eval x = vx)
    (hr : (Builtin.append_ #[t, t] o.type #[vs, vx]).run P w = .ok v w') (h : wpList P ops Q rest (a.put o.dst v) w') : wpList P ops Q (o :: rest) a w :=
  wpList_plain hgd fun _ hK => wp_append_run s x t ho vs vx v w' hs hx hr (hK _ _ h)

end Go.Proofs.Ytggdbiniklchoaa

namespace Go.Proofs.Ytggdbiniklchoaa
open Go.RowKit
set_option linter.unusedVariables false
set_option maxRecDepth 100000

set_option maxRecDepth 100000 in
theorem del_any (g c n : Nat) (x : Ln) (l : List Ln) (w : World) (h : PT w g c n (x :: l)) (hl : 0 < l.length) :
    Calls Try.prog 88 #[.slice (some ⟨g, 2, none⟩) (l.length + 1 : Nat) 17, .int .i64 0, .int .i64 1] w fun e w' => e = .returned (.slice (some ⟨g, 2, none⟩) l.length 17) ∧ PT w' g c n l ∧ w.grownBy w' (some g) := by
  have hlen := h.len
  simp only [List.length_cons] at hlen
  obtain ⟨w1, ha, ⟨y, h1⟩, g1⟩ := PT.shifted (show PT w.drew g c n (x :: l) from h) hl
  have h1l : l.length < (l ++ [y]).length := by simp
  obtain ⟨w2, hc, h2, g2⟩ := h1.cleared l.length h1l
  rw [show (l ++ [y]).length - l.length = 1 by simp] at hc
  rw [List.take_left] at h2
  generalize l.length = m at *
  have hg12 : w.grownBy w2 (some g) := gtrans (show w.grownBy w1 (some g) from ⟨g1.os, g1.tape, g1.output, g1.size, g1.block⟩) g2
  clear h1l h h1 g1 g2
  have hsl := fun w => sl_from w g 2 (m + 1) 17 1 (by omega) (by omega)
  simp only [show m + 1 - 1 = m by omega, show 17 - 1 = 16 by omega, show 2 + 1 * 4 = 6 by omega] at hsl
  have hsl2 : ∀ w, (Instr.slice 125 (.slice (some ⟨g, 2, none⟩) (m + 1) 17) (some (.int .i64 1)) none none).run Try.prog w = _ := hsl
  clear hsl
  go_enter Try.func88, Try.ntmps88
  go_wp2_with fail
  go_still_tail 6, (by kernel_rfl)
  change wpList _ _ _ _ _ w.drew
  refine wpList_append_run rfl _ _ _ rfl _ _ _ _ rfl rfl (ha _ _) ?_
  clear ha
  go_wp2_with fail
  go_ret
  exact ⟨rfl, h2, hg12⟩

/-- A row on the way: i lines kept of the first j, those from j on as they were. -/
structure Way (w w' : World) (g c n : Nat) (l : List Ln) (f : Ln → Bool) (i j : Nat) (L : List Ln) : Prop where
  tab : PT w' g c n L
  len : L.length = l.length
  kept : L.take i = (l.take j).filter (fun x => !f x)
  rest : L.drop j = l.drop j
  gr : w.grownBy w' (some g)

theorem setCells_grown (w : World) (g : Nat) (a b c d : Addr) (ha : a.block = g) (hb : b.block = g) (hc : c.block = g) (hd : d.block = g) (x y z u : Value) : w.grownBy ((((w.setCell a x).setCell b y).setCell c z).setCell d u) (some g) :=
  gset (gset (gset (gset (grefl w _) (.inl ha) _) (.inl hb) _) (.inl hc) _) (.inl hd) _

/-- All of it: just the lines kept. -/
theorem Way.all {w w' : World} {g c n : Nat} {l : List Ln} {f : Ln → Bool} {i j : Nat} {L : List Ln} (h : Way w w' g c n l f i j L) (hij : i < j) (hj : j = l.length) : L.take i = l.filter (fun x => !f x) ∧ i = (l.filter (fun x => !f x)).length := by
  have e := h.kept
  rw [hj, List.take_length] at e
  refine ⟨e, ?_⟩
  rw [← e, List.length_take, h.len]
  omega

theorem Way.at_ {w w' : World} {g c n : Nat} {l : List Ln} {f : Ln → Bool} {i j : Nat} {L : List Ln} (h : Way w w' g c n l f i j L) (hj : j < l.length) : ∃ hj' : j < L.length, L[j] = l[j] := by
  have hl := h.len
  refine ⟨by omega, ?_⟩
  have e := congrArg (fun x => x[0]?) h.rest
  simp only [List.getElem?_drop, Nat.add_zero] at e
  rw [List.getElem?_eq_getElem (by omega), List.getElem?_eq_getElem hj] at e
  exact Option.some.inj e

theorem Way.skip {w w' w1 : World} {g c n : Nat} {l : List Ln} {f : Ln → Bool} {i j : Nat} {L : List Ln} (h : Way w w' g c n l f i j L) (hb : Below w'.heap.size w' w1) (hj : j < l.length) (hf : f l[j] = true) : Way w w1 g c n l f i (j + 1) L := by
  refine ⟨h.tab.below hb h.tab.lt, h.len, ?_, ?_, gtrans h.gr (gof hb _)⟩
  · rw [h.kept, List.take_succ_eq_append_getElem hj, List.filter_append]
    simp [hf]
  · have := congrArg (List.drop 1) h.rest
    simpa [List.drop_drop] using this

theorem Way.keep {w w' w1 : World} {g c n : Nat} {l : List Ln} {f : Ln → Bool} {i j : Nat} {L : List Ln} (h : Way w w' g c n l f i j L) (hij : i < j) (hj : j < l.length) (hf : f l[j] = false)
    (ht : PT w1 g c n (L.set i l[j])) (hg : w'.grownBy w1 (some g)) : Way w w1 g c n l f (i + 1) (j + 1) (L.set i l[j]) := by
  have hl := h.len
  refine ⟨ht, by rw [List.length_set, hl], ?_, ?_, gtrans h.gr hg⟩
  · rw [List.take_succ_eq_append_getElem hj, List.filter_append, ← h.kept]
    rw [List.take_succ_eq_append_getElem (by rw [List.length_set]; omega), List.getElem_set_self]
    rw [List.take_set_of_le (Nat.le_refl _)]
    simp [hf]
  · rw [List.drop_set_of_lt (by omega)]
    have := congrArg (List.drop 1) h.rest
    simpa [List.drop_drop] using this

set_option maxRecDepth 100000 in
theorem delf_any (g c n : Nat) (l : List Ln) (F : Value) (f : Ln → Bool) (w : World) (h : PT w g c n l) (ht : Tst w F f) :
    Calls Try.prog 78 #[.slice (some ⟨g, 2, none⟩) l.length 17, F] w fun e w' => e = .returned (.slice (some ⟨g, 2, none⟩) (l.filter fun x => !f x).length 17) ∧ PT w' g c n (l.filter fun x => !f x) ∧ w.grownBy w' (some g) := by
  have hlen := h.len
  have hgl := h.lt
  have H : Hid (PT w g c n l) := Lib.hid h
  have HT := Lib.hid ht
  clear h
  rcases idx_cases f l with ⟨he, hall⟩ | ⟨k, hk, he, hy, hb⟩
  · have hfl : l.filter (fun x => !f x) = l := by
      rw [List.filter_eq_self]; intro x hx; simp [hall x hx]
    rw [hfl]
    have HE := Lib.hid he; clear he hall hfl
    rcases ht with ⟨a, b, d, p, rfl, rfl, ha, hb⟩ | ⟨a, d, rfl, rfl, ha⟩
    all_goals
      first | unfold fK at * | unfold fD at *
      go_enter Try.func78, Try.ntmps78
      go_wp2_with fail
      refine (ifn_any g c n l _ _ _ H.out HT.out).mono ?_
      rw [HE.out]
      rintro e w1 ⟨rfl, b1⟩
      go_wp2_with fail
      go_ret
      exact ⟨rfl, H.out.below b1 hgl, gof b1 _⟩
  · have HE := Lib.hid he; clear he
    have hw0 : Way w w g c n l f k (k + 1) l := by
      refine ⟨H.out, rfl, ?_, rfl, grefl _ _⟩
      rw [List.take_succ_eq_append_getElem hk, List.filter_append]
      have e1 : (l.take k).filter (fun x => !f x) = l.take k := by
        rw [List.filter_eq_self]
        intro x hx
        obtain ⟨j, hj, rfl⟩ := List.getElem_of_mem hx
        simp only [List.length_take] at hj
        rw [List.getElem_take, hb j (by omega)]; rfl
      rw [e1]
      simp [hy]
    have HW0 := Lib.hid hw0; clear hw0 hb hy
    obtain ⟨m, hm⟩ : ∃ m, m = l.length := ⟨_, rfl⟩
    rw [← hm] at hlen hk ⊢
    have HM := Lib.hid hm; clear hm
    rcases ht with ⟨a, b, d, p, rfl, rfl, ha, hb⟩ | ⟨a, d, rfl, rfl, ha⟩
    · unfold fK at *
      have HA := Lib.hid ha; have HB := Lib.hid hb
      clear ha hb
      go_enter Try.func78, Try.ntmps78
      go_wp2_with fail
      have hi := ifn_any g c n l _ _ w H.out HT.out
      rw [HE.out, ← HM.out] at hi
      refine hi.mono ?_
      clear hi
      rintro e w1 ⟨rfl, b1⟩
      have hw1 : Way w w1 g c n l (isK d p) k (k + 1) l := ⟨H.out.below b1 hgl, rfl, HW0.out.kept, rfl, gof b1 _⟩
      clear b1
      have hk1 : ((k : Int) == -1) = false := by simp
      go_wp2_with fail
      go_loopw [5, 6] (fun vi vj wr => ∃ (i j : Nat) (L : List Ln), i < j ∧ j ≤ m ∧ vi = .int .i64 i ∧ vj = .int .i64 j ∧ Way w wr g c n l (isK d p) i j L) (fun _ j _ => m - (intOf j).toNat)
      case atStart => exact ⟨k, k + 1, l, by omega, by omega, rfl, by go_num, hw1⟩
      case round =>
        clear hw1 hk1
        obtain ⟨i, j, L, hij, hjm, rfl, rfl, hway⟩ := hrel
        by_cases hlt : j < m
        · have hjl : j < l.length := by rw [← HM.out]; exact hlt
          obtain ⟨hjL, hLj⟩ := hway.at_ hjl
          have hlL := hway.len
          rw [← HM.out] at hlL
          obtain ⟨c0, c1, c2, c3⟩ := hway.tab.at_ j hjL
          rw [hLj] at c0 c1 c2 c3
          have hgr := hway.tab.lt
          generalize hx : l[j] = x at *
          have HX := Lib.hid hx; clear hx hLj
          have HLL := Lib.hid hlL; clear hlL
          go_wp2_with fail
          clear c0 c1 c2 c3
          change Calls _ _ _ (wr.alloc (.cells (ints (ln4 x)).toArray 97)) _
          have hv : Blk (wr.alloc (.cells (ints (ln4 x)).toArray 97)) wr.heap.size 97 (ints (ln4 x)) := Blk.new _ _ _
          have hwv : Below wr.heap.size wr (wr.alloc (.cells (ints (ln4 x)).toArray 97)) := (Below.refl _ _).alloc (Nat.le_refl _) _
          generalize wr.alloc (.cells (ints (ln4 x)).toArray 97) = wv at *
          generalize hh : wr.heap.size = h at *
          refine (of1_any _ _ d p x _ (((HA.out.grown hway.gr (fun e => H.out.apart_int HA.out (by injection e with e; exact e.symm))).below hwv (by have := (HA.out.grown hway.gr (fun e => H.out.apart_int HA.out (by injection e with e; exact e.symm))).lt; omega)).cell 0) (((HB.out.grown hway.gr (fun e => H.out.apart_int HB.out (by injection e with e; exact e.symm))).below hwv (by have := (HB.out.grown hway.gr (fun e => H.out.apart_int HB.out (by injection e with e; exact e.symm))).lt; omega)).cell 0)).mono ?_
          rintro e w2 ⟨rfl, b2⟩
          have hv2 := hv.below b2 hv.lt
          have b2' : Below wr.heap.size wr w2 := by rw [hh]; exact Below.down hwv b2 (by have := hwv.size; omega)
          clear hv hwv b2
          cases hf : isK d p x with
          | true =>
            have HF := Lib.hid hf; clear hf
            have hw2 := hway.skip b2' hjl (by rw [HX.out]; exact HF.out)
            clear hway b2' hv2
            go_wp2_with fail
            go_roundw
            case rel => exact ⟨i, j + 1, L, by omega, by omega, rfl, by go_num, hw2⟩
            case measure => simp [intOf]; omega
          | false =>
            have HF := Lib.hid hf; clear hf
            have ht2 := hway.tab.below b2' hway.tab.lt
            obtain ⟨i0, i1, i2, i3⟩ := ht2.at_ i (by omega)
            have f0 := ht2.frozen (2 + i * 4)
            have f1 := ht2.frozen (2 + i * 4 + 1)
            have f2 := ht2.frozen (2 + i * 4 + 2)
            have f3 := ht2.frozen (2 + i * 4 + 3)
            have v0 := hv2.cell 0
            have v1 := hv2.cell 1
            have v2 := hv2.cell 2
            have v3 := hv2.cell 3
            simp only [ln4, ints, List.map_cons, List.getElem?_cons_zero, List.getElem?_cons_succ] at v0 v1 v2 v3
            clear hv2
            have ht3 := ht2.put4 i (by omega) x
            have hw3 := Way.keep (w1 := (((w2.setCell ⟨g, 2 + i * 4, none⟩ (.int .i64 x.d)).setCell ⟨g, 2 + i * 4 + 1, none⟩ (.int .i64 x.p)).setCell ⟨g, 2 + i * 4 + 2, none⟩ (.int .i64 x.f)).setCell ⟨g, 2 + i * 4 + 3, none⟩ (.int .i64 x.m)) hway hij hjl (by rw [HX.out]; exact HF.out) (by rw [HX.out]; exact ht3) (gtrans (gof b2' _) (setCells_grown w2 g _ _ _ _ rfl rfl rfl rfl _ _ _ _))
            clear hway ht2 ht3 b2'
            go_wp2_with fail
            go_roundw
            case rel => exact ⟨i + 1, j + 1, _, by omega, by omega, by go_num, by go_num, hw3⟩
            case measure => simp [intOf]; omega
        · have hjm' : j = l.length := by rw [← HM.out]; omega
          obtain ⟨w3, hc, h3, g3⟩ := hway.tab.cleared i (by rw [hway.len]; omega)
          obtain ⟨e1, e2⟩ := hway.all hij hjm'
          rw [hway.len, ← HM.out] at hc
          rw [e1] at h3
          have g3' := gtrans hway.gr g3
          have E2 := Lib.hid e2
          clear hjm' hway e1 e2 g3
          go_wp2_with fail
          go_ret
          exact ⟨by rw [← E2.out]; rfl, h3, g3'⟩
    · unfold fD at *
      have HA := Lib.hid ha
      clear ha
      go_enter Try.func78, Try.ntmps78
      go_wp2_with fail
      have hi := ifn_any g c n l _ _ w H.out HT.out
      rw [HE.out, ← HM.out] at hi
      refine hi.mono ?_
      clear hi
      rintro e w1 ⟨rfl, b1⟩
      have hw1 : Way w w1 g c n l (isD d) k (k + 1) l := ⟨H.out.below b1 hgl, rfl, HW0.out.kept, rfl, gof b1 _⟩
      clear b1
      have hk1 : ((k : Int) == -1) = false := by simp
      go_wp2_with fail
      go_loopw [5, 6] (fun vi vj wr => ∃ (i j : Nat) (L : List Ln), i < j ∧ j ≤ m ∧ vi = .int .i64 i ∧ vj = .int .i64 j ∧ Way w wr g c n l (isD d) i j L) (fun _ j _ => m - (intOf j).toNat)
      case atStart => exact ⟨k, k + 1, l, by omega, by omega, rfl, by go_num, hw1⟩
      case round =>
        clear hw1 hk1
        obtain ⟨i, j, L, hij, hjm, rfl, rfl, hway⟩ := hrel
        by_cases hlt : j < m
        · have hjl : j < l.length := by rw [← HM.out]; exact hlt
          obtain ⟨hjL, hLj⟩ := hway.at_ hjl
          have hlL := hway.len
          rw [← HM.out] at hlL
          obtain ⟨c0, c1, c2, c3⟩ := hway.tab.at_ j hjL
          rw [hLj] at c0 c1 c2 c3
          have hgr := hway.tab.lt
          generalize hx : l[j] = x at *
          have HX := Lib.hid hx; clear hx hLj
          have HLL := Lib.hid hlL; clear hlL
          go_wp2_with fail
          clear c0 c1 c2 c3
          change Calls _ _ _ (wr.alloc (.cells (ints (ln4 x)).toArray 97)) _
          have hv : Blk (wr.alloc (.cells (ints (ln4 x)).toArray 97)) wr.heap.size 97 (ints (ln4 x)) := Blk.new _ _ _
          have hwv : Below wr.heap.size wr (wr.alloc (.cells (ints (ln4 x)).toArray 97)) := (Below.refl _ _).alloc (Nat.le_refl _) _
          generalize wr.alloc (.cells (ints (ln4 x)).toArray 97) = wv at *
          generalize hh : wr.heap.size = h at *
          refine (all1_any _ d x _ (((HA.out.grown hway.gr (fun e => H.out.apart_int HA.out (by injection e with e; exact e.symm))).below hwv (by have := (HA.out.grown hway.gr (fun e => H.out.apart_int HA.out (by injection e with e; exact e.symm))).lt; omega)).cell 0)).mono ?_
          rintro e w2 ⟨rfl, b2⟩
          have hv2 := hv.below b2 hv.lt
          have b2' : Below wr.heap.size wr w2 := by rw [hh]; exact Below.down hwv b2 (by have := hwv.size; omega)
          clear hv hwv b2
          cases hf : isD d x with
          | true =>
            have HF := Lib.hid hf; clear hf
            have hw2 := hway.skip b2' hjl (by rw [HX.out]; exact HF.out)
            clear hway b2' hv2
            go_wp2_with fail
            go_roundw
            case rel => exact ⟨i, j + 1, L, by omega, by omega, rfl, by go_num, hw2⟩
            case measure => simp [intOf]; omega
          | false =>
            have HF := Lib.hid hf; clear hf
            have ht2 := hway.tab.below b2' hway.tab.lt
            obtain ⟨i0, i1, i2, i3⟩ := ht2.at_ i (by omega)
            have f0 := ht2.frozen (2 + i * 4)
            have f1 := ht2.frozen (2 + i * 4 + 1)
            have f2 := ht2.frozen (2 + i * 4 + 2)
            have f3 := ht2.frozen (2 + i * 4 + 3)
            have v0 := hv2.cell 0
            have v1 := hv2.cell 1
            have v2 := hv2.cell 2
            have v3 := hv2.cell 3
            simp only [ln4, ints, List.map_cons, List.getElem?_cons_zero, List.getElem?_cons_succ] at v0 v1 v2 v3
            clear hv2
            have ht3 := ht2.put4 i (by omega) x
            have hw3 := Way.keep (w1 := (((w2.setCell ⟨g, 2 + i * 4, none⟩ (.int .i64 x.d)).setCell ⟨g, 2 + i * 4 + 1, none⟩ (.int .i64 x.p)).setCell ⟨g, 2 + i * 4 + 2, none⟩ (.int .i64 x.f)).setCell ⟨g, 2 + i * 4 + 3, none⟩ (.int .i64 x.m)) hway hij hjl (by rw [HX.out]; exact HF.out) (by rw [HX.out]; exact ht3) (gtrans (gof b2' _) (setCells_grown w2 g _ _ _ _ rfl rfl rfl rfl _ _ _ _))
            clear hway ht2 ht3 b2'
            go_wp2_with fail
            go_roundw
            case rel => exact ⟨i + 1, j + 1, _, by omega, by omega, by go_num, by go_num, hw3⟩
            case measure => simp [intOf]; omega
        · have hjm' : j = l.length := by rw [← HM.out]; omega
          obtain ⟨w3, hc, h3, g3⟩ := hway.tab.cleared i (by rw [hway.len]; omega)
          obtain ⟨e1, e2⟩ := hway.all hij hjm'
          rw [hway.len, ← HM.out] at hc
          rw [e1] at h3
          have g3' := gtrans hway.gr g3
          have E2 := Lib.hid e2
          clear hjm' hway e1 e2 g3
          go_wp2_with fail
          go_ret
          exact ⟨by rw [← E2.out]; rfl, h3, g3'⟩

end Go.Proofs.Ytggdbiniklchoaa

namespace Go.Proofs.Ytggdbiniklchoaa
open Go.RowKit
set_option linter.unusedVariables false
set_option maxRecDepth 100000

theorem tnew_no (c : Int) (w : World) (h : ¬ (1 ≤ c ∧ c ≤ 16)) :
    Calls Try.prog 25 #[.int .i64 c] w fun e w' => e = .returned (.tuple #[.pointer none, .int .i64 600]) ∧ w = w' := by
  by_cases h1 : c < 1
  · clear h
    go_enter Try.func25, Try.ntmps25
    go_wp2
    go_ret2
    exact ⟨rfl, rfl⟩
  · have h2 : 16 < c := by omega
    clear h
    go_enter Try.func25, Try.ntmps25
    go_wp2
    go_ret2
    exact ⟨rfl, rfl⟩

/-- The cells of a new one: kept closed to the walk. -/
def zTlb : Array Value := (Value.int .i64 0 :: List.replicate 69 (Value.int .i64 0)).toArray
theorem zTlb_ne : ¬ (zTlb = #[]) := by simp [zTlb]
theorem zTlb_run (w : World) : Sem.run Try.prog (zeroValue 100) w = .ok (.agg zTlb) w := by
  have hi : (Try.prog.info? 100).map (fun i => i.zero) = some (some (.agg zTlb)) := by kernel_rfl
  cases h : Try.prog.info? 100 with
  | none => rw [h] at hi; cases hi
  | some i =>
    rw [h] at hi
    simp only [Option.map_some, Option.some.injEq] at hi
    simp [zeroValue, typeInfo, h, hi]
theorem zTlb_set (c : Int) : zTlb.setIfInBounds 0 (.int .i64 c) = (ints (c :: 0 :: (lns [] ++ List.replicate 68 0))).toArray := by
  simp [zTlb, ints, lns_nil]

theorem tnew_yes (c : Nat) (w : World) (h1 : 1 ≤ c) (h2 : c ≤ 16) :
    Calls Try.prog 25 #[.int .i64 c] w fun e w' => e = .returned (.tuple #[.pointer (some ⟨w.heap.size, 0, none⟩), .int .i64 0]) ∧ PT w' w.heap.size c 0 [] ∧ Below w.heap.size w w' := by
  have hz := zTlb_run
  have hne := zTlb_ne
  have h3 : decide ((c : Int) < 1) = false := by simp; omega
  have h4 : decide ((16 : Int) < c) = false := by simp; omega
  go_enter Try.func25, Try.ntmps25
  go_wp2
  go_ret2
  refine ⟨rfl, ?_, (Below.refl _ _).alloc (Nat.le_refl _) _⟩
  rw [zTlb_set]
  exact ⟨List.replicate 68 0, by simp, Blk.new _ _ _⟩

theorem tmB_eq (d p f m : Int) (h : 0 ≤ d ∧ d < 4 ∧ 0 ≤ p ∧ p < 256) : tmB d p f m = (eB f m && !(m == 0)) := by
  unfold tmB eB
  rw [Bool.eq_iff_iff]
  simp
  omega

theorem tmay_any (d p f m : Int) (w : World) :
    Calls Try.prog 83 #[.int .i64 d, .int .i64 p, .agg #[.int .i64 f, .int .i64 m]] w fun e w' => e = .returned (.bool (tmB d p f m)) ∧ Below w.heap.size w w' := by
  by_cases h1 : 0 ≤ d
  · by_cases h2 : d < 4
    · have h2' : decide (d < 4) = true := by simpa using h2
      by_cases h3 : 0 ≤ p
      · by_cases h4 : p < 256
        · have h4' : decide (p < 256) = true := by simpa using h4
          have HM := Lib.hid (tmB_eq d p f m ⟨h1, h2, h3, h4⟩)
          cases he : eB f m with
          | false =>
            have HE := Lib.hid he; clear he
            go_enter Try.func83, Try.ntmps83
            go_wp2_with fail
            refine (emay_any f m _).mono ?_
            rw [HE.out]
            rintro e w1 ⟨rfl, b1⟩
            go_wp2_with fail
            go_ret
            exact ⟨by rw [HM.out, HE.out]; rfl, Below.down ((Below.refl _ _).alloc (Nat.le_refl _) _) b1 (by simp)⟩
          | true =>
            have HE := Lib.hid he; clear he
            cases hm : (m == 0) with
            | true =>
              obtain rfl : m = 0 := by simpa using hm
              clear hm
              go_enter Try.func83, Try.ntmps83
              go_wp2_with fail
              refine (emay_any f 0 _).mono ?_
              rw [HE.out]
              rintro e w1 ⟨rfl, b1⟩
              obtain ⟨hc, hf⟩ := bcell b1
              go_wp2_with fail
              go_ret
              exact ⟨by rw [HM.out, HE.out]; rfl, Below.down ((Below.refl _ _).alloc (Nat.le_refl _) _) b1 (by simp)⟩
            | false =>
              have HM' : Hid (tmB d p f m = true) := Lib.hid (by rw [HM.out, HE.out, hm]; rfl)
              have hm' : (m != 0) = true := by simpa using hm
              go_enter Try.func83, Try.ntmps83
              go_wp2_with fail
              refine (emay_any f m _).mono ?_
              rw [HE.out]
              rintro e w1 ⟨rfl, b1⟩
              obtain ⟨hc, hf⟩ := bcell b1
              go_wp2_with fail
              go_ret
              exact ⟨by rw [HM'.out]; rfl, Below.down ((Below.refl _ _).alloc (Nat.le_refl _) _) b1 (by simp)⟩
        · have HM := Lib.hid (show tmB d p f m = false from decide_eq_false (by omega))
          have h4' : decide (p < 256) = false := by simp; omega
          go_enter Try.func83, Try.ntmps83
          go_wp2_with fail
          go_ret
          exact ⟨by rw [HM.out]; rfl, (Below.refl _ _).alloc (Nat.le_refl _) _⟩
      · have HM := Lib.hid (show tmB d p f m = false from decide_eq_false (by omega))
        have h3' : p < 0 := by omega
        go_enter Try.func83, Try.ntmps83
        go_wp2_with fail
        go_ret
        exact ⟨by rw [HM.out]; rfl, (Below.refl _ _).alloc (Nat.le_refl _) _⟩
    · have HM := Lib.hid (show tmB d p f m = false from decide_eq_false (by omega))
      have h2' : decide (d < 4) = false := by simp; omega
      go_enter Try.func83, Try.ntmps83
      go_wp2_with fail
      go_ret
      exact ⟨by rw [HM.out]; rfl, (Below.refl _ _).alloc (Nat.le_refl _) _⟩
  · have HM := Lib.hid (show tmB d p f m = false from decide_eq_false (by omega))
    have h1' : d < 0 := by omega
    go_enter Try.func83, Try.ntmps83
    go_wp2_with fail
    go_ret
    exact ⟨by rw [HM.out]; rfl, (Below.refl _ _).alloc (Nat.le_refl _) _⟩

end Go.Proofs.Ytggdbiniklchoaa

namespace Go.Proofs.Ytggdbiniklchoaa
open Go.RowKit
set_option linter.unusedVariables false
set_option maxRecDepth 100000

/-- Where a number leads: the line's entry, or none. -/
theorem get_none (l : List Ln) (d p : Int) (h : idx (isK d p) l = -1) : getF l d p = 0 ∧ getM l d p = 0 ∧ getB l d p = false := by
  simp [getF, getM, getB, h]
theorem get_some (l : List Ln) (d p : Int) (k : Nat) (hk : k < l.length) (h : idx (isK d p) l = (k : Int)) : getF l d p = l[k].f ∧ getM l d p = l[k].m ∧ getB l d p = true := by
  have h0 : ¬ ((k : Int) < 0) := by omega
  simp [getF, getM, getB, h, h0, hk]

/-- of: a test that the calls ask. -/
theorem of_tst (d p : Int) (w : World) :
    Calls Try.prog 65 #[.int .i64 d, .int .i64 p] w fun e w' => ∃ F, e = .returned F ∧ Tst w' F (isK d p) ∧ Below w.heap.size w w' := by
  refine (of_any d p w).mono ?_
  rintro e w' ⟨rfl, rfl⟩
  refine ⟨_, rfl, .inl ⟨_, _, d, p, rfl, rfl, (Blk.new w _ _).alloc _, ?_⟩, ((Below.refl _ _).alloc (Nat.le_refl _) _).alloc (by simp) _⟩
  have := Blk.new (w.alloc (Obj.cells [Value.int .i64 d].toArray 3)) 3 [Value.int .i64 p]
  simpa using this

set_option maxRecDepth 100000 in
theorem pget_any (g c : Nat) (l : List Ln) (d p : Int) (w : World) (h : PT w g c l.length l) :
    Calls Try.prog 68 #[.pointer (some ⟨g, 0, none⟩), .int .i64 d, .int .i64 p] w fun e w' => e = .returned (.tuple #[.agg #[.int .i64 (getF l d p), .int .i64 (getM l d p)], .bool (getB l d p)]) ∧ Below w.heap.size w w' := by
  have hlen := h.len
  have hgl := h.lt
  have H : Hid (PT w g c l.length l) := Lib.hid h
  clear h
  go_enter Try.func68, Try.ntmps68
  go_wp2_with fail
  change Calls _ _ _ (w.alloc (.cells (ints [0, 0]).toArray 46)) _
  have hv : Blk (w.alloc (.cells (ints [0, 0]).toArray 46)) w.heap.size 46 (ints [0, 0]) := Blk.new _ _ _
  have hwv : Below w.heap.size w (w.alloc (.cells (ints [0, 0]).toArray 46)) := (Below.refl _ _).alloc (Nat.le_refl _) _
  generalize w.alloc (.cells (ints [0, 0]).toArray 46) = wv at *
  generalize hh : w.heap.size = h at *
  have hwh : w.heap.size ≤ h := by omega
  have hhw : h ≤ w.heap.size := by omega
  have HH := Lib.hid hh; clear hh
  have hpt := H.out.below hwv hgl
  refine (prow_any g c l.length l _ hpt (by omega)).mono ?_
  rintro e w1 ⟨rfl, q, rfl⟩
  replace hv := hv.drewN q
  replace hwv := bdrewN hwv q
  replace hpt := hpt.drewN q
  generalize wv.drewN q = w1 at *
  go_wp2_with fail
  refine (of_tst d p _).mono ?_
  rintro e w2 ⟨F, rfl, ht, b2⟩
  replace hpt := hpt.below b2 hpt.lt
  replace hv := hv.below b2 hv.lt
  replace hwv := Below.down hwv b2 (by have := hwv.size; omega)
  clear b2
  go_wp2_with fail
  refine (ifn_any g c l.length l F _ w2 hpt ht).mono ?_
  rintro e w3 ⟨rfl, b3⟩
  replace hpt := hpt.below b3 hpt.lt
  replace hv := hv.below b3 hv.lt
  replace hwv := Below.down hwv b3 (by have := hwv.size; omega)
  clear b3 ht
  have v0 : w3.cell? ⟨h, 0, none⟩ = some (.int .i64 0) := by rw [hv.cell]; rfl
  have v1 : w3.cell? ⟨h, 1, none⟩ = some (.int .i64 0) := by rw [hv.cell]; rfl
  have f0 := hv.frozen 0
  have f1 := hv.frozen 1
  have hhl := hv.lt
  rcases idx_cases (isK d p) l with ⟨he, _⟩ | ⟨k, hk, he, _, _⟩
  · rw [he]
    have HG := Lib.hid (get_none l d p he); clear he
    go_wp2_with fail
    have hv2 := (hv.setInt 0 0).setInt 1 0
    have r0 := hv2.cell 0
    have r1 := hv2.cell 1
    simp only [ints, List.map_cons, List.set_cons_zero, List.set_cons_succ, List.getElem?_cons_zero, List.getElem?_cons_succ] at r0 r1
    have hb2 := (hwv.setCell (p := ⟨h, 0, none⟩) (Nat.le_refl _) (.int .i64 0)).setCell (p := ⟨h, 1, none⟩) (Nat.le_refl _) (.int .i64 0)
    rw [HG.out.1, HG.out.2.1, HG.out.2.2, HH.out]
    exact bodyPost_ret (v := .tuple #[.agg #[.int .i64 0, .int .i64 0], .bool false]) (by simp [results, Try.results68, go_sem, r0, r1]) rfl ⟨rfl, hb2⟩
  · rw [he]
    obtain ⟨g1, g2, g3⟩ := get_some l d p k hk he
    obtain ⟨c0, c1, c2, c3⟩ := hpt.at_ k hk
    generalize l[k] = x at *
    have G1 := Lib.hid g1; have G2 := Lib.hid g2; have G3 := Lib.hid g3; clear g1 g2 g3 he
    go_wp2_with fail
    have hv2 := (hv.setInt 0 x.f).setInt 1 x.m
    have r0 := hv2.cell 0
    have r1 := hv2.cell 1
    simp only [ints, List.map_cons, List.set_cons_zero, List.set_cons_succ, List.getElem?_cons_zero, List.getElem?_cons_succ] at r0 r1
    have hb2 := (hwv.setCell (p := ⟨h, 0, none⟩) (Nat.le_refl _) (.int .i64 x.f)).setCell (p := ⟨h, 1, none⟩) (Nat.le_refl _) (.int .i64 x.m)
    rw [G1.out, G2.out, G3.out, HH.out]
    exact bodyPost_ret (v := .tuple #[.agg #[.int .i64 x.f, .int .i64 x.m], .bool true]) (by simp [results, Try.results68, go_sem, r0, r1]) rfl ⟨rfl, hb2⟩

end Go.Proofs.Ytggdbiniklchoaa

namespace Go.Proofs.Ytggdbiniklchoaa
open Go.RowKit
set_option linter.unusedVariables false
set_option maxRecDepth 100000

set_option maxRecDepth 100000 in
theorem rem_any (g c : Nat) (l : List Ln) (F : Value) (f : Ln → Bool) (w : World) (h : PT w g c l.length l) (ht : Tst w F f) :
    Calls Try.prog 64 #[.pointer (some ⟨g, 0, none⟩), F] w fun e w' => e = .returned (.int .i64 ((l.length : Int) - ((l.filter fun x => !f x).length : Int))) ∧ PT w' g c (l.filter fun x => !f x).length (l.filter fun x => !f x) ∧ w.grownBy w' (some g) := by
  have hlen := h.len
  have hfl := List.length_filter_le (fun x => !f x) l
  have H : Hid (PT w g c l.length l) := Lib.hid h
  have HT := Lib.hid ht
  clear h ht
  go_enter Try.func64, Try.ntmps64
  go_wp2_with fail
  refine (prow_any g c l.length l _ H.out (by omega)).mono ?_
  rintro e w1 ⟨rfl, q, rfl⟩
  go_wp2_with fail
  refine (delf_any g c l.length l F f _ (H.out.drewN q) (HT.out.below (bdrewN (Below.refl _ _) q))).mono ?_
  rintro e w2 ⟨rfl, h2, g2⟩
  have g2' : w.grownBy w2 (some g) := gtrans (gdrewN (grefl w _) q) g2
  clear g2
  generalize hL : l.filter (fun x => !f x) = L at *
  have HL := Lib.hid hL; clear hL
  have hc := h2.count
  have hf := h2.frozen 1
  have h3 := h2.count_ L.length
  clear h2
  go_wp2_with fail
  go_ret
  rw [HL.out]
  exact ⟨rfl, h3, gset g2' (.inl rfl) _⟩

theorem filter_lt (l : List Ln) (f : Ln → Bool) : decide ((0 : Int) < (l.length : Int) - ((l.filter fun x => !f x).length : Int)) = decide (0 ≤ idx f l) := by
  rcases idx_cases f l with ⟨he, hall⟩ | ⟨k, hk, he, hy, _⟩
  · have e : l.filter (fun x => !f x) = l := by rw [List.filter_eq_self]; intro x hx; simp [hall x hx]
    rw [e, he]; simp
  · have : (l.filter fun x => !f x).length < l.length := by
      rcases Nat.lt_or_ge (l.filter fun x => !f x).length l.length with h | h
      · exact h
      · have e := List.length_filter_eq_length_iff.1 (show (l.filter fun x => !f x).length = l.length from Nat.le_antisymm (List.length_filter_le _ _) h)
        have := e l[k] (List.getElem_mem hk)
        simp [hy] at this
    rw [he, decide_eq_true (by omega), decide_eq_true (by omega)]

set_option maxRecDepth 100000 in
theorem pdrop_any (g c : Nat) (l : List Ln) (d p : Int) (w : World) (h : PT w g c l.length l) :
    Calls Try.prog 43 #[.pointer (some ⟨g, 0, none⟩), .int .i64 d, .int .i64 p] w fun e w' => e = .returned (.bool (getB l d p)) ∧ PT w' g c (l.filter fun x => !isK d p x).length (l.filter fun x => !isK d p x) ∧ w.grownBy w' (some g) := by
  have H : Hid (PT w g c l.length l) := Lib.hid h
  have HF := Lib.hid (filter_lt l (isK d p))
  clear h
  go_enter Try.func43, Try.ntmps43
  go_wp2_with fail
  refine (of_tst d p _).mono ?_
  rintro e w1 ⟨F, rfl, ht, b1⟩
  go_wp2_with fail
  refine (rem_any g c l F _ _ (H.out.below b1 H.out.lt) ht).mono ?_
  rintro e w2 ⟨rfl, h2, g2⟩
  have g2' : w.grownBy w2 (some g) := gtrans (gof b1 _) g2
  clear g2 b1 ht
  generalize hn : (l.length : Int) - ((l.filter fun x => !isK d p x).length : Int) = n at *
  clear hn
  go_wp2_with fail
  go_ret
  refine ⟨?_, h2, g2'⟩
  rw [getB, ← HF.out]
  rfl

set_option maxRecDepth 100000 in
theorem pall_any (g c : Nat) (l : List Ln) (d : Int) (w : World) (h : PT w g c l.length l) :
    Calls Try.prog 56 #[.pointer (some ⟨g, 0, none⟩), .int .i64 d] w fun e w' => e = .returned (.int .i64 ((l.length : Int) - ((l.filter fun x => !isD d x).length : Int))) ∧ PT w' g c (l.filter fun x => !isD d x).length (l.filter fun x => !isD d x) ∧ w.grownBy w' (some g) := by
  have H : Hid (PT w g c l.length l) := Lib.hid h
  clear h
  go_enter Try.func56, Try.ntmps56
  go_wp2_with fail
  change Calls _ _ _ (w.alloc (.cells [Value.int .i64 d].toArray 3)) _
  have b1 : Below w.heap.size w (w.alloc (.cells [Value.int .i64 d].toArray 3)) := (Below.refl _ _).alloc (Nat.le_refl _) _
  refine (rem_any g c l _ (isD d) _ (H.out.below b1 H.out.lt) (.inr ⟨w.heap.size, d, rfl, rfl, Blk.new _ _ _⟩)).mono ?_
  rintro e w2 ⟨rfl, h2, g2⟩
  have g2' : w.grownBy w2 (some g) := gtrans (gof b1 _) g2
  clear g2 b1
  go_wp2_with fail
  go_ret
  exact ⟨rfl, h2, g2'⟩

/-- What 'add' leaves. -/
def addL (c : Nat) (l : List Ln) (x : Ln) : List Ln := if c < l.length + 1 then (l ++ [x]).tail else l ++ [x]

set_option maxRecDepth 100000 in
theorem add_any (g c : Nat) (l : List Ln) (x : Ln) (w : World) (h : PT w g c l.length l) (h1 : 1 ≤ c) (h2 : c ≤ 16) (h3 : l.length ≤ c) :
    Calls Try.prog 84 #[.pointer (some ⟨g, 0, none⟩), .agg #[.int .i64 x.d, .int .i64 x.p, .int .i64 x.f, .int .i64 x.m]] w fun e w' => e = .returned (.tuple #[]) ∧ PT w' g c (addL c l x).length (addL c l x) ∧ w.grownBy w' (some g) := by
  have hgl := h.lt
  have H : Hid (PT w g c l.length l) := Lib.hid h
  obtain ⟨n, hn⟩ : ∃ n, n = l.length := ⟨_, rfl⟩
  rw [← hn] at h3
  have h17 : (n : Int) < 17 := by omega
  have HN := Lib.hid hn; clear hn h
  go_enter Try.func84, Try.ntmps84
  have hv : Blk (w.alloc (.cells (ints (ln4 x)).toArray 97)) w.heap.size 97 (ints (ln4 x)) := Blk.new _ _ _
  have b1 : Below w.heap.size w (w.alloc (.cells (ints (ln4 x)).toArray 97)) := (Below.refl _ _).alloc (Nat.le_refl _) _
  go_wp2_with fail
  change Code.wp _ _ _ _ (w.alloc (.cells (ints (ln4 x)).toArray 97))
  generalize w.alloc (.cells (ints (ln4 x)).toArray 97) = wa at *
  generalize hh : w.heap.size = h at *
  have hwh : w.heap.size ≤ h := by omega
  have HH := Lib.hid hh; clear hh
  have hta := H.out.below b1 hgl
  have hca := hta.count
  rw [← HN.out] at hca
  have htd : PT wa.drew g c l.length l := hta
  have v0 := hv.cell 0
  have v1 := hv.cell 1
  have v2 := hv.cell 2
  have v3 := hv.cell 3
  simp only [ln4, ints, List.map_cons, List.getElem?_cons_zero, List.getElem?_cons_succ] at v0 v1 v2 v3
  have ht2 := PT.put4_end (show PT wa.drew g c l.length l from hta) (by have := HN.out; omega) x
  rw [← HN.out] at ht2
  have g2 : w.grownBy ((((wa.drew.setCell ⟨g, 2 + n * 4, none⟩ (.int .i64 x.d)).setCell ⟨g, 2 + n * 4 + 1, none⟩ (.int .i64 x.p)).setCell ⟨g, 2 + n * 4 + 2, none⟩ (.int .i64 x.f)).setCell ⟨g, 2 + n * 4 + 3, none⟩ (.int .i64 x.m)) (some g) :=
    gtrans (show w.grownBy wa.drew (some g) from gof (show Below w.heap.size w wa.drew by rw [HH.out]; exact b1.drew) _) (setCells_grown wa.drew g _ _ _ _ rfl rfl rfl rfl _ _ _ _)
  clear hta hv b1
  go_still_tail 9, (by kernel_rfl)
  change wpList _ _ _ _ _ wa.drew
  generalize wa.drew = wd at *
  obtain ⟨u0, r0⟩ := htd.room (by have := HN.out; omega) 0 (by omega)
  obtain ⟨u1, r1⟩ := htd.room (by have := HN.out; omega) 1 (by omega)
  obtain ⟨u2, r2⟩ := htd.room (by have := HN.out; omega) 2 (by omega)
  obtain ⟨u3, r3⟩ := htd.room (by have := HN.out; omega) 3 (by omega)
  rw [← HN.out] at r0 r1 r2 r3
  have f0 := htd.frozen (2 + n * 4)
  have f1 := htd.frozen (2 + n * 4 + 1)
  have f2 := htd.frozen (2 + n * 4 + 2)
  have f3 := htd.frozen (2 + n * 4 + 3)
  simp only [Nat.add_zero] at r0
  clear htd v0 v1 v2 v3 hca
  have f4 := ht2.frozen 1
  have hc4 := ht2.count
  have h5 := ht2.count_ (n + 1)
  have g5 := gset g2 (p := ⟨g, 1, none⟩) (.inl rfl) (.int .i64 ((n + 1 : Nat) : Int))
  rw [show ((n + 1 : Nat) : Int) = (n : Int) + 1 by omega] at h5 g5
  clear ht2 g2
  go_wp2_with fail
  clear r0 r1 r2 r3 f0 f1 f2 f3 f4 hc4
  generalize World.setCell _ (⟨g, 1, none⟩ : Addr) (.int .i64 ((n : Int) + 1)) = w5 at *
  have hc5 := h5.count
  rw [show ((n + 1 : Nat) : Int) = (n : Int) + 1 by omega] at hc5
  have hs5 := h5.size
  by_cases hcn : c < n + 1
  · have hd : decide (c < n + 1) = true := by simpa using hcn
    obtain ⟨y, l', hl'⟩ : ∃ y l', l ++ [x] = y :: l' := by
      cases h0 : l ++ [x] with
      | nil => simp at h0
      | cons y l' => exact ⟨y, l', rfl⟩
    have hll : l'.length = n := by
      have := congrArg List.length hl'
      simp only [List.length_append, List.length_cons, List.length_nil] at this
      have := HN.out; omega
    have HA : Hid (addL c l x = l') := Lib.hid (by unfold addL; rw [← HN.out, if_pos hcn, hl']; rfl)
    rw [hl'] at h5
    clear hl'
    go_wp2_with fail
    go_quiet (fail)
    replace h5 := h5.drewN nq
    replace g5 := gdrewN g5 nq
    clear hc5 hs5
    generalize w5.drewN nq = w6 at *
    go_wp2_with fail
    refine (prow_any g c (n + 1) _ _ h5 (by omega)).mono ?_
    rintro e w7 ⟨rfl, q7, rfl⟩
    replace h5 := h5.drewN q7
    replace g5 := gdrewN g5 q7
    generalize w6.drewN q7 = w7 at *
    have hdel := del_any g c (n + 1) y l' w7 h5 (by omega)
    rw [hll] at hdel
    go_wp2_with fail
    refine hdel.mono ?_
    clear hdel
    rintro e w8 ⟨rfl, h8, g8⟩
    have g9 := gtrans g5 g8
    have hf8 := h8.frozen 1
    have hc8 := h8.count
    have h9 := h8.count_ n
    have g10 := gset g9 (p := ⟨g, 1, none⟩) (.inl rfl) (.int .i64 (n : Int))
    clear h8 g8 h5 g5 g9
    go_wp2_with fail
    go_end0
    rw [HA.out, hll]
    exact ⟨rfl, h9, g10⟩
  · have hd : decide (c < n + 1) = false := by simpa using hcn
    have HA : Hid (addL c l x = l ++ [x]) := Lib.hid (by unfold addL; rw [← HN.out, if_neg hcn])
    go_wp2_with fail
    go_quiet (fail)
    go_wp2_with fail
    go_end0
    rw [HA.out, List.length_append, ← HN.out]
    exact ⟨rfl, h5.drewN nq, gdrewN g5 nq⟩

/-- What a Put leaves, and what it answers. -/
def putA (c : Nat) (l : List Ln) (x : Ln) : List Ln := if tmB x.d x.p x.f x.m then putL c l x else l
def putC (x : Ln) : Int := if tmB x.d x.p x.f x.m then 0 else 600

set_option maxRecDepth 100000 in
theorem pput_any (g c : Nat) (l : List Ln) (d p f m : Int) (w : World) (h : PT w g c l.length l) (h1 : 1 ≤ c) (h2 : c ≤ 16) (h3 : l.length ≤ c) :
    Calls Try.prog 72 #[.pointer (some ⟨g, 0, none⟩), .int .i64 d, .int .i64 p, .agg #[.int .i64 f, .int .i64 m]] w fun e w' => e = .returned (.int .i64 (putC ⟨d, p, f, m⟩)) ∧ PT w' g c (putA c l ⟨d, p, f, m⟩).length (putA c l ⟨d, p, f, m⟩) ∧ w.grownBy w' (some g) := by
  have hgl := h.lt
  have H : Hid (PT w g c l.length l) := Lib.hid h
  clear h
  cases hm : tmB d p f m with
  | false =>
    have HM := Lib.hid hm
    have HA : Hid (putA c l ⟨d, p, f, m⟩ = l) := Lib.hid (by simp [putA, hm])
    have HC : Hid (putC ⟨d, p, f, m⟩ = 600) := Lib.hid (by simp [putC, hm])
    clear hm
    go_enter Try.func72, Try.ntmps72
    go_wp2_with fail
    refine (tmay_any d p f m _).mono ?_
    rw [HM.out]
    rintro e w1 ⟨rfl, b1⟩
    have b1' : Below w.heap.size w w1 := Below.down ((Below.refl _ _).alloc (Nat.le_refl _) _) b1 (by simp)
    clear b1
    go_wp2_with fail
    go_ret
    rw [HA.out, HC.out]
    exact ⟨rfl, H.out.below b1' hgl, gof b1' _⟩
  | true =>
    have HM := Lib.hid hm
    have HA : Hid (putA c l ⟨d, p, f, m⟩ = putL c l ⟨d, p, f, m⟩) := Lib.hid (by simp [putA, hm])
    have HC : Hid (putC ⟨d, p, f, m⟩ = 0) := Lib.hid (by simp [putC, hm])
    clear hm
    go_enter Try.func72, Try.ntmps72
    go_wp2_with fail
    change Calls _ _ _ (w.alloc (.cells (ints [f, m]).toArray 46)) _
    have hv : Blk (w.alloc (.cells (ints [f, m]).toArray 46)) w.heap.size 46 (ints [f, m]) := Blk.new _ _ _
    have hwv : Below w.heap.size w (w.alloc (.cells (ints [f, m]).toArray 46)) := (Below.refl _ _).alloc (Nat.le_refl _) _
    generalize w.alloc (.cells (ints [f, m]).toArray 46) = wv at *
    generalize hh : w.heap.size = h at *
    have hwh : w.heap.size ≤ h := by omega
    have hhw : h ≤ w.heap.size := by omega
    have HH := Lib.hid hh; clear hh
    refine (tmay_any d p f m _).mono ?_
    rw [HM.out]
    rintro e w1 ⟨rfl, b1⟩
    replace hv := hv.below b1 hv.lt
    replace hwv := Below.down hwv b1 (by have := hwv.size; omega)
    clear b1
    go_wp2_with fail
    refine (prow_any g c l.length l _ (H.out.below hwv hgl) (by have := H.out.len; omega)).mono ?_
    rintro e w2 ⟨rfl, q, rfl⟩
    replace hv := hv.drewN q
    replace hwv := bdrewN hwv q
    generalize w1.drewN q = w2 at *
    go_wp2_with fail
    refine (of_tst d p _).mono ?_
    rintro e w3 ⟨F, rfl, ht, b3⟩
    replace hv := hv.below b3 hv.lt
    replace hwv := Below.down hwv b3 (by have := hwv.size; omega)
    clear b3
    go_wp2_with fail
    refine (ifn_any g c l.length l F _ _ (H.out.below hwv hgl) ht).mono ?_
    rintro e w4 ⟨rfl, b4⟩
    replace hv := hv.below b4 hv.lt
    replace hwv := Below.down hwv b4 (by have := hwv.size; omega)
    clear b4 ht
    have hpt := H.out.below hwv hgl
    have g4 := gof (show Below w.heap.size w w4 by rw [HH.out]; exact hwv) (some g)
    have v0 := hv.cell 0
    have v1 := hv.cell 1
    simp only [ints, List.map_cons, List.getElem?_cons_zero, List.getElem?_cons_succ] at v0 v1
    clear hv hwv
    rcases idx_cases (isK d p) l with ⟨he, _⟩ | ⟨k, hk, he, hy, _⟩
    · rw [he]
      have HL : Hid (putL c l ⟨d, p, f, m⟩ = addL c l ⟨d, p, f, m⟩) := Lib.hid (by unfold putL addL; rw [he, if_neg (by omega)])
      clear he
      go_wp2_with fail
      refine (add_any g c l ⟨d, p, f, m⟩ w4 hpt h1 h2 h3).mono ?_
      rintro e w5 ⟨rfl, h5, g5⟩
      have g6 := gtrans g4 g5
      clear g4 g5 hpt v0 v1
      go_wp2_with fail
      go_ret
      rw [HA.out, HC.out, HL.out]
      exact ⟨rfl, h5, g6⟩
    · rw [he]
      have hyy := (isK_iff _ _ _).1 hy
      have HL : Hid (putL c l ⟨d, p, f, m⟩ = l.set k ⟨l[k].d, l[k].p, f, m⟩) := Lib.hid (by unfold putL; rw [he, if_pos (by omega), hyy.1, hyy.2]; rfl)
      clear he hyy hy
      obtain ⟨c0, c1, c2, c3⟩ := hpt.at_ k hk
      have f2 := hpt.frozen (2 + k * 4 + 2)
      have f3 := hpt.frozen (2 + k * 4 + 3)
      have h5 := hpt.put2 k hk f m
      have g5 := gset (gset g4 (p := ⟨g, 2 + k * 4 + 2, none⟩) (.inl rfl) (.int .i64 f)) (p := ⟨g, 2 + k * 4 + 3, none⟩) (.inl rfl) (.int .i64 m)
      have hdk : decide ((k : Int) < 0) = false := by simp
      clear c0 c1 hpt g4
      go_wp2_with fail
      go_ret
      rw [HA.out, HC.out, HL.out, List.length_set]
      exact ⟨rfl, h5, g5⟩

end Go.Proofs.Ytggdbiniklchoaa
