/-
  Plain words for layer 10: windows (a partition, a beginning, a length, where it delivers), what a row of them is as cells, what the calls say of them. No Go function here.
-/
import Derived.Test.YtobpggpjboonfaaDoorMem
namespace Go.Proofs.YtobpggpjboonfaaDoor
open Go.RowKit
set_option linter.unusedVariables false
set_option maxRecDepth 100000

/-- A window. -/
structure Win where
  p : Int
  s : Int
  l : Int
  d : Int
instance : Inhabited Win := ⟨⟨0, 0, 0, 0⟩⟩

/-- A window's numbers. -/
def wd4 (x : Win) : List Int := [x.p, x.s, x.l, x.d]
/-- A row's numbers. -/
def wins (l : List Win) : List Int := l.flatMap wd4

theorem wins_nil : wins [] = [] := rfl
theorem wins_cons (x : Win) (l : List Win) : wins (x :: l) = x.p :: x.s :: x.l :: x.d :: wins l := by simp [wins, wd4]
theorem wins_append (l m : List Win) : wins (l ++ m) = wins l ++ wins m := by simp [wins, List.flatMap_append]
theorem wins_len (l : List Win) : (wins l).length = l.length * 4 := by
  induction l with
  | nil => rfl
  | cons x l ih => rw [wins_cons]; simp only [List.length_cons, ih]; omega
theorem wins_get (l : List Win) : ∀ i (h : i < l.length), (wins l)[i * 4]? = some l[i].p ∧ (wins l)[i * 4 + 1]? = some l[i].s ∧ (wins l)[i * 4 + 2]? = some l[i].l ∧ (wins l)[i * 4 + 3]? = some l[i].d := by
  induction l with
  | nil => intro i h; simp at h
  | cons x l ih =>
    intro i h
    match i with
    | 0 => rw [wins_cons]; simp
    | i + 1 =>
      have := ih i (by simpa using h)
      rw [wins_cons, show (i + 1) * 4 = i * 4 + 4 by omega]
      simpa using this
theorem wins_take (l : List Win) : ∀ k, (wins l).take (k * 4) = wins (l.take k) := by
  induction l with
  | nil => intro k; simp [wins_nil]
  | cons x l ih =>
    intro k
    match k with
    | 0 => simp [wins_nil]
    | k + 1 => rw [List.take_succ_cons, wins_cons, wins_cons, show (k + 1) * 4 = k * 4 + 4 by omega]; simp [ih]
/-- Any row of fours is one of windows. -/
theorem wins_of (n : Nat) : ∀ zs : List Int, zs.length = n * 4 → ∃ l : List Win, zs = wins l ∧ l.length = n := by
  induction n with
  | zero => intro zs h; exact ⟨[], List.length_eq_zero_iff.1 (by simpa using h), rfl⟩
  | succ n ih =>
    intro zs h
    match zs, h with
    | a :: b :: c :: d :: zs, h =>
      obtain ⟨l, rfl, hl⟩ := ih zs (by simp at h; omega)
      exact ⟨⟨a, b, c, d⟩ :: l, by rw [wins_cons], by simp [hl]⟩
    | [], h => simp at h
    | [_], h => simp at h; omega
    | [_, _], h => simp at h; omega
    | [_, _, _], h => simp at h; omega

/-- A window's numbers are ints. -/
def W64 (x : Win) : Prop := (-9223372036854775808 ≤ x.p ∧ x.p ≤ 9223372036854775807) ∧ (-9223372036854775808 ≤ x.s ∧ x.s ≤ 9223372036854775807) ∧ (-9223372036854775808 ≤ x.l ∧ x.l ≤ 9223372036854775807) ∧ (-9223372036854775808 ≤ x.d ∧ x.d ≤ 9223372036854775807)
theorem w64_of (l : List Win) (h : ∀ z ∈ wins l, -9223372036854775808 ≤ z ∧ z ≤ 9223372036854775807) : ∀ x ∈ l, W64 x := by
  intro x hx
  have : ∀ z ∈ wd4 x, z ∈ wins l := fun z hz => List.mem_flatMap.2 ⟨x, hx, hz⟩
  exact ⟨h _ (this _ (by simp [wd4])), h _ (this _ (by simp [wd4])), h _ (this _ (by simp [wd4])), h _ (this _ (by simp [wd4]))⟩

/-- A window's four cells in a slice that reads as a row. -/
theorem wd_at {w : World} {A : Option Addr} {n c : Nat} {l : List Win} (h : Sl w (.slice A n c) n 4 (ints (wins l))) (hl : l.length = n) (k : Nat) (hk : k < l.length) :
    ∃ b o, A = some ⟨b, o, none⟩ ∧ b < w.heap.size ∧ w.cell? ⟨b, o + k * 4, none⟩ = some (.int .i64 l[k].p) ∧ w.cell? ⟨b, o + k * 4 + 1, none⟩ = some (.int .i64 l[k].s) ∧ w.cell? ⟨b, o + k * 4 + 2, none⟩ = some (.int .i64 l[k].l) ∧ w.cell? ⟨b, o + k * 4 + 3, none⟩ = some (.int .i64 l[k].d) := by
  obtain ⟨A', c', e, _, hxl, hA⟩ := h
  simp only [Value.slice.injEq] at e
  obtain ⟨rfl, _, rfl⟩ := e
  obtain ⟨b, o, rfl, hb, hc⟩ := hA (by omega)
  have hg := wins_get l k hk
  have key : ∀ j x, (wins l)[k * 4 + j]? = some x → w.cell? ⟨b, o + k * 4 + j, none⟩ = some (.int .i64 x) := by
    intro j x hx
    have := hc (k * 4 + j) (.int .i64 x) (by simp [ints, hx])
    rw [← Nat.add_assoc] at this
    exact this
  exact ⟨b, o, rfl, hb, key 0 _ hg.1, key 1 _ hg.2.1, key 2 _ hg.2.2.1, key 3 _ hg.2.2.2⟩

/-- A slice's front. -/
theorem Sl.pre {w : World} {A : Option Addr} {n c k : Nat} {l : List Win} (h : Sl w (.slice A n c) n 4 (ints (wins l))) (hl : l.length = n) (hk : k ≤ n) : Sl w (.slice A k c) k 4 (ints (wins (l.take k))) := by
  obtain ⟨A', c', e, hc, hxl, hA⟩ := h
  simp only [Value.slice.injEq] at e
  obtain ⟨rfl, _, rfl⟩ := e
  refine ⟨A, c, rfl, by omega, by rw [ints_len, wins_len, List.length_take]; omega, fun h0 => ?_⟩
  obtain ⟨b, o, rfl, hb, hcell⟩ := hA (by omega)
  refine ⟨b, o, rfl, hb, fun j u hu => hcell j u ?_⟩
  rw [← wins_take] at hu
  simp only [ints, List.map_take] at hu
  rw [List.getElem?_take] at hu
  split at hu
  · exact hu
  · cases hu

/-! ### what the calls say -/
/-- A window fits into a major frame of m ticks, p partitions. -/
def fitW (x : Win) (m p : Int) : Bool := decide (0 ≤ x.p ∧ x.p < p ∧ 0 ≤ x.s ∧ 1 ≤ x.l ∧ x.s + x.l ≤ m ∧ x.s ≤ x.d ∧ x.d < x.s + x.l)
/-- Two windows have an offset in common. -/
def metB (x o : Win) : Bool := decide (x.s < o.s + o.l ∧ o.s < x.s + x.l)
/-- The k-th window fits, and meets none ahead of it. -/
def okB (l : List Win) (m p : Int) (k : Nat) : Bool := match l[k]? with
  | some x => fitW x m p && !(l.take k).any (metB x)
  | none => false
/-- The numbers that the calls test first. -/
def headB (n : Nat) (m p : Int) : Bool := decide (1 ≤ m ∧ m ≤ 64 ∧ 1 ≤ p ∧ p ≤ 4 ∧ 1 ≤ n ∧ n ≤ 8)
/-- Windows may be. -/
def mayW (l : List Win) (m p : Int) : Bool := headB l.length m p && (List.range l.length).all (okB l m p)
/-- .. and a tick is one. -/
def askW (l : List Win) (m t : Int) : Bool := decide (0 ≤ t ∧ t ≤ 1048575) && mayW l m 4
/-- Whose Deliver is so. -/
def dlv (l : List Win) (o : Int) : Int := match l.find? (fun x => decide (x.d = o)) with
  | some x => x.p
  | none => -1
/-- Whose Start is so. -/
def opn (l : List Win) (o : Int) : Int := match l.find? (fun x => decide (x.s = o)) with
  | some x => x.p
  | none => -1
def dlvN (l : List Win) (m t : Int) : Int := if askW l m t then dlv l (t % m) else -1
def opnN (l : List Win) (m t : Int) : Int := if askW l m t then opn l (t % m) else -1
/-- How long p waits from offset o on; m: there is no window of it. -/
def wtW : List Win → Int → Int → Int → Int → Int
  | [], _, _, _, a => a
  | x :: l, p, m, o, a => wtW l p m o (if x.p = p then (if (x.d - o + m) % m < a then (x.d - o + m) % m else a) else a)
def nxtN (l : List Win) (m p t : Int) : Int := if askW l m t && decide (wtW l p m (t % m) m ≠ m) then t + wtW l p m (t % m) m else 0
def nxtC (l : List Win) (m p t : Int) : Int := if askW l m t && decide (wtW l p m (t % m) m ≠ m) then 0 else 1000

theorem mayW_head {l : List Win} {m p : Int} (h : headB l.length m p = false) : mayW l m p = false := by unfold mayW; rw [h]; rfl
theorem mayW_no {l : List Win} {m p : Int} {k : Nat} (hk : k < l.length) (h : okB l m p k = false) : mayW l m p = false := by
  unfold mayW
  rw [Bool.and_eq_false_iff]
  right
  rw [List.all_eq_false]
  exact ⟨k, by simpa using hk, by simp [h]⟩
theorem mayW_yes {l : List Win} {m p : Int} (hh : headB l.length m p = true) (h : ∀ k, k < l.length → okB l m p k = true) : mayW l m p = true := by
  unfold mayW
  rw [hh, Bool.true_and, List.all_eq_true]
  intro k hk
  exact h k (by simpa using hk)
theorem mayW_all {l : List Win} {m p : Int} (h : mayW l m p = true) : (1 ≤ m ∧ m ≤ 64 ∧ 1 ≤ p ∧ p ≤ 4 ∧ 1 ≤ l.length ∧ l.length ≤ 8) ∧ ∀ k (hk : k < l.length), fitW l[k] m p = true ∧ (l.take k).any (metB l[k]) = false := by
  unfold mayW headB at h
  rw [Bool.and_eq_true, decide_eq_true_eq, List.all_eq_true] at h
  refine ⟨h.1, fun k hk => ?_⟩
  have := h.2 k (by simpa using hk)
  unfold okB at this
  rw [List.getElem?_eq_getElem hk] at this
  simpa using this
theorem ok_no_fit {l : List Win} {m p : Int} {k : Nat} (hk : k < l.length) (h : fitW l[k] m p = false) : okB l m p k = false := by
  unfold okB; rw [List.getElem?_eq_getElem hk]; simp [h]
theorem ok_meets {l : List Win} {m p : Int} {k : Nat} (hk : k < l.length) (h : (l.take k).any (metB l[k]) = true) : okB l m p k = false := by
  unfold okB; rw [List.getElem?_eq_getElem hk]; simp only [h]; simp
theorem ok_yes {l : List Win} {m p : Int} {k : Nat} (hk : k < l.length) (h : fitW l[k] m p = true) (h' : (l.take k).any (metB l[k]) = false) : okB l m p k = true := by
  unfold okB; rw [List.getElem?_eq_getElem hk]; simp only [h, h']; rfl
theorem ok_fit {l : List Win} {m p : Int} {k : Nat} (hk : k < l.length) (h : okB l m p k = true) : fitW l[k] m p = true := by
  unfold okB at h; rw [List.getElem?_eq_getElem hk] at h; simp at h; exact h.1

/-- The ways of a test of one window. -/
theorem fit_parts (x : Win) (m p : Int) : fitW x m p = true ∧ 0 ≤ x.p ∧ x.p < p ∧ 0 ≤ x.s ∧ 1 ≤ x.l ∧ x.l ≤ m - x.s ∧ x.s ≤ x.d ∧ x.d - x.s < x.l ∨
    fitW x m p = false ∧ (x.p < 0 ∨ 0 ≤ x.p ∧ p ≤ x.p ∨ 0 ≤ x.p ∧ x.p < p ∧ x.s < 0 ∨ 0 ≤ x.p ∧ x.p < p ∧ 0 ≤ x.s ∧ x.l < 1 ∨ 0 ≤ x.p ∧ x.p < p ∧ 0 ≤ x.s ∧ 1 ≤ x.l ∧ m - x.s < x.l ∨ 0 ≤ x.p ∧ x.p < p ∧ 0 ≤ x.s ∧ 1 ≤ x.l ∧ x.l ≤ m - x.s ∧ x.d < x.s ∨ 0 ≤ x.p ∧ x.p < p ∧ 0 ≤ x.s ∧ 1 ≤ x.l ∧ x.l ≤ m - x.s ∧ x.s ≤ x.d ∧ x.l ≤ x.d - x.s) := by
  by_cases h : 0 ≤ x.p ∧ x.p < p ∧ 0 ≤ x.s ∧ 1 ≤ x.l ∧ x.s + x.l ≤ m ∧ x.s ≤ x.d ∧ x.d < x.s + x.l
  · exact .inl ⟨decide_eq_true h, by omega⟩
  · refine .inr ⟨decide_eq_false h, ?_⟩
    omega
theorem fit_of {x : Win} {m p : Int} (h : fitW x m p = true) : 0 ≤ x.p ∧ x.p < p ∧ 0 ≤ x.s ∧ 1 ≤ x.l ∧ x.s + x.l ≤ m ∧ x.s ≤ x.d ∧ x.d < x.s + x.l := of_decide_eq_true h

theorem dlv_some {l : List Win} {o : Int} {k : Nat} (hk : k < l.length) (h : l[k].d = o) (hall : ∀ j (hj : j < k) (hj' : j < l.length), l[j].d ≠ o) : dlv l o = l[k].p := by
  induction l generalizing k with
  | nil => simp at hk
  | cons x l ih =>
    unfold dlv
    match k with
    | 0 =>
      simp only [List.getElem_cons_zero] at h ⊢
      rw [List.find?_cons_of_pos (by simp [h])]
    | k + 1 =>
      have h0 := hall 0 (by omega) (by simp)
      simp only [List.getElem_cons_zero] at h0
      rw [List.find?_cons_of_neg (by simp [h0])]
      exact ih (k := k) (by simpa using hk) (by simpa using h) (fun j hj hj' => by have := hall (j + 1) (by omega) (by simpa using hj'); simpa using this)
theorem dlv_none {l : List Win} {o : Int} (hall : ∀ j (hj : j < l.length), l[j].d ≠ o) : dlv l o = -1 := by
  unfold dlv
  rw [List.find?_eq_none.2 (fun x hx => by obtain ⟨j, hj, rfl⟩ := List.getElem_of_mem hx; simp [hall j hj])]
theorem opn_some {l : List Win} {o : Int} {k : Nat} (hk : k < l.length) (h : l[k].s = o) (hall : ∀ j (hj : j < k) (hj' : j < l.length), l[j].s ≠ o) : opn l o = l[k].p := by
  induction l generalizing k with
  | nil => simp at hk
  | cons x l ih =>
    unfold opn
    match k with
    | 0 =>
      simp only [List.getElem_cons_zero] at h ⊢
      rw [List.find?_cons_of_pos (by simp [h])]
    | k + 1 =>
      have h0 := hall 0 (by omega) (by simp)
      simp only [List.getElem_cons_zero] at h0
      rw [List.find?_cons_of_neg (by simp [h0])]
      exact ih (k := k) (by simpa using hk) (by simpa using h) (fun j hj hj' => by have := hall (j + 1) (by omega) (by simpa using hj'); simpa using this)
theorem opn_none {l : List Win} {o : Int} (hall : ∀ j (hj : j < l.length), l[j].s ≠ o) : opn l o = -1 := by
  unfold opn
  rw [List.find?_eq_none.2 (fun x hx => by obtain ⟨j, hj, rfl⟩ := List.getElem_of_mem hx; simp [hall j hj])]

theorem wt_append (l q : List Win) (p m o a : Int) : wtW (l ++ q) p m o a = wtW q p m o (wtW l p m o a) := by
  induction l generalizing a with
  | nil => rfl
  | cons x l ih => exact ih _
theorem wt_take (l : List Win) (p m o a : Int) (k : Nat) (hk : k < l.length) : wtW (l.take (k + 1)) p m o a = if l[k].p = p then (if (l[k].d - o + m) % m < wtW (l.take k) p m o a then (l[k].d - o + m) % m else wtW (l.take k) p m o a) else wtW (l.take k) p m o a := by
  rw [List.take_add_one, List.getElem?_eq_getElem hk, wt_append]
  rfl
theorem wt_le (l : List Win) (p m o a : Int) : wtW l p m o a ≤ a := by
  induction l generalizing a with
  | nil => exact Int.le_refl _
  | cons x l ih =>
    refine Int.le_trans (ih _) ?_
    split
    · split <;> omega
    · exact Int.le_refl _
theorem wt_nonneg (l : List Win) (p m o a : Int) (hm : 0 < m) (ha : 0 ≤ a) : 0 ≤ wtW l p m o a := by
  induction l generalizing a with
  | nil => exact ha
  | cons x l ih =>
    refine ih _ ?_
    have := Int.emod_nonneg (x.d - o + m) (show m ≠ 0 by omega)
    split
    · split <;> omega
    · exact ha

/-- Which offsets windows hold. -/
def used (l : List Win) (j : Nat) : Bool := l.any fun x => decide (x.s ≤ j ∧ (j : Int) < x.s + x.l)
theorem used_meets {l : List Win} {x : Win} {j : Nat} (h : used l j = true) (h1 : x.s ≤ j) (h2 : (j : Int) < x.s + x.l) : l.any (metB x) = true := by
  unfold used at h
  rw [List.any_eq_true] at h ⊢
  obtain ⟨y, hy, hd⟩ := h
  have := of_decide_eq_true hd
  exact ⟨y, hy, decide_eq_true (by omega)⟩
theorem meets_used {l : List Win} {x : Win} (h0 : 0 ≤ x.s) (hx : 1 ≤ x.l) (hl : ∀ y ∈ l, 0 ≤ y.s ∧ 1 ≤ y.l) (h : ∀ j : Nat, x.s ≤ j → (j : Int) < x.s + x.l → used l j = false) : l.any (metB x) = false := by
  rw [List.any_eq_false]
  intro y hy hm
  have := of_decide_eq_true hm
  have hy' := hl y hy
  have key := h (max x.s y.s).toNat (by omega) (by omega)
  unfold used at key
  rw [List.any_eq_false] at key
  exact key y hy (by simp only [decide_eq_true_eq]; omega)
theorem used_snoc (l : List Win) (x : Win) (j : Nat) : used (l ++ [x]) j = (used l j || decide (x.s ≤ j ∧ (j : Int) < x.s + x.l)) := by
  unfold used; simp

end Go.Proofs.YtobpggpjboonfaaDoor
