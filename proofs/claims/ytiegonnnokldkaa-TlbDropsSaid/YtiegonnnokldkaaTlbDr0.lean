/-
  Plain words for layer 6's law TlbDrops: a table of what is there beside the lines. No Go here.
-/
import Derived.Test.YtiegonnnokldkaaTlbOld0
namespace Go.Proofs.Ytiegonnnokldkaa
open Go.RowKit
set_option linter.unusedVariables false

/-- The cells of a table of two rows of eight. -/
def cellsF (F : Nat → Nat → Bool) : List Value := (List.range 16).map (fun i => Value.bool (F (i / 8) (i % 8)))
theorem cellsF_len (F : Nat → Nat → Bool) : (cellsF F).length = 16 := by simp [cellsF]
theorem cellsF_get (F : Nat → Nat → Bool) (d p : Nat) (hd : d < 2) (hp : p < 8) : (cellsF F)[d * 8 + p]? = some (.bool (F d p)) := by
  have h1 : (d * 8 + p) / 8 = d := by omega
  have h2 : (d * 8 + p) % 8 = p := by omega
  simp [cellsF, List.getElem?_range (show d * 8 + p < 16 by omega), h1, h2]
theorem cellsF_congr (F G : Nat → Nat → Bool) (h : ∀ d p, d < 2 → p < 8 → F d p = G d p) : cellsF F = cellsF G := by
  unfold cellsF
  apply List.map_congr_left
  intro i hi
  have := List.mem_range.1 hi
  rw [h _ _ (by omega) (by omega)]
/-- One of them turned. -/
def upd (F : Nat → Nat → Bool) (d p : Nat) (b : Bool) : Nat → Nat → Bool := fun d' p' => if d' = d ∧ p' = p then b else F d' p'
theorem cellsF_set (F : Nat → Nat → Bool) (d p : Nat) (b : Bool) (hd : d < 2) (hp : p < 8) : (cellsF F).set (d * 8 + p) (.bool b) = cellsF (upd F d p b) := by
  apply List.ext_getElem
  · simp [cellsF]
  · intro i h1 h2
    have hi : i < 16 := by simpa [cellsF] using h2
    rw [List.getElem_set]
    simp only [cellsF, List.getElem_map, List.getElem_range, upd]
    by_cases e : d * 8 + p = i
    · rw [if_pos e, if_pos (by omega)]
    · rw [if_neg e, if_neg (by omega)]

/-- The table says what is there. -/
def Fits (l : List Ln) (F : Nat → Nat → Bool) : Prop := ∀ d p : Nat, d < 2 → p < 8 → F d p = getB l d p
/-- The lines of this law. -/
def Keys (l : List Ln) : Prop := ∀ x ∈ l, (0 ≤ x.d ∧ x.d ≤ 1) ∧ (0 ≤ x.p ∧ x.p ≤ 7) ∧ x.f = x.p ∧ x.m = 1 + x.d

theorem getB_iff (l : List Ln) (d p : Int) : getB l d p = true ↔ ∃ x ∈ l, x.d = d ∧ x.p = p := by
  unfold getB
  rcases idx_cases (isK d p) l with ⟨he, hall⟩ | ⟨k, hk, he, hy, _⟩
  · rw [he]
    constructor
    · intro h; simp at h
    · rintro ⟨x, hx, h1⟩
      have := hall x hx
      rw [← Bool.not_eq_true, isK_iff] at this
      exact absurd h1 this
  · rw [he]
    exact ⟨fun _ => ⟨_, List.getElem_mem hk, (isK_iff _ _ _).1 hy⟩, fun _ => by simp⟩
theorem getB_eq (l l' : List Ln) (d p d' p' : Int) (h : (∃ x ∈ l, x.d = d ∧ x.p = p) ↔ (∃ x ∈ l', x.d = d' ∧ x.p = p')) : getB l d p = getB l' d' p' := by
  rw [Bool.eq_iff_iff, getB_iff, getB_iff]; exact h

/-! ### counts -/
/-- How many lines of a device there are of pages below k. -/
def cD (l : List Ln) (d : Int) (k : Nat) : Nat := l.countP (fun x => isD d x && decide (x.p < k))
/-- How many lines of devices below d. -/
def cS (l : List Ln) (d : Int) : Nat := l.countP (fun x => decide (x.d < d))

theorem countP_key (l : List Ln) (h : Uq l) (d p : Int) : l.countP (isK d p) = if getB l d p then 1 else 0 := by
  induction l with
  | nil => simp [getB, idx]
  | cons y l ih =>
    have hu : Uq l := by unfold Uq at *; exact (List.pairwise_cons.1 h).2
    have hy := (List.pairwise_cons.1 h).1
    have ih := ih hu
    rw [List.countP_cons]
    by_cases hk : isK d p y = true
    · have hn : getB l d p = false := by
        rw [← Bool.not_eq_true, getB_iff]
        rintro ⟨x, hx, e⟩
        have e2 := (isK_iff _ _ _).1 hk
        exact hy x hx ⟨e2.1.trans e.1.symm, e2.2.trans e.2.symm⟩
      have hp : getB (y :: l) d p = true := (getB_iff _ _ _).2 ⟨y, by simp, (isK_iff _ _ _).1 hk⟩
      rw [ih, hn, hp, if_pos hk]; simp
    · have he : getB (y :: l) d p = getB l d p := by
        rw [Bool.eq_iff_iff, getB_iff, getB_iff]
        constructor
        · rintro ⟨x, hx, e⟩
          rcases List.mem_cons.1 hx with rfl | hx
          · exact absurd ((isK_iff _ _ _).2 e) hk
          · exact ⟨x, hx, e⟩
        · rintro ⟨x, hx, e⟩; exact ⟨x, List.mem_cons_of_mem _ hx, e⟩
      rw [ih, he, if_neg hk]; simp
theorem cD_zero (l : List Ln) (d : Int) (h : Keys l) : cD l d 0 = 0 := by
  unfold cD
  rw [List.countP_eq_zero]
  intro x hx
  have := h x hx
  simp; intro _; omega
theorem cD_succ (l : List Ln) (hu : Uq l) (d : Int) (k : Nat) : cD l d (k + 1) = cD l d k + if getB l d k then 1 else 0 := by
  rw [← countP_key l hu]
  unfold cD
  clear hu
  induction l with
  | nil => simp
  | cons y l ih =>
    simp only [List.countP_cons, ih]
    have key : (if (isD d y && decide (y.p < ((k + 1 : Nat) : Int))) = true then 1 else 0) = (if (isD d y && decide (y.p < (k : Int))) = true then 1 else 0) + (if isK d (k : Int) y = true then 1 else 0) := by
      unfold isD isK
      by_cases h1 : y.d = d
      · by_cases h2 : y.p < (k : Int)
        · have h3 : ¬ y.p = (k : Int) := by omega
          have h4 : y.p < ((k + 1 : Nat) : Int) := by omega
          rw [decide_eq_true h2, decide_eq_true h4]
          simp [h1, h3]
        · by_cases h3 : y.p = (k : Int)
          · have h4 : y.p < ((k + 1 : Nat) : Int) := by omega
            rw [decide_eq_false h2, decide_eq_true h4]
            simp [h1, h3]
          · have h4 : ¬ y.p < ((k + 1 : Nat) : Int) := by omega
            rw [decide_eq_false h2, decide_eq_false h4]
            simp [h3]
      · simp [h1]
    rw [key]
    omega
theorem cD_le (l : List Ln) (d : Int) (k : Nat) : cD l d k ≤ l.length := List.countP_le_length
theorem cS_le (l : List Ln) (d : Int) : cS l d ≤ l.length := List.countP_le_length
theorem cD_all (l : List Ln) (h : Keys l) (d : Int) : cD l d 8 = l.countP (isD d) := by
  unfold cD
  apply List.countP_congr
  intro x hx
  have := h x hx
  simp [isD]; intro _; omega
theorem cD_drop (l : List Ln) (h : Keys l) (d : Int) : (l.length : Int) - ((l.filter fun x => !isD d x).length : Int) = (cD l d 8 : Nat) := by
  rw [cD_all l h d]
  have h1 := List.length_eq_countP_add_countP (isD d) (l := l)
  rw [← List.countP_eq_length_filter]
  have e : l.countP (fun x => !isD d x) = l.countP (fun x => decide ¬ isD d x = true) := by
    apply List.countP_congr; intro x _; simp
  rw [e]
  omega
theorem cS_zero (l : List Ln) (h : Keys l) : cS l 0 = 0 := by
  unfold cS
  rw [List.countP_eq_zero]
  intro x hx
  have := h x hx
  simp; omega
theorem cS_two (l : List Ln) (h : Keys l) : cS l 2 = l.length := by
  unfold cS
  rw [List.countP_eq_length]
  intro x hx
  have := h x hx
  simp; omega
theorem cS_succ (l : List Ln) (h : Keys l) (d : Int) : cS l (d + 1) = cS l d + cD l d 8 := by
  rw [cD_all l h d]
  unfold cS
  clear h
  induction l with
  | nil => simp
  | cons y l ih =>
    simp only [List.countP_cons, ih]
    have key : (if decide (y.d < d + 1) = true then 1 else 0) = (if decide (y.d < d) = true then 1 else 0) + (if isD d y = true then 1 else 0) := by
      unfold isD
      by_cases h1 : y.d < d
      · have h2 : y.d < d + 1 := by omega
        have h3 : ¬ y.d = d := by omega
        rw [decide_eq_true h1, decide_eq_true h2]
        simp [h3]
      · by_cases h3 : y.d = d
        · have h2 : y.d < d + 1 := by omega
          rw [decide_eq_false h1, decide_eq_true h2]
          simp [h3]
        · have h2 : ¬ y.d < d + 1 := by omega
          rw [decide_eq_false h1, decide_eq_false h2]
          simp [h3]
    rw [key]
    omega

/-- There are no more than sixteen of them. -/
theorem keys_len (l : List Ln) (hu : Uq l) (h : Keys l) : l.length ≤ 16 := by
  have h0 := cS_two l h
  have e1 := cS_succ l h 1
  have e0 := cS_succ l h 0
  have hz := cS_zero l h
  have b : ∀ d : Int, cD l d 8 ≤ 8 := by
    intro d
    have key : ∀ k : Nat, cD l d k ≤ k := by
      intro k
      induction k with
      | zero => rw [cD_zero l d h]; exact Nat.le_refl 0
      | succ k ih => rw [cD_succ l hu]; split <;> omega
    exact key 8
  have b0 := b 0
  have b1 := b 1
  rw [show (1 : Int) + 1 = 2 by rfl] at e1
  rw [show (0 : Int) + 1 = 1 by rfl] at e0
  omega

/-! ### what the calls turn -/
theorem put_dr (l : List Ln) (d p : Int) (hu : Uq l) (hk : Keys l) (hd : 0 ≤ d ∧ d ≤ 1) (hp : 0 ≤ p ∧ p ≤ 7) : Keys (putL 16 l ⟨d, p, p, 1 + d⟩) ∧ ∀ d' p' : Int, getB (putL 16 l ⟨d, p, p, 1 + d⟩) d' p' = (decide (d' = d ∧ p' = p) || getB l d' p') := by
  unfold putL
  rcases idx_cases (isK d p) l with ⟨he, hall⟩ | ⟨k, hkl, he, hy, _⟩
  · simp only [he]
    rw [if_neg (by omega)]
    have hu2 : Uq (l ++ [(⟨d, p, p, 1 + d⟩ : Ln)]) := hu.snoc _ hall
    have hk2 : Keys (l ++ [(⟨d, p, p, 1 + d⟩ : Ln)]) := by
      intro x hx
      rcases List.mem_append.1 hx with h | h
      · exact hk x h
      · simp only [List.mem_cons, List.not_mem_nil, or_false] at h; subst h; exact ⟨hd, hp, rfl, rfl⟩
    have hlen := keys_len _ hu2 hk2
    rw [List.length_append, List.length_singleton] at hlen
    rw [if_neg (by omega)]
    refine ⟨hk2, fun d' p' => ?_⟩
    rw [Bool.eq_iff_iff, Bool.or_eq_true, getB_iff, getB_iff, decide_eq_true_eq]
    constructor
    · rintro ⟨x, hx, e⟩
      rcases List.mem_append.1 hx with h | h
      · exact .inr ⟨x, h, e⟩
      · simp only [List.mem_cons, List.not_mem_nil, or_false] at h; subst h; exact .inl ⟨e.1.symm, e.2.symm⟩
    · rintro (⟨rfl, rfl⟩ | ⟨x, hx, e⟩)
      · exact ⟨_, List.mem_append_right _ (List.mem_cons_self ..), rfl, rfl⟩
      · exact ⟨x, List.mem_append_left _ hx, e⟩
  · simp only [he]
    rw [if_pos (by omega), Int.toNat_natCast]
    have e1 := (isK_iff _ _ _).1 hy
    refine ⟨?_, fun d' p' => ?_⟩
    · intro x hx
      rcases List.mem_or_eq_of_mem_set hx with h | h
      · exact hk x h
      · subst h; exact ⟨hd, hp, rfl, rfl⟩
    · rw [Bool.eq_iff_iff, Bool.or_eq_true, getB_iff, getB_iff, decide_eq_true_eq]
      constructor
      · rintro ⟨x, hx, e⟩
        rcases List.mem_or_eq_of_mem_set hx with h | h
        · exact .inr ⟨x, h, e⟩
        · subst h; exact .inl ⟨e.1.symm, e.2.symm⟩
      · rintro (⟨rfl, rfl⟩ | ⟨x, hx, e⟩)
        · exact ⟨_, List.mem_set hkl _, rfl, rfl⟩
        · obtain ⟨j, hj, rfl⟩ := List.getElem_of_mem hx
          by_cases hjk : k = j
          · subst hjk
            exact ⟨_, List.mem_set hkl _, e1.1.symm.trans e.1, e1.2.symm.trans e.2⟩
          · refine ⟨l[j], ?_, e⟩
            have : (l.set k ⟨d, p, p, 1 + d⟩)[j]'(by simpa using hj) = l[j] := by rw [List.getElem_set_ne hjk]
            rw [← this]; exact List.getElem_mem _
theorem Keys.filter {l : List Ln} (h : Keys l) (f : Ln → Bool) : Keys (l.filter f) := fun x hx => h x (List.mem_filter.1 hx).1
theorem getB_filter (l : List Ln) (f : Ln → Bool) (d p : Int) (b : Bool) (hf : ∀ x ∈ l, x.d = d → x.p = p → f x = b) : getB (l.filter f) d p = (getB l d p && b) := by
  rw [Bool.eq_iff_iff, Bool.and_eq_true, getB_iff, getB_iff]
  constructor
  · rintro ⟨x, hx, e⟩
    have h1 := List.mem_filter.1 hx
    exact ⟨⟨x, h1.1, e⟩, by rw [← hf x h1.1 e.1 e.2]; exact h1.2⟩
  · rintro ⟨⟨x, hx, e⟩, hb⟩
    exact ⟨x, List.mem_filter.2 ⟨hx, by rw [hf x hx e.1 e.2]; exact hb⟩, e⟩

end Go.Proofs.Ytiegonnnokldkaa
