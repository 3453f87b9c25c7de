/-
  Plain words for layer 9: which labels may be, which dominates which, the join of two. No Go here.
-/
import Derived.Test.YtobpggpjboonfaaDoorPlain
namespace Go.Proofs.YtobpggpjboonfaaDoor
open Go.RowKit
set_option linter.unusedVariables false
set_option maxRecDepth 100000

/-- May a label be? -/
def lB (l c : Int) : Bool := decide (0 ≤ l ∧ l ≤ 3 ∧ 0 ≤ c ∧ c ≤ 15)
/-- Has c each bit of c'? -/
def hasB (c c' : Int) : Bool := decide (c.toNat ||| c'.toNat = c.toNat)
/-- Does the first label dominate the second? -/
def lD (l c l' c' : Int) : Bool := lB l c && lB l' c' && decide (l' ≤ l) && hasB c c'
/-- The greater level, the bits of both. -/
def mxL (l l' : Int) : Int := if l' > l then l' else l
def orC (c c' : Int) : Int := ((c.toNat ||| c'.toNat : Nat) : Int)
/-- The join of two labels and the number of its error. -/
def jL (l c l' c' : Int) : Int := if (lB l c && lB l' c') = true then mxL l l' else 0
def jC (l c l' c' : Int) : Int := if (lB l c && lB l' c') = true then orC c c' else 0
def jE (l c l' c' : Int) : Int := if (lB l c && lB l' c') = true then 0 else 900

theorem lB_yes (l c : Int) (h0 : 0 ≤ l) (h1 : l ≤ 3) (h2 : 0 ≤ c) (h3 : c ≤ 15) : lB l c = true := decide_eq_true ⟨h0, h1, h2, h3⟩
theorem lB_no (l c : Int) (h : ¬ (0 ≤ l ∧ l ≤ 3 ∧ 0 ≤ c ∧ c ≤ 15)) : lB l c = false := decide_eq_false h
theorem lB_of {l c : Int} (h : lB l c = true) : 0 ≤ l ∧ l ≤ 3 ∧ 0 ≤ c ∧ c ≤ 15 := of_decide_eq_true h

theorem bits9 : ∀ a b : Fin 16, (bits BinOp.andNot IntKind.i64 (b.val : Int) (a.val : Int) == 0) = decide (a.val ||| b.val = a.val) ∧ (bits BinOp.and IntKind.i64 (a.val : Int) (b.val : Int) == (b.val : Int)) = decide (a.val ||| b.val = a.val) ∧
    bits BinOp.or IntKind.i64 (a.val : Int) (b.val : Int) = ((a.val ||| b.val : Nat) : Int) ∧ a.val ||| b.val < 16 := by decide +kernel
theorem bits_has (c c' : Int) (h0 : 0 ≤ c) (h1 : c ≤ 15) (h2 : 0 ≤ c') (h3 : c' ≤ 15) : (bits BinOp.andNot IntKind.i64 c' c == 0) = hasB c c' ∧ (bits BinOp.and IntKind.i64 c c' == c') = hasB c c' ∧ bits BinOp.or IntKind.i64 c c' = orC c c' := by
  obtain ⟨c, rfl⟩ := Int.eq_ofNat_of_zero_le h0
  obtain ⟨c', rfl⟩ := Int.eq_ofNat_of_zero_le h2
  have := bits9 ⟨c, by omega⟩ ⟨c', by omega⟩
  exact ⟨this.1, this.2.1, this.2.2.1⟩
theorem orC_range (c c' : Int) (h0 : 0 ≤ c) (h1 : c ≤ 15) (h2 : 0 ≤ c') (h3 : c' ≤ 15) : 0 ≤ orC c c' ∧ orC c c' ≤ 15 := by
  obtain ⟨c, rfl⟩ := Int.eq_ofNat_of_zero_le h0
  obtain ⟨c', rfl⟩ := Int.eq_ofNat_of_zero_le h2
  have := (bits9 ⟨c, by omega⟩ ⟨c', by omega⟩).2.2.2
  simp only [orC, Int.toNat_natCast]
  simp only at this
  omega
theorem mxL_range (l l' : Int) (h0 : 0 ≤ l) (h1 : l ≤ 3) (h2 : 0 ≤ l') (h3 : l' ≤ 3) : 0 ≤ mxL l l' ∧ mxL l l' ≤ 3 := by unfold mxL; split <;> omega

/-! ### dominance and joins of labels that may be -/
theorem orC_comm (c c' : Int) : orC c c' = orC c' c := by unfold orC; rw [Nat.or_comm]
theorem orC_assoc (a b c : Int) : orC (orC a b) c = orC a (orC b c) := by simp only [orC, Int.toNat_natCast, Nat.or_assoc]
theorem orC_self (c : Int) (h : 0 ≤ c) : orC c c = c := by unfold orC; rw [Nat.or_self]; omega
theorem mxL_comm (l l' : Int) : mxL l l' = mxL l' l := by unfold mxL; split <;> split <;> omega
theorem mxL_assoc (a b c : Int) : mxL (mxL a b) c = mxL a (mxL b c) := by unfold mxL; repeat' split <;> try omega
theorem mxL_self (l : Int) : mxL l l = l := by unfold mxL; split <;> omega
theorem hasB_iff (c c' : Int) (h : 0 ≤ c) : hasB c c' = true ↔ orC c c' = c := by
  unfold hasB orC
  rw [decide_eq_true_iff]
  omega
theorem lD_yes (l c l' c' : Int) (h : lB l c = true) (h' : lB l' c' = true) : lD l c l' c' = true ↔ l' ≤ l ∧ orC c c' = c := by
  unfold lD
  rw [h, h', Bool.true_and, Bool.true_and, Bool.and_eq_true, decide_eq_true_iff, hasB_iff _ _ (lB_of h).2.2.1]
theorem lD_no (l c l' c' : Int) (h : lB l c = false ∨ lB l' c' = false) : lD l c l' c' = false := by
  unfold lD
  rcases h with h | h <;> rw [h] <;> simp
theorem join_yes (l c l' c' : Int) (h : lB l c = true) (h' : lB l' c' = true) : jL l c l' c' = mxL l l' ∧ jC l c l' c' = orC c c' ∧ jE l c l' c' = 0 := by
  unfold jL jC jE
  rw [h, h']
  exact ⟨rfl, rfl, rfl⟩
theorem join_no (l c l' c' : Int) (h : lB l c = false ∨ lB l' c' = false) : jL l c l' c' = 0 ∧ jC l c l' c' = 0 ∧ jE l c l' c' = 900 := by
  unfold jL jC jE
  rcases h with h | h <;> rw [h] <;> simp
theorem join_may (l c l' c' : Int) (h : lB l c = true) (h' : lB l' c' = true) : lB (mxL l l') (orC c c') = true := by
  have a := lB_of h
  have b := lB_of h'
  have := mxL_range l l' (by omega) (by omega) (by omega) (by omega)
  have := orC_range c c' (by omega) (by omega) (by omega) (by omega)
  exact lB_yes _ _ (by omega) (by omega) (by omega) (by omega)

/-- All that an order's law asks of three labels that may be, j the join of the first two. -/
theorem orC_absorb (a b : Int) : orC (orC a b) a = orC a b := by
  rw [orC_comm (orC a b) a, ← orC_assoc]
  unfold orC
  simp only [Nat.or_self, Int.toNat_natCast]
theorem lD_up (a b c d : Int) (h : lB a b = true) (h' : lB c d = true) : lD (mxL a c) (orC b d) a b = true ∧ lD (mxL a c) (orC b d) c d = true := by
  have hj := join_may a b c d h h'
  constructor
  · rw [lD_yes _ _ _ _ hj h]
    exact ⟨by unfold mxL; split <;> omega, orC_absorb b d⟩
  · rw [lD_yes _ _ _ _ hj h']
    refine ⟨by unfold mxL; split <;> omega, ?_⟩
    rw [orC_comm b d]
    exact orC_absorb d b
theorem lD_refl (a b : Int) (h : lB a b = true) : lD a b a b = true := by
  rw [lD_yes _ _ _ _ h h]
  exact ⟨Int.le_refl _, orC_self _ (lB_of h).2.2.1⟩
theorem lD_trans (a b c d e f : Int) (h1 : lB a b = true) (h2 : lB c d = true) (h3 : lB e f = true) (p : lD a b c d = true) (q : lD c d e f = true) : lD a b e f = true := by
  rw [lD_yes _ _ _ _ h1 h2] at p
  rw [lD_yes _ _ _ _ h2 h3] at q
  rw [lD_yes _ _ _ _ h1 h3]
  refine ⟨by omega, ?_⟩
  conv => lhs; rw [← p.2]
  rw [orC_assoc, q.2, p.2]
theorem lD_anti (a b c d : Int) (h1 : lB a b = true) (h2 : lB c d = true) (p : lD a b c d = true) (q : lD c d a b = true) : a = c ∧ b = d := by
  rw [lD_yes _ _ _ _ h1 h2] at p
  rw [lD_yes _ _ _ _ h2 h1] at q
  exact ⟨by omega, by rw [← p.2, orC_comm, q.2]⟩
theorem lD_least (a b c d e f : Int) (h1 : lB a b = true) (h2 : lB c d = true) (h3 : lB e f = true) : (lD e f a b && lD e f c d) = lD e f (mxL a c) (orC b d) := by
  have hj := join_may a b c d h1 h2
  rw [Bool.eq_iff_iff, Bool.and_eq_true, lD_yes _ _ _ _ h3 h1, lD_yes _ _ _ _ h3 h2, lD_yes _ _ _ _ h3 hj]
  constructor
  · rintro ⟨⟨p1, p2⟩, q1, q2⟩
    exact ⟨by unfold mxL; split <;> omega, by rw [← orC_assoc, p2, q2]⟩
  · rintro ⟨p1, p2⟩
    have p3 : a ≤ e ∧ c ≤ e := by unfold mxL at p1; split at p1 <;> omega
    refine ⟨⟨p3.1, ?_⟩, p3.2, ?_⟩
    · conv => lhs; rw [← p2]
      rw [orC_assoc, orC_absorb, p2]
    · conv => lhs; rw [← p2]
      rw [orC_assoc, orC_comm b d, orC_absorb, orC_comm d b, p2]
theorem lD_join (a b c d : Int) (h1 : lB a b = true) (h2 : lB c d = true) : lD a b c d = true ↔ mxL a c = a ∧ orC b d = b := by
  rw [lD_yes _ _ _ _ h1 h2]
  unfold mxL
  constructor
  · rintro ⟨p, q⟩
    exact ⟨by rw [if_neg (by omega)], q⟩
  · rintro ⟨p, q⟩
    exact ⟨by split at p <;> omega, q⟩

structure Lat3 (A B C D F H J K : Int) : Prop where
  up1 : lD J K A B = true
  up2 : lD J K C D = true
  same : lD A B A B = true
  trans : (lD A B C D = true → lD C D F H = true → lD A B F H = true)
  anti : (lD A B C D = true → lD C D A B = true → A = C ∧ B = D)
  least : (lD F H A B && lD F H C D) = lD F H J K
  join : lD A B C D = true ↔ J = A ∧ K = B
theorem Lat3.of {A B C D F H : Int} (hx : lB A B = true) (hy : lB C D = true) (hz : lB F H = true) : Lat3 A B C D F H (mxL A C) (orC B D) :=
  ⟨(lD_up _ _ _ _ hx hy).1, (lD_up _ _ _ _ hx hy).2, lD_refl _ _ hx, lD_trans _ _ _ _ _ _ hx hy hz, lD_anti _ _ _ _ hx hy, lD_least _ _ _ _ _ _ hx hy hz, lD_join _ _ _ _ hx hy⟩
/-- The ways of the law's second test. -/
theorem Lat3.ways {A B C D F H J K : Int} (h : Lat3 A B C D F H J K) : lD A B C D = false ∨ lD A B C D = true ∧ lD C D F H = false ∧ lD C D A B = false ∨ lD A B C D = true ∧ lD C D F H = false ∧ lD C D A B = true ∧ A = C ∧ B = D ∨
    lD A B C D = true ∧ lD C D F H = true ∧ lD A B F H = true ∧ lD C D A B = false ∨ lD A B C D = true ∧ lD C D F H = true ∧ lD A B F H = true ∧ lD C D A B = true ∧ A = C ∧ B = D := by
  cases h1 : lD A B C D
  · exact .inl rfl
  · cases h2 : lD C D F H <;> cases h3 : lD C D A B
    · exact .inr (.inl ⟨rfl, rfl, rfl⟩)
    · exact .inr (.inr (.inl ⟨rfl, rfl, rfl, h.anti h1 h3⟩))
    · exact .inr (.inr (.inr (.inl ⟨rfl, rfl, h.trans h1 h2, rfl⟩)))
    · exact .inr (.inr (.inr (.inr ⟨rfl, rfl, h.trans h1 h2, rfl, h.anti h1 h3⟩)))
/-- .. of its last test. -/
theorem Lat3.ends {A B C D F H J K : Int} (h : Lat3 A B C D F H J K) : lD A B C D = true ∧ J = A ∧ K = B ∨ lD A B C D = false ∧ J ≠ A ∨ lD A B C D = false ∧ J = A ∧ K ≠ B := by
  have := h.join
  cases h1 : lD A B C D
  · right
    by_cases hj : J = A
    · exact .inr ⟨rfl, hj, fun hk => by rw [h1] at this; exact absurd (this.2 ⟨hj, hk⟩) (by simp)⟩
    · exact .inl ⟨rfl, hj⟩
  · exact .inl ⟨rfl, this.1 h1⟩
theorem Lat3.least' {A B C D F H J K : Int} (h : Lat3 A B C D F H J K) : lD F H A B = true ∧ lD F H C D = lD F H J K ∨ lD F H A B = false ∧ lD F H J K = false := by
  have := h.least
  cases h1 : lD F H A B
  · rw [h1, Bool.false_and] at this; exact .inr ⟨rfl, this.symm⟩
  · rw [h1, Bool.true_and] at this; exact .inl ⟨rfl, this⟩

end Go.Proofs.YtobpggpjboonfaaDoor
