/-
  Plain facts on pieces: where each begins, that they are all the bytes. And small facts on masks and quiet calls. No Go here.
-/
import Derived.Test.YtobpggpjboonfaaDoorPlain
namespace Go.Proofs.YtobpggpjboonfaaDoor
open Go.RowKit
set_option linter.unusedVariables false
set_option maxRecDepth 100000

/-- The bytes of the first i pieces. -/
def pre (l : List (Nat × Nat × Nat)) (i : Nat) : Nat := ((l.take i).map (fun p => p.2.2)).sum

theorem pre_zero (l : List (Nat × Nat × Nat)) : pre l 0 = 0 := by simp [pre]
theorem pre_cons (p : Nat × Nat × Nat) (l : List (Nat × Nat × Nat)) (i : Nat) : pre (p :: l) (i + 1) = p.2.2 + pre l i := by simp [pre]
theorem pre_step (l : List (Nat × Nat × Nat)) : ∀ i (h : i < l.length), pre l (i + 1) = pre l i + l[i].2.2 := by
  induction l with
  | nil => intro i h; simp at h
  | cons p l ih =>
    intro i h
    match i with
    | 0 => simp [pre]
    | i + 1 =>
      rw [pre_cons, ih i (by simpa using h), pre_cons]
      simp only [List.getElem_cons_succ]
      omega

theorem spl_pre (n : Nat) : ∀ a, pre (spl a n) (spl a n).length = n := by
  induction n using Nat.strongRecOn with
  | ind n ih =>
    intro a
    rcases Nat.eq_zero_or_pos n with h | h
    · subst h; rfl
    · rw [spl_step a n h, List.length_cons, pre_cons, ih _ (by omega)]
      simp only
      omega

theorem spl_at (n : Nat) : ∀ a i (h : i < (spl a n).length), (spl a n)[i].1 * 64 + (spl a n)[i].2.1 = a + pre (spl a n) i ∧ 1 ≤ (spl a n)[i].2.2 ∧ (spl a n)[i].2.1 + (spl a n)[i].2.2 ≤ 64 := by
  induction n using Nat.strongRecOn with
  | ind n ih =>
    intro a
    rcases Nat.eq_zero_or_pos n with h0 | h0
    · subst h0; intro i h; simp [spl_zero] at h
    · rw [spl_step a n h0]
      intro i h
      match i with
      | 0 => simp only [List.getElem_cons_zero, pre_zero]; omega
      | i + 1 =>
        simp only [List.getElem_cons_succ, pre_cons]
        have := ih (n - min n (64 - a % 64)) (by omega) (a + min n (64 - a % 64)) i (by simpa using h)
        omega

theorem pre_le (n a i : Nat) (h : i ≤ (spl a n).length) : pre (spl a n) i ≤ n := by
  have hp := spl_pre n a
  have : ∀ (l : List (Nat × Nat × Nat)) j, pre l j ≤ pre l l.length := by
    intro l
    induction l with
    | nil => intro j; simp [pre]
    | cons p l ih =>
      intro j
      match j with
      | 0 => simp [pre]
      | j + 1 => rw [pre_cons, List.length_cons, pre_cons]; have := ih j; omega
  have := this (spl a n) i
  omega

theorem band (x m : Int) (h0 : 0 ≤ m) (h1 : m < 9223372036854775808) : 0 ≤ bits BinOp.and IntKind.i64 x m ∧ bits BinOp.and IntKind.i64 x m ≤ m := by
  obtain ⟨m, rfl⟩ := Int.eq_ofNat_of_zero_le h0
  have hm : (BitVec.ofInt 64 (m : Int)).toNat = m := by
    rw [BitVec.ofInt_natCast, BitVec.toNat_ofNat]; exact Nat.mod_eq_of_lt (by omega)
  have hx : (BitVec.ofInt 64 x &&& BitVec.ofInt 64 (m : Int)).toNat ≤ m := by
    rw [BitVec.toNat_and, hm]; exact Nat.and_le_right
  have e : bits BinOp.and IntKind.i64 x (m : Int) = IntKind.i64.wrap ((BitVec.ofInt 64 x &&& BitVec.ofInt 64 (m : Int)).toNat : Int) := rfl
  rw [e, IntKind.wrap_i64]
  omega

/-- A call that leaves the world as it was, inside a region that draws its order. -/
theorem quiet_ {P : Program} {f : FuncId} {args : Array Value} {w : World} {n : Nat} {v : Value}
    (h : ∀ W, Calls P f args W fun e w' => e = .returned v ∧ W = w') : Calls P f args (w.drewN n) fun e w'' => e = .returned v ∧ ∃ m, w'' = w.drewN m :=
  (h _).mono fun _ _ ⟨he, hm⟩ => ⟨he, n, hm.symm⟩
theorem quiet_a {P : Program} {f : FuncId} {args : Array Value} {w : World} {a n : Nat} {v : Value}
    (h : ∀ W, Calls P f args W fun e w' => e = .returned v ∧ W = w') : Calls P f args (w.drewN (a + n)) fun e w'' => e = .returned v ∧ ∃ m, w'' = w.drewN (a + m) :=
  (h _).mono fun _ _ ⟨he, hm⟩ => ⟨he, n, hm.symm⟩

/-- .. where the contract asks for what the world holds, which draws do not turn. -/
theorem quiet_at {P : Program} {f : FuncId} {args : Array Value} {w : World} {n : Nat} {v : Value}
    (h : ∀ k, Calls P f args (w.drewN k) fun e w' => e = .returned v ∧ w.drewN k = w') : Calls P f args (w.drewN n) fun e w'' => e = .returned v ∧ ∃ m, w'' = w.drewN m :=
  (h _).mono fun _ _ ⟨he, hm⟩ => ⟨he, n, hm.symm⟩
theorem quiet_at_a {P : Program} {f : FuncId} {args : Array Value} {w : World} {a n : Nat} {v : Value}
    (h : ∀ k, Calls P f args (w.drewN k) fun e w' => e = .returned v ∧ w.drewN k = w') : Calls P f args (w.drewN (a + n)) fun e w'' => e = .returned v ∧ ∃ m, w'' = w.drewN (a + m) :=
  (h _).mono fun _ _ ⟨he, hm⟩ => ⟨he, n, hm.symm⟩

theorem u64b (a : Int) : 0 ≤ IntKind.u64.wrap a ∧ IntKind.u64.wrap a ≤ 18446744073709551615 := by
  rw [IntKind.wrap_u64]; omega

/-- All that a law asks of the pieces of M bytes from X on. Closed to the walk. -/
structure Pcs (X M : Nat) (L : List (Nat × Nat × Nat)) (len : Nat) : Prop where
  len_eq : L.length = len
  at_ : ∀ k, k < len → ∃ p1 p2 p3 : Nat, (flat L)[k * 3]? = some (.int .i64 p1) ∧ (flat L)[k * 3 + 1]? = some (.int .i64 p2) ∧ (flat L)[k * 3 + 2]? = some (.int .i64 p3) ∧
    p1 * 64 + p2 = X + pre L k ∧ 1 ≤ p3 ∧ p2 + p3 ≤ 64 ∧ pre L (k + 1) = pre L k + p3
  all : pre L len = M
  le : ∀ k, k ≤ len → pre L k ≤ M
  short : len ≤ M

theorem pcs_of (X M : Nat) : Pcs X M (spl X M) (spl X M).length :=
  ⟨rfl, fun k h => ⟨_, _, _, (flat_get _ k h).1, (flat_get _ k h).2.1, (flat_get _ k h).2.2, (spl_at M X k h).1, (spl_at M X k h).2.1, (spl_at M X k h).2.2, pre_step _ k h⟩, spl_pre M X, fun k h => pre_le M X k h, spl_len M X⟩

theorem spl_count (n : Nat) : ∀ a, 0 < n → (spl a n).length = (a + n - 1) / 64 - a / 64 + 1 := by
  induction n using Nat.strongRecOn with
  | ind n ih =>
    intro a h
    rw [spl_step a n h, List.length_cons]
    by_cases hc : n ≤ 64 - a % 64
    · rw [show min n (64 - a % 64) = n from by omega, show n - n = 0 from by omega, spl_zero]
      simp only [List.length_nil]
      omega
    · rw [show min n (64 - a % 64) = 64 - a % 64 from by omega, ih _ (by omega) _ (by omega)]
      omega

/-- The pieces of a run are those of its two parts, but for one that is cut. -/
theorem spl_cut (X M C : Nat) (h : C ≤ M) : ((X + C) % 64 ≠ 0 ∧ 0 < C ∧ C < M → (spl X M).length + 1 = (spl X C).length + (spl (X + C) (M - C)).length) ∧
    (¬ ((X + C) % 64 ≠ 0 ∧ 0 < C ∧ C < M) → (spl X M).length = (spl X C).length + (spl (X + C) (M - C)).length) := by
  rcases Nat.eq_zero_or_pos C with hC | hC
  · subst hC
    simp [spl_zero]
  · rcases Nat.eq_zero_or_pos (M - C) with hD | hD
    · have : C = M := by omega
      subst this
      rw [show C - C = 0 from by omega, spl_zero]
      constructor
      · intro h; omega
      · intro _; simp
    · rw [spl_count M X (by omega), spl_count C X hC, spl_count (M - C) (X + C) hD]
      omega

end Go.Proofs.YtobpggpjboonfaaDoor
