/-
  Contracts of the document's: DescMay, PutDesc, GetDesc.
-/
import Derived.Test.YtcjmgjdejljjkaaDe0
import Derived.Test.YtcjmgjdejljjkaaChecked
import Derived.BigRegion
namespace Go.Proofs.Ytcjmgjdejljjkaa
open Go.RowKit
set_option linter.unusedVariables false
set_option maxRecDepth 100000

/-- The ways of a descriptor through the document's test. -/
theorem de_ways (o x l b n : Int) :
    (deB o x l b n = false ∧ o < 0) ∨ (deB o x l b n = false ∧ 0 ≤ o ∧ 3 < o) ∨
    (deB o x l b n = false ∧ 0 ≤ o ∧ o ≤ 3 ∧ x < 0 ∧ (x == 255) = false) ∨ (deB o x l b n = false ∧ 0 ≤ o ∧ o ≤ 3 ∧ 0 ≤ x ∧ 8 ≤ x ∧ (x == 255) = false) ∨
    ((0 ≤ o ∧ o ≤ 3) ∧ (x = 255 ∨ (0 ≤ x ∧ x < 8)) ∧
      ((deB o x l b n = false ∧ l < 0) ∨ (deB o x l b n = false ∧ 0 ≤ l ∧ 65535 < l) ∨
       (deB o x l b n = false ∧ 0 ≤ l ∧ l ≤ 65535 ∧ b < 0) ∨ (deB o x l b n = false ∧ 0 ≤ l ∧ l ≤ 65535 ∧ 0 ≤ b ∧ 65535 < b) ∨
       (deB o x l b n = false ∧ 0 ≤ l ∧ l ≤ 65535 ∧ 0 ≤ b ∧ b ≤ 65535 ∧ n < 0) ∨ (deB o x l b n = false ∧ 0 ≤ l ∧ l ≤ 65535 ∧ 0 ≤ b ∧ b ≤ 65535 ∧ 0 ≤ n ∧ decide (n ≤ 255) = false) ∨
       (deB o x l b n = true ∧ 0 ≤ l ∧ l ≤ 65535 ∧ 0 ≤ b ∧ b ≤ 65535 ∧ 0 ≤ n ∧ decide (n ≤ 255) = true))) := by
  have hi := de_iff o x l b n
  simp only [beq_eq_false_iff_ne, ne_eq, decide_eq_false_iff_not, decide_eq_true_eq]
  cases hb : deB o x l b n
  · rw [hb] at hi
    simp only [Bool.false_eq_true, false_iff] at hi
    simp only [true_and, Bool.false_eq_true, false_and, or_false]
    omega
  · rw [hb] at hi
    simp only [true_iff] at hi
    simp only [true_and, Bool.true_eq_false, false_and, false_or]
    omega

set_option maxHeartbeats 4000000 in
theorem rdemay_any (o x l b n : Int) (w : World) :
    Calls Try.prog 29 #[.agg #[.int .i64 o, .int .i64 x, .int .i64 l, .int .i64 b, .int .i64 n]] w fun e w' => e = .returned (.bool (deB o x l b n)) ∧ Below w.heap.size w w' := by
  rcases de_ways o x l b n with ⟨hb, h⟩ | ⟨hb, h, i⟩ | ⟨hb, h, i, j, k⟩ | ⟨hb, h, i, j, k, m⟩ | ⟨⟨h, i⟩, hx, hq⟩
  · rw [hb]; clear hb
    go_enter Try.func29, Try.ntmps29
    go_wp2
    go_ret
    exact ⟨rfl, (Below.refl _ _).alloc (Nat.le_refl _) _⟩
  · rw [hb]; clear hb
    go_enter Try.func29, Try.ntmps29
    go_wp2
    go_ret
    exact ⟨rfl, (Below.refl _ _).alloc (Nat.le_refl _) _⟩
  · rw [hb]; clear hb
    go_enter Try.func29, Try.ntmps29
    go_wp2
    go_ret
    exact ⟨rfl, (Below.refl _ _).alloc (Nat.le_refl _) _⟩
  · rw [hb]; clear hb
    go_enter Try.func29, Try.ntmps29
    go_wp2
    go_ret
    exact ⟨rfl, (Below.refl _ _).alloc (Nat.le_refl _) _⟩
  · rcases hx with rfl | ⟨p, q⟩
    all_goals
      rcases hq with ⟨hb, l0⟩ | ⟨hb, l0, l1⟩ | ⟨hb, l0, l1, b0⟩ | ⟨hb, l0, l1, b0, b1⟩ | ⟨hb, l0, l1, b0, b1, n0⟩ | ⟨hb, l0, l1, b0, b1, n0, n1⟩ | ⟨hb, l0, l1, b0, b1, n0, n1⟩
      all_goals
        rw [hb]; clear hb
        as_aux_lemma =>
          go_enter Try.func29, Try.ntmps29
          go_wp2
          go_ret
          exact ⟨rfl, (Below.refl _ _).alloc (Nat.le_refl _) _⟩

set_option maxHeartbeats 1000000 in
theorem rdeput_any (o x l b n : Int) (w : World) :
    Calls Try.prog 32 #[.agg #[.int .i64 o, .int .i64 x, .int .i64 l, .int .i64 b, .int .i64 n]] w fun e w' => e = .returned (.tuple #[.string (str (deL o x l b n)), .int .i64 (e16 (deB o x l b n))]) ∧ Below w.heap.size w w' := by
  have t0 := Blk.new w 42 [.int .i64 o, .int .i64 x, .int .i64 l, .int .i64 b, .int .i64 n]
  by_cases hb : deB o x l b n = true
  · rw [hb, deL_yes hb]
    have HB := Lib.hid hb
    clear hb
    go_enter Try.func32, Try.ntmps32
    go_wp2_with fail
    refine (rdemay_any _ _ _ _ _ _).mono ?_
    rintro e w1 ⟨rfl, b1⟩
    rw [HB.out]
    have t1 := t0.below b1 t0.lt
    obtain ⟨c0, c1, c2, c3, c4⟩ := five_at t1
    have hcv := conv_str (w := w1.alloc (.cells (bts (deR o x l b n)).toArray 5)) w1.heap.size 0 8 (deR o x l b n) (fun i hi => by rw [(Blk.new w1 5 (bts (deR o x l b n))).cell, Nat.zero_add, bts_get _ i hi])
    rw [deR_cells _ _ _ _ _ HB.out, deR_len] at hcv
    have B1 := Lib.hid (below_of b1); have S1 := Lib.hid b1.size
    generalize hX : str (deR o x l b n) = X at hcv
    have HX := Lib.hid hX
    clear t0 t1 b1 hX
    go_wp2_with fail
    go_ret2
    have s1 := S1.out
    simp at s1
    exact ⟨by rw [HX.out]; rfl, B1.out.alloc (by omega) _⟩
  · have hb : deB o x l b n = false := by simpa using hb
    rw [deL_no hb, hb]
    have HB := Lib.hid hb; clear hb
    go_enter Try.func32, Try.ntmps32
    go_wp2_with fail
    refine (rdemay_any _ _ _ _ _ _).mono ?_
    rintro e w1 ⟨rfl, b1⟩
    rw [HB.out]
    go_wp2
    go_ret2
    exact ⟨rfl, below_of b1⟩

end Go.Proofs.Ytcjmgjdejljjkaa
