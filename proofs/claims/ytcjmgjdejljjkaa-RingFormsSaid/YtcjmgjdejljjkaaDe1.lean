/-
  Contracts of package desc: within, mayNext, May, pair, Put.
-/
import Derived.Test.YtcjmgjdejljjkaaDe0
import Derived.Test.YtcjmgjdejljjkaaChecked
namespace Go.Proofs.Ytcjmgjdejljjkaa
open Go.RowKit
set_option linter.unusedVariables false
set_option maxRecDepth 100000

theorem within_any (x m : Int) (w : World) :
    Calls Try.prog 40 #[.int .i64 x, .int .i64 m] w fun e w' => e = .returned (.bool (wiB x m)) ∧ w = w' := by
  have hq : (wiB x m = false ∧ x < 0) ∨ (wiB x m = false ∧ 0 ≤ x ∧ decide (x ≤ m) = false) ∨ (wiB x m = true ∧ 0 ≤ x ∧ decide (x ≤ m) = true) := by
    unfold wiB; simp only [decide_eq_false_iff_not, decide_eq_true_eq]; omega
  rcases hq with ⟨hb, h⟩ | ⟨hb, h, h1⟩ | ⟨hb, h, h1⟩
  all_goals
    rw [hb]
    clear hb
    go_enter Try.func40, Try.ntmps40
    go_wp2
    go_ret
    exact ⟨rfl, rfl⟩

theorem maynext_any (x : Int) (w : World) :
    Calls Try.prog 41 #[.int .i64 x] w fun e w' => e = .returned (.bool (nxB x)) ∧ w = w' := by
  have hq : (wiB x 7 = true ∧ nxB x = true) ∨ (wiB x 7 = false ∧ (x == 255) = true ∧ nxB x = true) ∨ (wiB x 7 = false ∧ (x == 255) = false ∧ nxB x = false) := by
    unfold wiB nxB
    by_cases h : x = 255
    · subst h; simp
    · simp [h]; omega
  rcases hq with ⟨hb, hn⟩ | ⟨hb, h, hn⟩ | ⟨hb, h, hn⟩
  all_goals
    rw [hn]
    have HB := Lib.hid hb
    clear hb hn
    go_enter Try.func41, Try.ntmps41
    go_wp2_with fail
    refine (within_any _ _ _).mono ?_
    rintro e w' ⟨rfl, rfl⟩
    rw [HB.out]
    go_wp2
    go_ret
    exact ⟨rfl, rfl⟩

theorem pair_any (x : Int) (w : World) :
    Calls Try.prog 39 #[.int .i64 x] w fun e w' => e = .returned (.tuple #[.int .u8 (x % 256), .int .u8 (x / 256 % 256)]) ∧ w = w' := by
  go_enter Try.func39, Try.ntmps39
  go_wp2
  go_ret2
  exact ⟨rfl, rfl⟩

set_option maxHeartbeats 1000000 in
theorem demay_any (o x l b n : Int) (w : World) :
    Calls Try.prog 35 #[.agg #[.int .i64 o, .int .i64 x, .int .i64 l, .int .i64 b, .int .i64 n]] w fun e w' => e = .returned (.bool (deB o x l b n)) ∧ Below w.heap.size w w' := by
  unfold deB
  generalize h0 : wiB o 3 = B0
  generalize h1 : nxB x = B1
  generalize h2 : wiB l 65535 = B2
  generalize h3 : wiB b 65535 = B3
  generalize h4 : wiB n 255 = B4
  have H0 := Lib.hid h0; have H1 := Lib.hid h1; have H2 := Lib.hid h2; have H3 := Lib.hid h3; have H4 := Lib.hid h4
  clear h0 h1 h2 h3 h4
  cases B0
  · go_enter Try.func35, Try.ntmps35
    go_wp2_with fail
    refine (within_any _ _ _).mono ?_; rintro e w' ⟨rfl, rfl⟩; rw [H0.out]
    go_wp2
    go_ret
    exact ⟨rfl, (Below.refl _ _).alloc (Nat.le_refl _) _⟩
  cases B1
  · go_enter Try.func35, Try.ntmps35
    go_wp2_with fail
    refine (within_any _ _ _).mono ?_; rintro e w' ⟨rfl, rfl⟩; rw [H0.out]
    go_wp2_with fail
    refine (maynext_any _ _).mono ?_; rintro e w' ⟨rfl, rfl⟩; rw [H1.out]
    go_wp2
    go_ret
    exact ⟨rfl, (Below.refl _ _).alloc (Nat.le_refl _) _⟩
  cases B2
  · go_enter Try.func35, Try.ntmps35
    go_wp2_with fail
    refine (within_any _ _ _).mono ?_; rintro e w' ⟨rfl, rfl⟩; rw [H0.out]
    go_wp2_with fail
    refine (maynext_any _ _).mono ?_; rintro e w' ⟨rfl, rfl⟩; rw [H1.out]
    go_wp2_with fail
    refine (within_any _ _ _).mono ?_; rintro e w' ⟨rfl, rfl⟩; rw [H2.out]
    go_wp2
    go_ret
    exact ⟨rfl, (Below.refl _ _).alloc (Nat.le_refl _) _⟩
  cases B3
  · go_enter Try.func35, Try.ntmps35
    go_wp2_with fail
    refine (within_any _ _ _).mono ?_; rintro e w' ⟨rfl, rfl⟩; rw [H0.out]
    go_wp2_with fail
    refine (maynext_any _ _).mono ?_; rintro e w' ⟨rfl, rfl⟩; rw [H1.out]
    go_wp2_with fail
    refine (within_any _ _ _).mono ?_; rintro e w' ⟨rfl, rfl⟩; rw [H2.out]
    go_wp2_with fail
    refine (within_any _ _ _).mono ?_; rintro e w' ⟨rfl, rfl⟩; rw [H3.out]
    go_wp2
    go_ret
    exact ⟨rfl, (Below.refl _ _).alloc (Nat.le_refl _) _⟩
  cases B4
  all_goals
    go_enter Try.func35, Try.ntmps35
    go_wp2_with fail
    refine (within_any _ _ _).mono ?_; rintro e w' ⟨rfl, rfl⟩; rw [H0.out]
    go_wp2_with fail
    refine (maynext_any _ _).mono ?_; rintro e w' ⟨rfl, rfl⟩; rw [H1.out]
    go_wp2_with fail
    refine (within_any _ _ _).mono ?_; rintro e w' ⟨rfl, rfl⟩; rw [H2.out]
    go_wp2_with fail
    refine (within_any _ _ _).mono ?_; rintro e w' ⟨rfl, rfl⟩; rw [H3.out]
    go_wp2_with fail
    refine (within_any _ _ _).mono ?_; rintro e w' ⟨rfl, rfl⟩; rw [H4.out]
    go_wp2
    go_ret
    exact ⟨rfl, (Below.refl _ _).alloc (Nat.le_refl _) _⟩

set_option maxHeartbeats 1000000 in
theorem deput_any (o x l b n : Int) (w : World) :
    Calls Try.prog 34 #[.agg #[.int .i64 o, .int .i64 x, .int .i64 l, .int .i64 b, .int .i64 n]] w fun e w' => e = .returned (.tuple #[.string (str (deL o x l b n)), .int .i64 (e16 (deB o x l b n))]) ∧ Below w.heap.size w w' := by
  have t0 := Blk.new w 42 [.int .i64 o, .int .i64 x, .int .i64 l, .int .i64 b, .int .i64 n]
  by_cases hb : deB o x l b n = true
  · rw [hb, deL_yes hb]
    have HB := Lib.hid hb
    clear hb
    go_enter Try.func34, Try.ntmps34
    go_wp2_with fail
    refine (demay_any _ _ _ _ _ _).mono ?_
    rintro e w1 ⟨rfl, b1⟩
    rw [HB.out]
    have t1 := t0.below b1 t0.lt
    have c0 := fun O => (t1.alloc O).cell 0
    have c1 := fun O => (t1.alloc O).cell 1
    have c2 := fun O => (t1.alloc O).cell 2
    have c3 := fun O => (t1.alloc O).cell 3
    have c4 := fun O => (t1.alloc O).cell 4
    have hcv := conv_str (w := w1.alloc (.cells (bts (deR o x l b n)).toArray 75)) w1.heap.size 0 8 (deR o x l b n) (fun i hi => by rw [(Blk.new w1 75 (bts (deR o x l b n))).cell, Nat.zero_add, bts_get _ i hi])
    rw [deR_cells _ _ _ _ _ HB.out, deR_len] at hcv
    have B1 := Lib.hid (below_of b1); have S1 := Lib.hid b1.size
    generalize hX : str (deR o x l b n) = X at hcv
    have HX := Lib.hid hX
    clear t0 t1 b1 hX
    go_wp2_with fail
    refine (pair_any _ _).mono ?_; rintro e w' ⟨rfl, rfl⟩
    go_wp2_with fail
    refine (pair_any _ _).mono ?_; rintro e w' ⟨rfl, rfl⟩
    go_wp2_with fail
    go_ret2
    have s1 := S1.out
    simp at s1
    exact ⟨by rw [HX.out]; rfl, B1.out.alloc (by omega) _⟩
  · have hb : deB o x l b n = false := by simpa using hb
    rw [deL_no hb, hb]
    have HB := Lib.hid hb; clear hb
    go_enter Try.func34, Try.ntmps34
    go_wp2_with fail
    refine (demay_any _ _ _ _ _ _).mono ?_
    rintro e w1 ⟨rfl, b1⟩
    rw [HB.out]
    go_wp2
    go_ret2
    exact ⟨rfl, below_of b1⟩

end Go.Proofs.Ytcjmgjdejljjkaa
