/-
  Layer 2's law OwnerForms: it answers true for every input.
-/
import Derived.Test.YtcplbjidilddiaaOwnAwake
import Derived.Test.YtcplbjidilddiaaPlain2
namespace Go.Proofs.Ytcplbjidilddiaa
open Go.RowKit
set_option linter.unusedVariables false

theorem set_none (l : List Int) (f o : Int) (h : ¬ (0 ≤ f ∧ f < l.length ∧ -2 ≤ o ∧ o ≤ 3)) : setL l f o = l ∧ setC l.length f o = 200 := by
  have hs : setB l.length f o = false := decide_eq_false h
  simp [setL, setC, hs]
theorem of_none (l : List Int) (f : Int) (h : ¬ (0 ≤ f ∧ f < l.length)) : ofN l f = 0 ∧ ofC l.length f = 200 := by
  have hs : ofB l.length f = false := decide_eq_false h
  simp [ofN, ofC, hs]
theorem own_none (p : Int) (h1 : ¬ (-1 : Int) = p) (h2 : ¬ (3 : Int) = p) : ownL [-1, 3, -1, -1] p = [] := by
  simp [ownL, ownTo, h1, h2]

set_option maxHeartbeats 1000000 in
theorem law_OwnerForms (a x : Int) (w0 : (Lit.int .i64 a).wf = true) (w1 : (Lit.int .i64 x).wf = true) (w : World) :
    Calls Try.prog 4 #[.int .i64 a, .int .i64 x] w fun e w' => e = .returned (.bool true) ∧ Below w.heap.size w w' := by
  have hX := band x 1023 (by omega) (by omega)
  have hU := u64b a
  generalize hX' : bits BinOp.and IntKind.i64 x 1023 = X at hX
  generalize hU' : IntKind.u64.wrap a = U at hU
  obtain ⟨hX0, hX1⟩ := hX
  obtain ⟨hU0, hU1⟩ := hU
  have hI0 : 0 ≤ U % 4 := by omega
  have hI1 : U % 4 < 4 := by omega
  generalize hI' : U % 4 = I at hI0 hI1
  clear w0 w1
  go_enter Try.func4, Try.ntmps4
  go_wp2_with fail
  refine (awake_any _).mono ?_
  rintro e wa ⟨rfl, ba⟩
  have hsa := ba.size
  go_wp2_with fail
  refine (new_no (1 - (1 + X)) _ (by omega)).mono ?_
  rintro e w' ⟨rfl, rfl⟩
  go_wp2_with fail
  refine (new_no _ _ (by omega)).mono ?_
  rintro e w' ⟨rfl, rfl⟩
  go_wp2_with fail
  refine (pnew 4 _ (by omega) (by omega)).mono ?_
  rintro e w1 ⟨rfl, t1, b1⟩
  have b1' := Below.down ba b1 hsa
  have hs1 := b1.size
  have hs1' := b1'.size
  generalize hg : wa.heap.size = g at *
  have hgw : w.heap.size ≤ g := by omega
  have HG := Lib.hid hg; clear hg b1 ba
  rw [show free (4 : Int).toNat = [-1, -1, -1, -1] from rfl] at t1
  go_wp2_with fail
  refine (num_any _ _).mono ?_
  rintro e w' ⟨rfl, rfl⟩
  go_wp2_with fail
  refine (pset_is g _ [-1, 3, -1, -1] _ _ 0 _ t1 rfl rfl).mono ?_
  rintro e w2 ⟨rfl, t2, b2⟩
  have b2' := bone b1' b2 hs1' (by omega)
  have hs2 := b2'.size
  clear t1 b1' b2
  go_wp2_with fail
  all_goals
    refine (pset_is g [-1, 3, -1, -1] [-1, 3, -1, -1] _ _ 200 _ t2 (set_none [-1, 3, -1, -1] _ _ (by simp; omega)).1 (set_none [-1, 3, -1, -1] _ _ (by simp; omega)).2).mono ?_
    rintro e w3 ⟨rfl, t3, b3⟩
    have b3' := bone b2' b3 hs2 (by omega)
    have hs3 := b3'.size
    clear t2 b2' b3
    go_wp2_with fail
    refine (pof_is g [-1, 3, -1, -1] _ 0 200 _ t3 (of_none [-1, 3, -1, -1] _ (by simp; omega)).1 (of_none [-1, 3, -1, -1] _ (by simp; omega)).2).mono ?_
    rintro e w' ⟨rfl, rfl⟩
    go_wp2_with (go_at_call 9; refine (num_any _ _).mono ?_; rintro e w' ⟨rfl, rfl⟩)
    refine (all_is g _ [1] _ _ t3 rfl).mono ?_
    rintro e w4 ⟨v, rfl, ho, b4⟩
    have t4 := t3.below b4 t3.lt
    have b4' := Below.down b3' b4 (by omega)
    have hs4 := b4'.size
    have s5 := (Sl.own ho).below ((Below.refl _ _).alloc (Nat.le_refl _) (.cells #[.int .i64 1] 3))
    have b6 := b4'.alloc (by omega) (.cells #[.int .i64 1] 3)
    have t6 := t4.below ((Below.refl _ _).alloc (Nat.le_refl _) (.cells #[.int .i64 1] 3)) t4.lt
    clear ho b4 t4 t3 b4' b3'
    go_wp2_with fail
    refine (same_ints _ _ [1] _ s5 (Sl.lit w4 [.int .i64 1] 1 1 3 rfl) (by decide)).mono ?_
    rintro e w' ⟨rfl, q, rfl⟩
    clear s5
    replace t6 := t6.drewN q
    replace b6 := bdrewN b6 q
    have hs6 := b6.size
    generalize (w4.alloc (.cells #[.int .i64 1] 3)).drewN q = w6 at *
    go_wp2_with fail
    refine (all_is g _ [0, 2, 3] _ _ t6 rfl).mono ?_
    rintro e w7 ⟨v7, rfl, ho, b7⟩
    have b7' := Below.down b6 b7 (by omega)
    have hs7 := b7'.size
    have t7 := t6.below b7 t6.lt
    have s7 := (Sl.own ho).below ((Below.refl _ _).alloc (Nat.le_refl _) (.cells #[.int .i64 0, .int .i64 2, .int .i64 3] 3))
    have b8 := b7'.alloc (by omega) (.cells #[.int .i64 0, .int .i64 2, .int .i64 3] 3)
    have t8 := t7.below ((Below.refl _ _).alloc (Nat.le_refl _) (.cells #[.int .i64 0, .int .i64 2, .int .i64 3] 3)) t7.lt
    clear ho b7 t6 b7' b6 t7
    go_wp2_with fail
    refine (same_ints _ _ [0, 2, 3] _ s7 (Sl.lit w7 [.int .i64 0, .int .i64 2, .int .i64 3] 3 1 3 rfl) (by decide)).mono ?_
    rintro e w' ⟨rfl, q2, rfl⟩
    clear s7
    replace t8 := t8.drewN q2
    replace b8 := bdrewN b8 q2
    have hs8 := b8.size
    generalize (w7.alloc (.cells #[.int .i64 0, .int .i64 2, .int .i64 3] 3)).drewN q2 = w8 at *
    go_wp2_with fail
    refine (all_is g _ [] _ _ t8 (own_none _ (by omega) (by omega))).mono ?_
    rintro e w9 ⟨v9, rfl, ho, b9⟩
    have b9' := Below.down b8 b9 (by omega)
    have hs9 := b9'.size
    have t9 := t8.below b9 t8.lt
    obtain ⟨A9, c9, rfl, _, _, _⟩ := Sl.own ho
    clear ho b9 t8 b8
    simp only [List.length_nil] at *
    go_wp2_with fail
    refine (all_is g _ [] _ _ t9 (own_none _ (by omega) (by omega))).mono ?_
    rintro e w10 ⟨v10, rfl, ho, b10⟩
    have b10' := Below.down b9' b10 (by omega)
    obtain ⟨A10, c10, rfl, _, _, _⟩ := Sl.own ho
    clear ho b10 t9 b9'
    go_wp2_with fail
    go_ret
    exact ⟨rfl, b10'⟩

end Go.Proofs.Ytcplbjidilddiaa
