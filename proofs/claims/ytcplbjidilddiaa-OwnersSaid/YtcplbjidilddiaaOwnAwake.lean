/-
  The contract of layer 2's awake: it answers true, whatever the world. And New by an Int.
-/
import Derived.Test.YtcplbjidilddiaaRefOwn2
import Derived.Test.YtcplbjidilddiaaInts
import Derived.Test.YtcplbjidilddiaaNum
namespace Go.Proofs.Ytcplbjidilddiaa
open Go.RowKit
set_option linter.unusedVariables false

theorem pnew (c : Int) (w : World) (h1 : 1 ≤ c) (h2 : c ≤ 64) :
    Calls Try.prog 7 #[.int .i64 c] w fun e w' => e = .returned (.tuple #[.pointer (some ⟨w.heap.size, 0, none⟩), .int .i64 0]) ∧ Tab w' w.heap.size (free c.toNat) ∧ Below w.heap.size w w' := by
  obtain ⟨n, rfl⟩ := Int.eq_ofNat_of_zero_le (show 0 ≤ c by omega)
  rw [Int.toNat_natCast]
  exact new_yes n w (by omega) (by omega)
theorem rnew (c : Int) (w : World) (h1 : 1 ≤ c) (h2 : c ≤ 64) :
    Calls Try.prog 8 #[.int .i64 c] w fun e w' => e = .returned (.tuple #[.pointer (some ⟨w.heap.size, 0, none⟩), .int .i64 0]) ∧ (∃ v, RTab w' w.heap.size w.heap.size v (free c.toNat)) ∧ Below w.heap.size w w' := by
  obtain ⟨n, rfl⟩ := Int.eq_ofNat_of_zero_le (show 0 ≤ c by omega)
  rw [Int.toNat_natCast]
  exact rnew_yes n w (by omega) (by omega)

/-- A set whose answer is known. -/
theorem pset_is (g : Nat) (l l' : List Int) (f o c : Int) (w : World) (h : Tab w g l) (hl : setL l f o = l') (hc : setC l.length f o = c) :
    Calls Try.prog 11 #[.pointer (some ⟨g, 0, none⟩), .int .i64 f, .int .i64 o] w fun e w' => e = .returned (.int .i64 c) ∧ Tab w' g l' ∧ w.grownBy w' (some g) := by
  have := pset_any g l f o w h
  rw [hl, hc] at this
  exact this
theorem pof_is (g : Nat) (l : List Int) (f x c : Int) (w : World) (h : Tab w g l) (hx : ofN l f = x) (hc : ofC l.length f = c) :
    Calls Try.prog 12 #[.pointer (some ⟨g, 0, none⟩), .int .i64 f] w fun e w' => e = .returned (.tuple #[.int .i64 x, .int .i64 c]) ∧ w = w' := by
  have := pof_any g l f w h
  rw [hx, hc] at this
  exact this
theorem all_is (g : Nat) (l L : List Int) (p : Int) (w : World) (h : Tab w g l) (hL : ownL l p = L) :
    Calls Try.prog 15 #[.pointer (some ⟨g, 0, none⟩), .int .i64 p] w (IntsOf L w) := by
  have := all_any g l p w h
  rw [hL] at this
  exact this

/-- Far below, where only what a block of the call's own holds has turned. -/
theorem bone {B g : Nat} {a b c : World} (h : Below B a b) (k : b.grownBy c (some g)) (hB : B ≤ b.heap.size) (hg : B ≤ g) : Below B a c := h.grown k hB (fun i hi => by injection hi with hi; omega)

theorem awake_any (w : World) : Calls Try.prog 10 #[] w fun e w' => e = .returned (.bool true) ∧ Below w.heap.size w w' := by
  go_enter Try.func10, Try.ntmps10
  go_wp2_with fail
  refine (pnew 3 _ (by omega) (by omega)).mono ?_
  rintro e w1 ⟨rfl, t1, b1⟩
  generalize hg : w.heap.size = g at *
  rw [show free (3 : Int).toNat = [-1, -1, -1] from rfl] at t1
  have hs1 := b1.size
  have hgw : g ≤ w.heap.size := by omega
  have HG := Lib.hid hg; clear hg
  go_wp2_with fail
  refine (new_no 0 _ (by omega)).mono ?_
  rintro e w' ⟨rfl, rfl⟩
  go_wp2_with fail
  refine (num_any _ _).mono ?_
  rintro e w' ⟨rfl, rfl⟩
  go_wp2_with fail
  refine (pset_is g _ [-1, 2, -1] _ _ 0 _ t1 rfl rfl).mono ?_
  rintro e w2 ⟨rfl, t2, b2⟩
  have b2' := bone b1 b2 (by omega) (by omega)
  go_wp2_with fail
  refine (pset_is g _ [-1, 2, -2] _ _ 0 _ t2 rfl rfl).mono ?_
  rintro e w3 ⟨rfl, t3, b3⟩
  have b3' := bone b2' b3 (by have := b2'.size; omega) (by omega)
  go_wp2_with fail
  refine (pset_is g _ [-1, 2, -2] _ _ 200 _ t3 rfl rfl).mono ?_
  rintro e w4 ⟨rfl, t4, b4⟩
  have b4' := bone b3' b4 (by have := b3'.size; omega) (by omega)
  clear t1 t2 t3 b1 b2 b3 b4 b2' b3'
  have hs4 := b4'.size
  go_wp2_with fail
  refine (pof_is g _ _ 2 0 _ t4 rfl rfl).mono ?_
  rintro e w' ⟨rfl, rfl⟩
  go_wp2_with fail
  refine (pof_is g _ _ (-1) 0 _ t4 rfl rfl).mono ?_
  rintro e w' ⟨rfl, rfl⟩
  go_wp2_with fail
  refine (pof_is g _ _ 0 200 _ t4 rfl rfl).mono ?_
  rintro e w' ⟨rfl, rfl⟩
  go_wp2_with (go_at_call 9; refine (num_any _ _).mono ?_; rintro e w' ⟨rfl, rfl⟩)
  refine (all_is g _ [1] _ _ t4 rfl).mono ?_
  rintro e w5 ⟨v, rfl, ho, b5⟩
  have t5 := t4.below b5 t4.lt
  have b5' := Below.down b4' b5 (by omega)
  have hs5 := b5'.size
  have s5 := (Sl.own ho).below ((Below.refl _ _).alloc (Nat.le_refl _) (.cells #[.int .i64 1] 3))
  have b6 := b5'.alloc (by omega) (.cells #[.int .i64 1] 3)
  have t6 := t5.below ((Below.refl _ _).alloc (Nat.le_refl _) (.cells #[.int .i64 1] 3)) t5.lt
  clear ho b5 t4 t5 b4' b5'
  go_wp2_with fail
  refine (same_ints _ _ [1] _ s5 (Sl.lit w5 [.int .i64 1] 1 1 3 rfl) (by decide)).mono ?_
  rintro e w' ⟨rfl, q, rfl⟩
  clear s5
  replace t6 := t6.drewN q
  replace b6 := bdrewN b6 q
  have hs6 := b6.size
  generalize (w5.alloc (.cells #[.int .i64 1] 3)).drewN q = w6 at *
  go_wp2_with fail
  refine (all_is g _ [0] _ _ t6 rfl).mono ?_
  rintro e w7 ⟨v7, rfl, ho, b7⟩
  have b7' := Below.down b6 b7 (by omega)
  have hs7 := b7'.size
  have s7 := (Sl.own ho).below ((Below.refl _ _).alloc (Nat.le_refl _) (.cells #[.int .i64 0] 3))
  have b8 := b7'.alloc (by omega) (.cells #[.int .i64 0] 3)
  clear ho b7 t6 b7' b6
  go_wp2_with fail
  refine (same_ints _ _ [0] _ s7 (Sl.lit w7 [.int .i64 0] 1 1 3 rfl) (by decide)).mono ?_
  rintro e w' ⟨rfl, q2, rfl⟩
  clear s7
  replace b8 := bdrewN b8 q2
  go_wp2_with fail
  go_ret
  exact ⟨rfl, by rw [HG.out]; exact b8⟩

end Go.Proofs.Ytcplbjidilddiaa
