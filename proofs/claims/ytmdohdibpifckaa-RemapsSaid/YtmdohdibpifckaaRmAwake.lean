/-
  The contract of layer 11's awake: it answers true, whatever the world. And contracts whose answers are known.
-/
import Derived.Test.YtmdohdibpifckaaRm2
import Derived.Test.YtmdohdibpifckaaNum
namespace Go.Proofs.Ytmdohdibpifckaa
open Go.RowKit
set_option linter.unusedVariables false
set_option maxRecDepth 100000

/-- A table of the law's own, and nothing turned of what was there. -/
structure RtS (W : World) (g D : Nat) (T : List Ro) (w : World) : Prop where
  t : PR w g D T
  b : Below W.heap.size W w
  le : W.heap.size ≤ g

section
variable {W w w' : World} {g D : Nat} {T T' : List Ro}
theorem RtS.put (h : RtS W g D T w) (t : PR w' g D T') (gr : w.grownBy w' (some g)) : RtS W g D T' w' := ⟨t, bone h.b gr h.b.size h.le, h.le⟩
theorem RtS.drewN (h : RtS W g D T w) (n : Nat) : RtS W g D T (w.drewN n) := ⟨h.t.drewN n, bdrewN h.b n, h.le⟩
theorem RtS.alloc (h : RtS W g D T w) (o : Obj) : RtS W g D T (w.alloc o) := ⟨h.t.alloc o, h.b.alloc h.b.size o, h.le⟩
theorem RtS.below (h : RtS W g D T w) (k : Below w.heap.size w w') : RtS W g D T w' := ⟨h.t.below k h.t.lt, Below.down h.b k h.b.size, h.le⟩
end

theorem pmnew (c : Int) (w : World) (h1 : 1 ≤ c) (h2 : c ≤ 4) :
    Calls Try.prog 7 #[.int .i64 c] w fun e w' => e = .returned (.tuple #[.pointer (some ⟨w.heap.size, 0, none⟩), .int .i64 0]) ∧ PR w' w.heap.size c.toNat newT ∧ Below w.heap.size w w' := by
  obtain ⟨n, rfl⟩ := Int.eq_ofNat_of_zero_le (show 0 ≤ c by omega)
  rw [Int.toNat_natCast]
  exact pmnew_yes n w (by omega) (by omega)
theorem pmset_is (g D : Nat) (T T' : List Ro) (d v p c : Int) (w : World) (h : PR w g D T) (hT : rsT D T d v p = T') (hc : rsC D d v p = c) :
    Calls Try.prog 11 #[.pointer (some ⟨g, 0, none⟩), .int .i64 d, .int .i64 v, .int .i64 p] w fun e w' => e = .returned (.int .i64 c) ∧ PR w' g D T' ∧ w.grownBy w' (some g) := by
  have := pmset_any g D T d v p w h
  rw [hT, hc] at this
  exact this
theorem pmunset_is (g D : Nat) (T T' : List Ro) (d v c : Int) (w : World) (h : PR w g D T) (hT : ruT D T d v = T') (hc : reC D T d v = c) :
    Calls Try.prog 13 #[.pointer (some ⟨g, 0, none⟩), .int .i64 d, .int .i64 v] w fun e w' => e = .returned (.int .i64 c) ∧ PR w' g D T' ∧ w.grownBy w' (some g) := by
  have := pmunset_any g D T d v w h
  rw [hT, hc] at this
  exact this
theorem pmmask_is (g D : Nat) (T T' : List Ro) (d v c : Int) (m : Bool) (w : World) (h : PR w g D T) (hT : rmT D T d v m = T') (hc : reC D T d v = c) :
    Calls Try.prog 15 #[.pointer (some ⟨g, 0, none⟩), .int .i64 d, .int .i64 v, .bool m] w fun e w' => e = .returned (.int .i64 c) ∧ PR w' g D T' ∧ w.grownBy w' (some g) := by
  have := pmmask_any g D T d v m w h
  rw [hT, hc] at this
  exact this
theorem pmlook_is (g D : Nat) (T : List Ro) (d v p c : Int) (m : Bool) (w : World) (h : PR w g D T) (hp : rlP D T d v = p) (hm : rlM D T d v = m) (hc : reC D T d v = c) :
    Calls Try.prog 19 #[.pointer (some ⟨g, 0, none⟩), .int .i64 d, .int .i64 v] w fun e w' => e = .returned (.tuple #[.int .i64 p, .bool m, .int .i64 c]) ∧ ∃ q, w' = w.drewN q := by
  have := pmlook_any g D T d v w h
  rw [hp, hm, hc] at this
  exact this
theorem pmclear_is (g D : Nat) (T T' : List Ro) (d c : Int) (w : World) (h : PR w g D T) (hT : rcT D T d = T') (hc : rcC D d = c) :
    Calls Try.prog 17 #[.pointer (some ⟨g, 0, none⟩), .int .i64 d] w fun e w' => e = .returned (.int .i64 c) ∧ PR w' g D T' ∧ w.grownBy w' (some g) := by
  have := pmclear_any g D T d w h
  rw [hT, hc] at this
  exact this

/-- The tables on awake's way. -/
def rmA : List Ro := rsT 2 newT 1 3 2
def rmB : List Ro := rmT 2 rmA 1 3 true
def rmC : List Ro := rcT 2 rmB 1

set_option maxHeartbeats 1000000 in
theorem rmawake_any (w : World) : Calls Try.prog 10 #[] w fun e w' => e = .returned (.bool true) ∧ Below w.heap.size w w' := by
  go_enter Try.func10, Try.ntmps10
  go_wp2_with fail
  refine (pmnew 2 _ (by omega) (by omega)).mono ?_
  rintro e w1 ⟨rfl, t1, b1⟩
  generalize hg : w.heap.size = g at *
  rw [show (2 : Int).toNat = 2 from rfl] at t1
  have s1 : RtS w g 2 newT w1 := ⟨t1, by rw [hg]; exact b1, by omega⟩
  clear t1 b1 hg
  go_wp2_with fail
  refine (pmnew_no 5 _ (by omega)).mono ?_
  rintro e w' ⟨rfl, rfl⟩
  go_wp2_with fail
  refine (num_any _ _).mono ?_
  rintro e w' ⟨rfl, rfl⟩
  go_wp2_with fail
  refine (pmset_is g 2 _ rmA 1 3 2 0 _ s1.t rfl rfl).mono ?_
  rintro e w2 ⟨rfl, t2, g2⟩
  have s2 := s1.put t2 g2
  clear s1 t2 g2
  go_wp2_with fail
  refine (pmmask_is g 2 _ rmB 1 3 0 true _ s2.t rfl rfl).mono ?_
  rintro e w3 ⟨rfl, t3, g3⟩
  have s3 := s2.put t3 g3
  clear s2 t3 g3
  go_wp2_with fail
  refine (pmlook_is g 2 _ 1 3 2 0 true _ s3.t rfl rfl rfl).mono ?_
  rintro e w' ⟨rfl, q, rfl⟩
  replace s3 := s3.drewN q
  generalize w3.drewN q = w3' at *
  go_wp2_with fail
  refine (pmmask_is g 2 _ rmB 0 3 1101 true _ s3.t rfl rfl).mono ?_
  rintro e w4 ⟨rfl, t4, g4⟩
  have s4 := s3.put t4 g4
  clear s3 t4 g4
  go_wp2_with fail
  refine (pmlook_is g 2 _ 2 3 0 1100 false _ s4.t rfl rfl rfl).mono ?_
  rintro e w' ⟨rfl, q, rfl⟩
  replace s4 := s4.drewN q
  generalize w4.drewN q = w4' at *
  go_wp2_with fail
  refine (pmset_is g 2 _ rmB 1 8 2 1100 _ s4.t rfl rfl).mono ?_
  rintro e w5 ⟨rfl, t5, g5⟩
  have s5 := s4.put t5 g5
  clear s4 t5 g5
  go_wp2_with fail
  refine (pmclear_is g 2 _ rmC 1 0 _ s5.t rfl rfl).mono ?_
  rintro e w6 ⟨rfl, t6, g6⟩
  have s6 := s5.put t6 g6
  clear s5 t6 g6
  go_wp2_with fail
  refine (pmlook_is g 2 _ 1 3 0 1101 false _ s6.t rfl rfl rfl).mono ?_
  rintro e w' ⟨rfl, q, rfl⟩
  replace s6 := s6.drewN q
  generalize w6.drewN q = w6' at *
  go_wp2_with fail
  refine (pmunset_is g 2 _ rmC 1 3 1101 _ s6.t rfl rfl).mono ?_
  rintro e w7 ⟨rfl, t7, g7⟩
  have s7 := s6.put t7 g7
  clear s6 t7 g7
  go_wp2_with (go_at_call 9; refine (num_any _ _).mono ?_; rintro e w' ⟨rfl, rfl⟩)
  go_ret
  exact ⟨rfl, s7.b⟩

end Go.Proofs.Ytmdohdibpifckaa
