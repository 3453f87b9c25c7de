/-
  The contract of layer 9's awake: it answers true, whatever the world. And contracts of answers that are known.
-/
import Derived.Test.YtllppgjddboelaaLat1
import Derived.Test.YtllppgjddboelaaBks
namespace Go.Proofs.Ytllppgjddboelaa
open Go.RowKit
set_option linter.unusedVariables false
set_option maxRecDepth 100000

theorem ljoin_is (l c l' c' x y z : Int) (w : World) (hx : jL l c l' c' = x) (hy : jC l c l' c' = y) (hz : jE l c l' c' = z) :
    Calls Try.prog 7 #[.agg #[.int .i64 l, .int .i64 c], .agg #[.int .i64 l', .int .i64 c']] w fun e w' => e = .returned (.tuple #[.agg #[.int .i64 x, .int .i64 y], .int .i64 z]) ∧ Below w.heap.size w w' := by
  subst hx hy hz; exact ljoin_any l c l' c' w
theorem ldom_is (l c l' c' : Int) (b : Bool) (w : World) (h : lD l c l' c' = b) :
    Calls Try.prog 10 #[.agg #[.int .i64 l, .int .i64 c], .agg #[.int .i64 l', .int .i64 c']] w fun e w' => e = .returned (.bool b) ∧ Below w.heap.size w w' := by
  subst h; exact ldom_any l c l' c' w
theorem rldom_is (l c l' c' : Int) (b : Bool) (w : World) (h : lD l c l' c' = b) :
    Calls Try.prog 11 #[.agg #[.int .i64 l, .int .i64 c], .agg #[.int .i64 l', .int .i64 c']] w fun e w' => e = .returned (.bool b) ∧ Below w.heap.size w w' := by
  subst h; exact rldom_any l c l' c' w

set_option maxHeartbeats 2000000 in
theorem lawake_any (w : World) : Calls Try.prog 14 #[] w fun e w' => e = .returned (.bool true) ∧ Below w.heap.size w w' := by
  have s0 := ((Bks.start 23 w).push [.int .i64 2, .int .i64 5]).push [.int .i64 1, .int .i64 4]
  rw [World.size_alloc] at s0
  go_enter Try.func14, Try.ntmps14
  go_wp2_with fail
  change Calls _ _ _ ((w.alloc (.cells [Value.int .i64 2, .int .i64 5].toArray 23)).alloc (.cells [Value.int .i64 1, .int .i64 4].toArray 23)) _
  generalize (w.alloc (.cells [Value.int .i64 2, .int .i64 5].toArray 23)).alloc (.cells [Value.int .i64 1, .int .i64 4].toArray 23) = w1 at *
  refine (ljoin_is 2 5 3 2 3 7 0 _ rfl rfl rfl).mono ?_
  rintro e w2 ⟨rfl, b2⟩
  have s2 := (s0.next b2).push [.int .i64 3, .int .i64 7]
  obtain ⟨a0, a1, _, _⟩ := s2.two 2 rfl
  clear s0 b2
  go_wp2_with fail
  change Calls _ _ _ (w2.alloc (.cells [Value.int .i64 3, .int .i64 7].toArray 23)) _
  generalize w2.alloc (.cells [Value.int .i64 3, .int .i64 7].toArray 23) = w3 at *
  generalize w2.heap.size = g2 at *
  refine (ljoin_is 2 5 4 0 0 0 900 _ rfl rfl rfl).mono ?_
  rintro e w4 ⟨rfl, b4⟩
  have s4 := (s2.next b4).far (.cells #[.int .i64 0, .int .i64 0] 23)
  clear s2 b4 a0 a1
  obtain ⟨a0, a1, _, _⟩ := s4.two 2 rfl
  obtain ⟨a2, a3, _, _⟩ := s4.two 1 rfl
  go_wp2_with fail
  generalize w4.alloc (.cells #[.int .i64 0, .int .i64 0] 23) = w5 at *
  generalize w4.heap.size = g4 at *
  refine (ldom_is 2 5 1 4 true _ rfl).mono ?_
  rintro e w6 ⟨rfl, b6⟩
  have s6 := s4.next b6
  clear s4 b6 a0 a1 a2 a3
  obtain ⟨a0, a1, _, _⟩ := s6.two 2 rfl
  obtain ⟨a2, a3, _, _⟩ := s6.two 1 rfl
  obtain ⟨a4, a5, _, _⟩ := s6.two 0 rfl
  go_wp2_with (go_at_call 9; refine (num_any _ _).mono ?_; rintro e w' ⟨rfl, rfl⟩)
  clear a4 a5
  refine (ldom_is 1 4 2 5 false _ rfl).mono ?_
  rintro e w7 ⟨rfl, b7⟩
  have s7 := s6.next b7
  clear s6 b7 a0 a1 a2 a3
  obtain ⟨a0, a1, _, _⟩ := s7.two 2 rfl
  obtain ⟨a2, a3, _, _⟩ := s7.two 1 rfl
  obtain ⟨a4, a5, _, _⟩ := s7.two 0 rfl
  go_wp2_with (go_at_call 9; refine (num_any _ _).mono ?_; rintro e w' ⟨rfl, rfl⟩)
  clear a4 a5
  refine (ldom_is 2 5 2 5 true _ rfl).mono ?_
  rintro e w8 ⟨rfl, b8⟩
  have s8 := s7.next b8
  clear s7 b8 a0 a1 a2 a3
  obtain ⟨a0, a1, _, _⟩ := s8.two 2 rfl
  obtain ⟨a2, a3, _, _⟩ := s8.two 1 rfl
  obtain ⟨a4, a5, _, _⟩ := s8.two 0 rfl
  go_wp2_with (go_at_call 9; refine (num_any _ _).mono ?_; rintro e w' ⟨rfl, rfl⟩)
  clear a4 a5
  refine (ldom_is 2 5 0 2 false _ rfl).mono ?_
  rintro e w9 ⟨rfl, b9⟩
  have s9 := s8.next b9
  clear s8 b9 a0 a1 a2 a3
  obtain ⟨a0, a1, _, _⟩ := s9.two 2 rfl
  obtain ⟨a2, a3, _, _⟩ := s9.two 1 rfl
  obtain ⟨a4, a5, _, _⟩ := s9.two 0 rfl
  go_wp2_with (go_at_call 9; refine (num_any _ _).mono ?_; rintro e w' ⟨rfl, rfl⟩)
  clear a4 a5
  refine (lmay_is 2 5 true _ rfl).mono ?_
  rintro e w10 ⟨rfl, b10⟩
  have s10 := s9.next b10
  clear s9 b10 a0 a1 a2 a3
  obtain ⟨a0, a1, _, _⟩ := s10.two 2 rfl
  obtain ⟨a2, a3, _, _⟩ := s10.two 1 rfl
  obtain ⟨a4, a5, _, _⟩ := s10.two 0 rfl
  go_wp2_with (go_at_call 9; refine (num_any _ _).mono ?_; rintro e w' ⟨rfl, rfl⟩)
  clear a4 a5
  refine (lmay_is 0 16 false _ rfl).mono ?_
  rintro e w11 ⟨rfl, b11⟩
  have s11 := s10.next b11
  clear s10 b11 a0 a1 a2 a3
  obtain ⟨a0, a1, _, _⟩ := s11.two 2 rfl
  obtain ⟨a2, a3, _, _⟩ := s11.two 1 rfl
  obtain ⟨a4, a5, _, _⟩ := s11.two 0 rfl
  go_wp2_with (go_at_call 9; refine (num_any _ _).mono ?_; rintro e w' ⟨rfl, rfl⟩)
  clear a4 a5
  go_ret
  exact ⟨rfl, s11.below⟩

end Go.Proofs.Ytllppgjddboelaa
