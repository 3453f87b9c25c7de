/-
  The contract of layer 4's awake: it answers true, whatever the world. And contracts of answers that are known.
-/
import Derived.Test.YthfcmhghjkmjbaaPte3
namespace Go.Proofs.Ythfcmhghjkmjbaa
open Go.RowKit
set_option linter.unusedVariables false

theorem eput_is (f p n c : Int) (w : World) (hn : eN f p = n) (hc : e4 (eB f p) = c) :
    Calls Try.prog 8 #[.agg #[.int .i64 f, .int .i64 p]] w fun e w' => e = .returned (.tuple #[.int .i64 n, .int .i64 c]) ∧ Below w.heap.size w w' := by
  subst hn hc; exact eput_any f p w
theorem eget_is (x f p c : Int) (w : World) (hf : gF x = f) (hp : gP x = p) (hc : e4 (gB x) = c) :
    Calls Try.prog 10 #[.int .i64 x] w fun e w' => e = .returned (.tuple #[.agg #[.int .i64 f, .int .i64 p], .int .i64 c]) ∧ Below w.heap.size w w' := by
  subst hf hp hc; exact eget_any x w
theorem emay_is (f p : Int) (b : Bool) (w : World) (hb : eB f p = b) :
    Calls Try.prog 13 #[.agg #[.int .i64 f, .int .i64 p]] w fun e w' => e = .returned (.bool b) ∧ Below w.heap.size w w' := by
  subst hb; exact emay_any f p w

set_option maxHeartbeats 1000000 in
theorem eawake_any (w : World) : Calls Try.prog 15 #[] w fun e w' => e = .returned (.bool true) ∧ Below w.heap.size w w' := by
  go_enter Try.func15, Try.ntmps15
  go_wp2_with fail
  refine (eput_is 5 2 20485 0 _ rfl rfl).mono ?_
  rintro e w1 ⟨rfl, b1⟩
  have hs1 := b1.size
  go_wp2_with fail
  refine (eget_is 20485 5 2 0 _ rfl rfl rfl).mono ?_
  rintro e w2 ⟨rfl, b2⟩
  have hs2 := b2.size
  have t3 := Blk.new w2 23 [.int .i64 5, .int .i64 2]
  have b3 := ((Below.down b1 b2 hs1).alloc (by omega) (.cells #[.int .i64 5, .int .i64 2] 23))
  have hs3 := b3.size
  go_wp2_with fail
  generalize hw3 : w2.alloc (.cells #[.int .i64 5, .int .i64 2] 23) = w3 at *
  generalize hg : w2.heap.size = g at *
  clear hw3 b1 b2 hs1 hg
  refine (eget_is 2 0 0 400 _ rfl rfl rfl).mono ?_
  rintro e w4 ⟨rfl, b4⟩
  have hs4 := b4.size
  have t4 := (t3.below b4 t3.lt).alloc (.cells #[.int .i64 0, .int .i64 0] 23)
  have b5 := (Below.down b3 b4 hs3).alloc (by omega) (.cells #[.int .i64 0, .int .i64 0] 23)
  go_wp2_with fail
  generalize hw5 : w4.alloc (.cells #[.int .i64 0, .int .i64 0] 23) = w5 at *
  have hs5 := b5.size
  clear hw5 b3 b4 hs3 t3
  refine (eput_is 5 0 0 400 _ rfl rfl).mono ?_
  rintro e w6 ⟨rfl, b6⟩
  have t6 := t4.below b6 t4.lt
  have b7 := Below.down b5 b6 hs5
  have hs7 := b7.size
  obtain ⟨c0, c1, _, _⟩ := two_at t6
  clear t4 b6 b5 hs5
  go_wp2_with (go_at_call 12; refine (num_any _ _).mono ?_; rintro e w' ⟨rfl, rfl⟩)
  refine (emay_is 0 0 true _ rfl).mono ?_
  rintro e w8 ⟨rfl, b8⟩
  have b9 := Below.down b7 b8 hs7
  have hs9 := b9.size
  clear b7 b8 hs7 c0 c1 t6
  go_wp2_with fail
  refine (emay_is 64 1 false _ rfl).mono ?_
  rintro e w10 ⟨rfl, b10⟩
  have b11 := Below.down b9 b10 hs9
  go_wp2_with fail
  go_ret
  exact ⟨rfl, b11⟩

end Go.Proofs.Ythfcmhghjkmjbaa
