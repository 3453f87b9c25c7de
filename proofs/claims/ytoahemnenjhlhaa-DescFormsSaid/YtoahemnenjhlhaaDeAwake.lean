/-
  The contract of layer 16's awake: it answers true, whatever the world. And contracts of answers that are known.
-/
import Derived.Test.YtoahemnenjhlhaaDe2
import Derived.Test.YtoahemnenjhlhaaDe4
import Derived.Test.YtoahemnenjhlhaaNum
namespace Go.Proofs.Ytoahemnenjhlhaa
open Go.RowKit
set_option linter.unusedVariables false
set_option maxRecDepth 100000

theorem deget_is (s : ByteArray) (D : Value) (w : World) (h : degV s.data.toList = D) :
    Calls Try.prog 9 #[.string s] w fun e w' => e = .returned D ∧ Below w.heap.size w w' := by
  subst h; exact deget_any s w
theorem demay_is (o x l b n : Int) (B : Bool) (w : World) (h : deB o x l b n = B) :
    Calls Try.prog 12 #[.agg #[.int .i64 o, .int .i64 x, .int .i64 l, .int .i64 b, .int .i64 n]] w fun e w' => e = .returned (.bool B) ∧ Below w.heap.size w w' := by
  subst h; exact demay_any o x l b n w

set_option maxHeartbeats 2000000 in
theorem deawake_any (w : World) :
    Calls Try.prog 14 #[] w fun e w' => e = .returned (.bool true) ∧ Below w.heap.size w w' := by
  go_enter Try.func14, Try.ntmps14
  go_wp2_with fail
  have t0 := Blk.new w 23 [.int .i64 1, .int .i64 255, .int .i64 258, .int .i64 772, .int .i64 2]
  have z0 : Below w.heap.size w (w.alloc (.cells #[.int .i64 1, .int .i64 255, .int .i64 258, .int .i64 772, .int .i64 2] 23)) := (Below.refl _ _).alloc (Nat.le_refl _) _
  generalize w.alloc (.cells #[.int .i64 1, .int .i64 255, .int .i64 258, .int .i64 772, .int .i64 2] 23) = w1 at *
  refine (deput_is 1 255 258 772 2 0 ⟨#[1, 255, 2, 1, 4, 3, 2, 0]⟩ _ (by kernel_rfl) (by kernel_rfl)).mono ?_
  rintro e w2 ⟨rfl, b2⟩
  have t2 := t0.below b2 t0.lt
  have z2 := Below.down z0 b2 z0.size
  have s2 := z2.size
  clear t0 z0 b2
  go_wp2_with fail
  refine (deget_is ⟨#[1, 255, 2, 1, 4, 3, 2, 0]⟩ (.tuple #[.agg #[.int .i64 1, .int .i64 255, .int .i64 258, .int .i64 772, .int .i64 2], .int .i64 0]) _ (by kernel_rfl)).mono ?_
  rintro e w3 ⟨rfl, b3⟩
  have t3 := (t2.below b3 t2.lt).alloc (.cells #[.int .i64 1, .int .i64 255, .int .i64 258, .int .i64 772, .int .i64 2] 23)
  have u3 := Blk.new w3 23 [.int .i64 1, .int .i64 255, .int .i64 258, .int .i64 772, .int .i64 2]
  have z3 := (Below.down z2 b3 s2).alloc (Below.down z2 b3 s2).size (.cells #[.int .i64 1, .int .i64 255, .int .i64 258, .int .i64 772, .int .i64 2] 23)
  clear t2 z2 s2 b3
  go_wp2_with fail
  generalize w3.alloc (.cells #[.int .i64 1, .int .i64 255, .int .i64 258, .int .i64 772, .int .i64 2] 23) = w4 at *
  refine (deget_is _ (.tuple #[.agg #[.int .i64 0, .int .i64 0, .int .i64 0, .int .i64 0, .int .i64 0], .int .i64 1600]) _ ?hd).mono ?_
  case hd => exact degV_no (by kernel_rfl)
  rintro e w5 ⟨rfl, b5⟩
  have t5 := (t3.below b5 t3.lt).alloc (.cells #[.int .i64 0, .int .i64 0, .int .i64 0, .int .i64 0, .int .i64 0] 23)
  have u5 := (u3.below b5 u3.lt).alloc (.cells #[.int .i64 0, .int .i64 0, .int .i64 0, .int .i64 0, .int .i64 0] 23)
  have z6 := (Below.down z3 b5 z3.size).alloc (Below.down z3 b5 z3.size).size (.cells #[.int .i64 0, .int .i64 0, .int .i64 0, .int .i64 0, .int .i64 0] 23)
  clear t3 u3 z3 b5
  go_wp2_with fail
  generalize w5.alloc (.cells #[.int .i64 0, .int .i64 0, .int .i64 0, .int .i64 0, .int .i64 0] 23) = w6 at *
  refine (deput_is 0 8 0 0 0 1600 ⟨#[]⟩ _ (by kernel_rfl) (by kernel_rfl)).mono ?_
  rintro e w7 ⟨rfl, b7⟩
  have t7 := t5.below b7 t5.lt
  have u7 := u5.below b7 u5.lt
  have z7 := Below.down z6 b7 z6.size
  clear t5 u5 z6 b7
  obtain ⟨c0, c1, c2, c3, c4⟩ := five_at t7
  obtain ⟨d0, d1, d2, d3, d4⟩ := five_at u7
  generalize w3.heap.size = G2 at *
  go_wp2_with fail
  refine (num_any _ _).mono ?_; rintro e w' ⟨rfl, rfl⟩
  go_wp2_with fail
  refine (num_any _ _).mono ?_; rintro e w' ⟨rfl, rfl⟩
  go_wp2_with fail
  refine (num_any _ _).mono ?_; rintro e w' ⟨rfl, rfl⟩
  go_wp2_with fail
  refine (num_any _ _).mono ?_; rintro e w' ⟨rfl, rfl⟩
  go_wp2_with fail
  refine (demay_is 1 255 258 772 2 true _ (by kernel_rfl)).mono ?_
  rintro e w8 ⟨rfl, b8⟩
  have z8 := Below.down z7 b8 z7.size
  clear b8 z7
  go_wp2_with fail
  refine (demay_is 4 0 0 0 0 false _ (by kernel_rfl)).mono ?_
  rintro e w9 ⟨rfl, b9⟩
  have z9 := Below.down z8 b9 z8.size
  clear b9 z8
  go_wp2_with fail
  go_ret
  exact ⟨rfl, z9⟩

end Go.Proofs.Ytoahemnenjhlhaa
