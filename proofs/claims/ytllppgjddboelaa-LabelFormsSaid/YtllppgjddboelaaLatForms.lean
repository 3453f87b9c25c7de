/-
  Layer 9's law LabelForms: it answers true for every input.
-/
import Derived.Test.YtllppgjddboelaaLatAwake
namespace Go.Proofs.Ytllppgjddboelaa
open Go.RowKit
set_option linter.unusedVariables false
set_option maxRecDepth 100000

/-- The law's own labels. -/
def badL (X : Int) : List Value := [.int .i64 (3 + (1 + X)), .int .i64 0, .int .i64 (-(1 + X)), .int .i64 0, .int .i64 0, .int .i64 (15 + (1 + X)), .int .i64 0, .int .i64 (-(1 + X))]
theorem badl_at (X : Int) (h : 0 ≤ X) (i : Nat) (hi : i < 4) : ∃ f p : Int, (badL X)[i * 2]? = some (.int .i64 f) ∧ (badL X)[i * 2 + 1]? = some (.int .i64 p) ∧ lB f p = false := by
  match i, hi with
  | 0, _ => exact ⟨_, _, rfl, rfl, lB_no _ _ (by omega)⟩
  | 1, _ => exact ⟨_, _, rfl, rfl, lB_no _ _ (by omega)⟩
  | 2, _ => exact ⟨_, _, rfl, rfl, lB_no _ _ (by omega)⟩
  | 3, _ => exact ⟨_, _, rfl, rfl, lB_no _ _ (by omega)⟩

set_option maxHeartbeats 4000000 in
theorem law_LabelForms (a x : Int) (w0 : (Lit.int .i64 a).wf = true) (w1 : (Lit.int .i64 x).wf = true) (w : World) :
    Calls Try.prog 5 #[.int .i64 a, .int .i64 x] w fun e w' => e = .returned (.bool true) ∧ Below w.heap.size w w' := by
  have hX := band x 1023 (by omega) (by omega)
  have hU := u64b a
  generalize hX' : bits BinOp.and IntKind.i64 x 1023 = X at hX
  generalize hU' : IntKind.u64.wrap a = U at hU
  obtain ⟨hX0, hX1⟩ := hX
  obtain ⟨hU0, hU1⟩ := hU
  obtain ⟨i, hI⟩ := Int.eq_ofNat_of_zero_le (show 0 ≤ U % 4 by omega)
  have hi : i < 4 := by omega
  have hi' : (i : Int) < 4 := by omega
  obtain ⟨f, p, hf, hp, hb⟩ := badl_at X hX0 i hi
  have HB := Lib.hid hb
  clear w0 w1 hb
  have hz : lB 3 15 = true := rfl
  have HJ := Lib.hid (join_no 3 15 f p (.inr HB.out))
  have HK := Lib.hid (join_no f p 3 15 (.inl HB.out))
  clear hz
  go_enter Try.func5, Try.ntmps5
  go_wp2_with fail
  refine (lawake_any _).mono ?_
  rintro e w2 ⟨rfl, b2⟩
  have s2 := ((Bks.start 23 w).next b2).push [.int .i64 3, .int .i64 15]
  have hs := s2.size
  have s3 := s2.push (badL X)
  rw [World.size_alloc] at s3
  have c0 := s3.cell 0 rfl (i * 2)
  have c1 := s3.cell 0 rfl (i * 2 + 1)
  rw [hf] at c0
  rw [hp] at c1
  unfold badL at c0 c1 hf hp
  go_wp2_with fail
  unfold badL at s3
  replace s3 := s3.push [.int .i64 f, .int .i64 p]
  simp only [World.size_alloc] at s3
  clear s2 c0 c1 b2 hs hf hp
  generalize ((w2.alloc (.cells #[.int .i64 3, .int .i64 15] 23)).alloc (.cells #[.int .i64 (3 + (1 + X)), .int .i64 0, .int .i64 (-(1 + X)), .int .i64 0, .int .i64 0, .int .i64 (15 + (1 + X)), .int .i64 0, .int .i64 (-(1 + X))] 23)).alloc (.cells #[.int .i64 f, .int .i64 p] 23) = w3 at *
  generalize w2.heap.size + 1 + 1 = p2 at *
  generalize w2.heap.size + 1 = p1 at *
  generalize w2.heap.size = p0 at *
  refine (ljoin_is 3 15 f p 0 0 900 _ HJ.out.1 HJ.out.2.1 HJ.out.2.2).mono ?_
  rintro e w4 ⟨rfl, b4⟩
  have s4 := (s3.next b4).push [.int .i64 0, .int .i64 0]
  clear s3 b4
  obtain ⟨a0, a1, -, -⟩ := s4.two 1 rfl
  obtain ⟨a2, a3, -, -⟩ := s4.two 3 rfl
  go_wp2_with fail
  generalize w4.alloc (.cells #[.int .i64 0, .int .i64 0] 23) = w5 at *
  generalize w4.heap.size = p3 at *
  clear a0 a1 a2 a3
  refine (ljoin_is f p 3 15 0 0 900 _ HK.out.1 HK.out.2.1 HK.out.2.2).mono ?_
  rintro e w6 ⟨rfl, b6⟩
  have s6 := (s4.next b6).push [.int .i64 0, .int .i64 0]
  clear s4 b6
  obtain ⟨a0, a1, -, -⟩ := s6.two 2 rfl
  obtain ⟨a2, a3, -, -⟩ := s6.two 4 rfl
  go_wp2_with fail
  generalize w6.alloc (.cells #[.int .i64 0, .int .i64 0] 23) = w7 at *
  generalize w6.heap.size = p4 at *
  clear a0 a1 a2 a3
  refine (ljoin_is 3 15 0 0 3 15 0 _ rfl rfl rfl).mono ?_
  rintro e w8 ⟨rfl, b8⟩
  have s8 := (s6.next b8).push [.int .i64 3, .int .i64 15]
  clear s6 b8
  obtain ⟨a0, a1, -, -⟩ := s8.two 3 rfl
  go_wp2_with fail
  generalize w8.alloc (.cells #[.int .i64 3, .int .i64 15] 23) = w9 at *
  generalize w8.heap.size = p5 at *
  clear a0 a1
  have HM := Lib.hid (lD_no 3 15 f p (.inr HB.out))
  have HN := Lib.hid (lD_no f p 0 0 (.inl HB.out))
  have HO := Lib.hid (lD_no f p f p (.inl HB.out))
  refine (lmay_is f p false _ HB.out).mono ?_
  rintro e w11 ⟨rfl, b10⟩
  have s10 := s8.next b10
  clear s8 b10
  obtain ⟨a0, a1, -, -⟩ := s10.two 3 rfl
  obtain ⟨a2, a3, -, -⟩ := s10.two 5 rfl
  obtain ⟨a4, a5, -, -⟩ := s10.two 2 rfl
  obtain ⟨a6, a7, -, -⟩ := s10.two 1 rfl
  obtain ⟨a8, a9, -, -⟩ := s10.two 0 rfl
  go_wp2_with (go_at_call 9; refine (num_any _ _).mono ?_; rintro e w' ⟨rfl, rfl⟩)
  clear a0 a1 a2 a3 a4 a5 a6 a7 a8 a9
  refine (ldom_is 3 15 f p false _ HM.out).mono ?_
  rintro e w13 ⟨rfl, b12⟩
  have s12 := s10.next b12
  clear s10 b12
  obtain ⟨a0, a1, -, -⟩ := s12.two 3 rfl
  obtain ⟨a2, a3, -, -⟩ := s12.two 5 rfl
  obtain ⟨a4, a5, -, -⟩ := s12.two 2 rfl
  obtain ⟨a6, a7, -, -⟩ := s12.two 1 rfl
  obtain ⟨a8, a9, -, -⟩ := s12.two 0 rfl
  go_wp2_with (go_at_call 9; refine (num_any _ _).mono ?_; rintro e w' ⟨rfl, rfl⟩)
  clear a0 a1 a2 a3 a4 a5 a6 a7 a8 a9
  refine (ldom_is f p 0 0 false _ HN.out).mono ?_
  rintro e w15 ⟨rfl, b14⟩
  have s14 := s12.next b14
  clear s12 b14
  obtain ⟨a0, a1, -, -⟩ := s14.two 3 rfl
  obtain ⟨a2, a3, -, -⟩ := s14.two 5 rfl
  obtain ⟨a4, a5, -, -⟩ := s14.two 2 rfl
  obtain ⟨a6, a7, -, -⟩ := s14.two 1 rfl
  obtain ⟨a8, a9, -, -⟩ := s14.two 0 rfl
  go_wp2_with (go_at_call 9; refine (num_any _ _).mono ?_; rintro e w' ⟨rfl, rfl⟩)
  clear a0 a1 a2 a3 a4 a5 a6 a7 a8 a9
  refine (ldom_is f p f p false _ HO.out).mono ?_
  rintro e w17 ⟨rfl, b16⟩
  have s16 := s14.next b16
  clear s14 b16
  obtain ⟨a0, a1, -, -⟩ := s16.two 3 rfl
  obtain ⟨a2, a3, -, -⟩ := s16.two 5 rfl
  obtain ⟨a4, a5, -, -⟩ := s16.two 2 rfl
  obtain ⟨a6, a7, -, -⟩ := s16.two 1 rfl
  obtain ⟨a8, a9, -, -⟩ := s16.two 0 rfl
  go_wp2_with (go_at_call 9; refine (num_any _ _).mono ?_; rintro e w' ⟨rfl, rfl⟩)
  go_ret
  exact ⟨rfl, s16.below⟩

end Go.Proofs.Ytllppgjddboelaa
