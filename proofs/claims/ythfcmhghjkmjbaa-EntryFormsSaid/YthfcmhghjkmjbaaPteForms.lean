/-
  Layer 4's law EntryForms: it answers true for every input.
-/
import Derived.Test.YthfcmhghjkmjbaaPteLaws
namespace Go.Proofs.Ythfcmhghjkmjbaa
open Go.RowKit
set_option linter.unusedVariables false

/-- The law's own entries, and its words. -/
def badC (X : Int) : List Value := [.int .i64 (1 + X), .int .i64 0, .int .i64 (-(1 + X)), .int .i64 0, .int .i64 0, .int .i64 (3 + (1 + X)), .int .i64 0, .int .i64 (-(1 + X)), .int .i64 (63 + (1 + X)), .int .i64 1, .int .i64 (-(1 + X)), .int .i64 1]
def badW : List Value := [.int .i64 1, .int .i64 2, .int .i64 4, .int .i64 6, .int .i64 9, .int .i64 4096, .int .i64 11, .int .i64 262147, .int .i64 (-3), .int .i64 4294967299, .int .i64 2051]
theorem bad_at (X : Int) (h : 0 ≤ X) (i : Nat) (hi : i < 6) : ∃ f p : Int, (badC X)[i * 2]? = some (.int .i64 f) ∧ (badC X)[i * 2 + 1]? = some (.int .i64 p) ∧ eB f p = false := by
  match i, hi with
  | 0, _ => exact ⟨_, _, rfl, rfl, eB_no _ _ (by omega)⟩
  | 1, _ => exact ⟨_, _, rfl, rfl, eB_no _ _ (by omega)⟩
  | 2, _ => exact ⟨_, _, rfl, rfl, eB_no _ _ (by omega)⟩
  | 3, _ => exact ⟨_, _, rfl, rfl, eB_no _ _ (by omega)⟩
  | 4, _ => exact ⟨_, _, rfl, rfl, eB_no _ _ (by omega)⟩
  | 5, _ => exact ⟨_, _, rfl, rfl, eB_no _ _ (by omega)⟩
theorem badw_at (i : Nat) (hi : i < 11) : ∃ x : Int, badW[i]? = some (.int .i64 x) ∧ gB x = false := by
  match i, hi with
  | 0, _ => exact ⟨_, rfl, rfl⟩
  | 1, _ => exact ⟨_, rfl, rfl⟩
  | 2, _ => exact ⟨_, rfl, rfl⟩
  | 3, _ => exact ⟨_, rfl, rfl⟩
  | 4, _ => exact ⟨_, rfl, rfl⟩
  | 5, _ => exact ⟨_, rfl, rfl⟩
  | 6, _ => exact ⟨_, rfl, rfl⟩
  | 7, _ => exact ⟨_, rfl, rfl⟩
  | 8, _ => exact ⟨_, rfl, rfl⟩
  | 9, _ => exact ⟨_, rfl, rfl⟩
  | 10, _ => exact ⟨_, rfl, rfl⟩

set_option maxRecDepth 100000 in
set_option maxHeartbeats 2000000 in
theorem law_EntryForms (a x : Int) (w0 : (Lit.int .i64 a).wf = true) (w1 : (Lit.int .i64 x).wf = true) (w : World) :
    Calls Try.prog 5 #[.int .i64 a, .int .i64 x] w fun e w' => e = .returned (.bool true) ∧ Below w.heap.size w w' := by
  have hX := band x 1023 (by omega) (by omega)
  have hU := u64b a
  generalize hX' : bits BinOp.and IntKind.i64 x 1023 = X at hX
  generalize hU' : IntKind.u64.wrap a = U at hU
  obtain ⟨hX0, hX1⟩ := hX
  obtain ⟨hU0, hU1⟩ := hU
  obtain ⟨i, hI⟩ := Int.eq_ofNat_of_zero_le (show 0 ≤ U % 6 by omega)
  obtain ⟨j, hJ⟩ := Int.eq_ofNat_of_zero_le (show 0 ≤ U % 11 by omega)
  have hi : i < 6 := by omega
  have hj : j < 11 := by omega
  have hi' : (i : Int) < 6 := by omega
  have hj' : (j : Int) < 11 := by omega
  obtain ⟨f, p, hf, hp, hb⟩ := bad_at X hX0 i hi
  obtain ⟨y, hy, hg⟩ := badw_at j hj
  have HB := Lib.hid hb; have HG := Lib.hid hg
  clear w0 w1 hb hg
  go_enter Try.func5, Try.ntmps5
  go_wp2_with fail
  refine (eawake_any _).mono ?_
  rintro e wa ⟨rfl, ba⟩
  have hsa := ba.size
  have tb : Blk (wa.alloc (.cells (badC X).toArray 23)) wa.heap.size 23 (badC X) := Blk.new _ _ _
  have c0 := tb.cell (i * 2)
  have c1 := tb.cell (i * 2 + 1)
  rw [hf] at c0
  rw [hp] at c1
  have bb := ba.alloc hsa (.cells (badC X).toArray 23)
  have HF := Lib.hid hf; have HP := Lib.hid hp; have HY := Lib.hid hy
  clear hf hp hy
  unfold badC at c0 c1
  go_wp2_with fail
  change Calls _ _ _ (wa.alloc (.cells (badC X).toArray 23)) _
  clear c0 c1
  generalize hwb : wa.alloc (.cells (badC X).toArray 23) = wb at *
  generalize hgg : wa.heap.size = g at *
  have hsb := bb.size
  clear hwb hgg ba hsa
  refine (eput_is f p 0 400 _ (eN_no _ _ HB.out) (by rw [HB.out]; rfl)).mono ?_
  rintro e wc ⟨rfl, bc⟩
  have tc := tb.below bc tb.lt
  have bc' := Below.down bb bc hsb
  have hsc := bc'.size
  clear bb hsb bc tb
  have td := tc.alloc (.cells badW.toArray 3)
  have ud : Blk (wc.alloc (.cells badW.toArray 3)) wc.heap.size 3 badW := Blk.new _ _ _
  have bd := bc'.alloc hsc (.cells badW.toArray 3)
  have c0 := ud.cell j
  rw [HY.out] at c0
  unfold badW at c0
  go_wp2_with fail
  change Calls _ _ _ (wc.alloc (.cells badW.toArray 3)) _
  clear c0 tc bc' hsc ud
  generalize hwd : wc.alloc (.cells badW.toArray 3) = wd at *
  have hsd := bd.size
  clear hwd
  refine (eget_is y 0 0 400 _ (gF_no _ HG.out) (gP_no _ HG.out) (by rw [HG.out]; rfl)).mono ?_
  rintro e we ⟨rfl, be⟩
  have te := (td.below be td.lt).alloc (.cells #[.int .i64 0, .int .i64 0] 23)
  have ue := Blk.new we 23 [.int .i64 0, .int .i64 0]
  have be' := (Below.down bd be hsd).alloc (Below.down bd be hsd).size (.cells #[.int .i64 0, .int .i64 0] 23)
  clear bd hsd be td
  go_wp2_with fail
  generalize hwf : we.alloc (.cells #[.int .i64 0, .int .i64 0] 23) = wf at *
  generalize hgf : we.heap.size = gf at *
  have hsf := be'.size
  clear hwf hgf
  refine (eget_is 0 0 0 0 _ rfl rfl rfl).mono ?_
  rintro e wh ⟨rfl, bh⟩
  have th := (te.below bh te.lt).alloc (.cells #[.int .i64 0, .int .i64 0] 23)
  have uh := (ue.below bh ue.lt).alloc (.cells #[.int .i64 0, .int .i64 0] 23)
  have bh' := (Below.down be' bh hsf).alloc (Below.down be' bh hsf).size (.cells #[.int .i64 0, .int .i64 0] 23)
  have hsh := bh'.size
  clear be' hsf bh te ue
  have c0 := th.cell (i * 2)
  have c1 := th.cell (i * 2 + 1)
  rw [HF.out] at c0
  rw [HP.out] at c1
  go_wp2_with (go_at_call 12; refine (num_any _ _).mono ?_; rintro e w' ⟨rfl, rfl⟩)
  have vh := Blk.new wh 23 [.int .i64 0, .int .i64 0]
  refine (emay_is f p false _ HB.out).mono ?_
  rintro e wk ⟨rfl, bk⟩
  have uk := two_at (uh.below bk uh.lt)
  have vk := two_at (vh.below bk vh.lt)
  have bk' := Below.down bh' bk hsh
  obtain ⟨d0, d1, _, _⟩ := uk
  obtain ⟨d2, d3, _, _⟩ := vk
  clear c0 c1 th uh vh bh' bk
  go_wp2_with (go_at_call 12; refine (num_any _ _).mono ?_; rintro e w' ⟨rfl, rfl⟩)
  go_ret
  exact ⟨rfl, bk'⟩

end Go.Proofs.Ythfcmhghjkmjbaa
