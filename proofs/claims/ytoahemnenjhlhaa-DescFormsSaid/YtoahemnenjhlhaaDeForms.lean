/-
  Layer 16's law DescForms: it answers true for every input. (Written by wip/gende_forms.py.)
-/
import Derived.Test.YtoahemnenjhlhaaDeBack
import Derived.StillTailTactics
import Derived.Deep.CutBlock
import Derived.Deep.DeepCutAuto
namespace Go.Proofs.Ytoahemnenjhlhaa
open Go.RowKit
set_option linter.unusedVariables false
set_option maxRecDepth 100000

set_option maxHeartbeats 4000000 in
theorem law_DescForms (q y : Int) (wq : (Lit.int .i64 q).wf = true) (wy : (Lit.int .i64 y).wf = true) (w : World) :
    Calls Try.prog 5 #[.int .i64 q, .int .i64 y] w fun e w' => e = .returned (.bool true) ∧ Below w.heap.size w w' := by
  have hU := u64b q
  have hF := band y 1023 (by omega) (by omega)
  generalize hU' : IntKind.u64.wrap q = U at hU
  generalize hF' : bits BinOp.and IntKind.i64 y 1023 = F at hF
  obtain ⟨hU0, hU1⟩ := hU
  obtain ⟨hF0, hF1⟩ := hF
  have hI0 : 0 ≤ U % 9 := by omega
  have hI1 : U % 9 < 9 := by omega
  generalize hI' : U % 9 = I at hI0 hI1
  have hJ0 : 0 ≤ U % 7 := by omega
  have hJ1 : U % 7 < 7 := by omega
  generalize hJ' : U % 7 = J at hJ0 hJ1
  clear wq wy
  go_enter Try.func5, Try.ntmps5
  go_wp2_with fail
  refine (deawake_any _).mono ?_
  rintro e w1 ⟨rfl, b1⟩
  have s1 := b1.size
  have t1 := Blk.new w1 23 [.int .i64 3, .int .i64 7, .int .i64 65535, .int .i64 65535, .int .i64 255]
  have z1 := b1.alloc s1 (.cells #[.int .i64 3, .int .i64 7, .int .i64 65535, .int .i64 65535, .int .i64 255] 23)
  have k1 : w.heap.size ≤ (w1.alloc (.cells #[.int .i64 3, .int .i64 7, .int .i64 65535, .int .i64 65535, .int .i64 255] 23)).heap.size := z1.size
  have h1 : Db w w1.heap.size 3 7 65535 65535 255 (w1.alloc (.cells #[.int .i64 3, .int .i64 7, .int .i64 65535, .int .i64 65535, .int .i64 255] 23)) := Db.of t1 k1 z1
  go_wp2_with fail
  generalize w1.alloc (.cells #[.int .i64 3, .int .i64 7, .int .i64 65535, .int .i64 65535, .int .i64 255] 23) = w2 at *
  generalize w1.heap.size = g at *
  clear b1 t1 z1 k1
  have HG := Lib.hid s1
  clear s1
  refine (deput_is 3 7 65535 65535 255 0 ⟨#[3, 7, 255, 255, 255, 255, 255, 0]⟩ _ (by kernel_rfl) (by kernel_rfl)).mono ?_
  rintro e w3 ⟨rfl, b3⟩
  have h3 := h1.next b3
  clear h1 b3
  go_wp2_with fail
  refine (num_any _ _).mono ?_; rintro e w' ⟨rfl, rfl⟩
  have HJ := Lib.hid hJ'
  have HU := Lib.hid hU'
  go_upto_block 0 with fail
  go_cut [] (fun wx => ∃ o x l b n : Int, Hid (Db w g o x l b n wx ∧ deB o x l b n = false))
  case first =>
    obtain ⟨c0, c1, c2, c3, c4⟩ := five_at h3.a
    obtain ⟨f0, f1, f2, f3, f4⟩ := five_fr h3.a
    have hR0 : 0 ≤ (1 + F) % 200 := by omega
    have hR1 : (1 + F) % 200 < 200 := by omega
    rcases (show I = 0 ∨ I = 1 ∨ I = 2 ∨ I = 3 ∨ I = 4 ∨ I = 5 ∨ I = 6 ∨ I = 7 ∨ I = 8 by omega) with rfl | rfl | rfl | rfl | rfl | rfl | rfl | rfl | rfl
    · as_aux_lemma =>
        go_wp2_with fail
        go_meet
        exact ⟨(3 + (1 + F)), 7, 65535, 65535, 255, Lib.hid ⟨Db.of (h3.a.set 0 (.int .i64 (3 + (1 + F)))) (by simpa [World.setCell] using h3.s) (h3.b.setCell HG.out _), de_no _ _ _ _ _ (by omega)⟩⟩
    · as_aux_lemma =>
        go_wp2_with fail
        go_meet
        exact ⟨(-(1 + F)), 7, 65535, 65535, 255, Lib.hid ⟨Db.of (h3.a.set 0 (.int .i64 (-(1 + F)))) (by simpa [World.setCell] using h3.s) (h3.b.setCell HG.out _), de_no _ _ _ _ _ (by omega)⟩⟩
    · as_aux_lemma =>
        go_wp2_with fail
        go_meet
        exact ⟨3, (8 + (1 + F) % 200), 65535, 65535, 255, Lib.hid ⟨Db.of (h3.a.set 1 (.int .i64 (8 + (1 + F) % 200))) (by simpa [World.setCell] using h3.s) (h3.b.setCell HG.out _), de_no _ _ _ _ _ (by omega)⟩⟩
    · as_aux_lemma =>
        go_wp2_with fail
        go_meet
        exact ⟨3, (-(1 + F)), 65535, 65535, 255, Lib.hid ⟨Db.of (h3.a.set 1 (.int .i64 (-(1 + F)))) (by simpa [World.setCell] using h3.s) (h3.b.setCell HG.out _), de_no _ _ _ _ _ (by omega)⟩⟩
    · as_aux_lemma =>
        go_wp2_with fail
        go_meet
        exact ⟨3, 7, (65535 + (1 + F)), 65535, 255, Lib.hid ⟨Db.of (h3.a.set 2 (.int .i64 (65535 + (1 + F)))) (by simpa [World.setCell] using h3.s) (h3.b.setCell HG.out _), de_no _ _ _ _ _ (by omega)⟩⟩
    · as_aux_lemma =>
        go_wp2_with fail
        go_meet
        exact ⟨3, 7, 65535, (-(1 + F)), 255, Lib.hid ⟨Db.of (h3.a.set 3 (.int .i64 (-(1 + F)))) (by simpa [World.setCell] using h3.s) (h3.b.setCell HG.out _), de_no _ _ _ _ _ (by omega)⟩⟩
    · as_aux_lemma =>
        go_wp2_with fail
        go_meet
        exact ⟨3, 7, 65535, (65535 + (1 + F)), 255, Lib.hid ⟨Db.of (h3.a.set 3 (.int .i64 (65535 + (1 + F)))) (by simpa [World.setCell] using h3.s) (h3.b.setCell HG.out _), de_no _ _ _ _ _ (by omega)⟩⟩
    · as_aux_lemma =>
        go_wp2_with fail
        go_meet
        exact ⟨3, 7, 65535, 65535, (255 + (1 + F)), Lib.hid ⟨Db.of (h3.a.set 4 (.int .i64 (255 + (1 + F)))) (by simpa [World.setCell] using h3.s) (h3.b.setCell HG.out _), de_no _ _ _ _ _ (by omega)⟩⟩
    · as_aux_lemma =>
        go_wp2_with fail
        go_meet
        exact ⟨3, 7, 65535, 65535, (-(1 + F)), Lib.hid ⟨Db.of (h3.a.set 4 (.int .i64 (-(1 + F)))) (by simpa [World.setCell] using h3.s) (h3.b.setCell HG.out _), de_no _ _ _ _ _ (by omega)⟩⟩
  case rest =>
    clear h3
    obtain ⟨o, x, l, b, n, hcut⟩ := hcut
    have h4 := hcut.out.1
    obtain ⟨a0, a1, a2, a3, a4, h4⟩ := h4.all
    have H4 := Lib.hid h4
    have HB := Lib.hid hcut.out.2
    clear hcut
    go_wp2_with fail
    refine (deput_is o x l b n 1600 ⟨#[]⟩ _ (by rw [deL_no HB.out]; rfl) (by rw [HB.out]; rfl)).mono ?_
    rintro e w5 ⟨rfl, b5⟩
    have h5 := H4.out.next b5
    clear b5 a0 a1 a2 a3 a4 H4
    go_wp2_with fail
    go_still_tail 22, (by kernel_rfl)
    repeat still_step
    have h6 := h5.drew
    clear h5
    change wpList _ _ _ _ _ w5.drew
    generalize w5.drew = wd at *
    rcases (show J = 0 ∨ J = 1 ∨ J = 2 ∨ J = 3 ∨ J = 4 ∨ J = 5 ∨ J = 6 by omega) with rfl | rfl | rfl | rfl | rfl | rfl | rfl
    all_goals
      go_wp2_with fail
      refine (deget_is _ (.tuple #[.agg #[.int .i64 0, .int .i64 0, .int .i64 0, .int .i64 0, .int .i64 0], .int .i64 1600]) _ ?_).mono ?_
      · exact degV_no (by kernel_rfl)
      rintro e w8 ⟨rfl, b8⟩
      have h8 := ((h6.alloc _).next b8).alloc (.cells #[.int .i64 0, .int .i64 0, .int .i64 0, .int .i64 0, .int .i64 0] 23)
      have u8 := Blk.new w8 23 [.int .i64 0, .int .i64 0, .int .i64 0, .int .i64 0, .int .i64 0]
      clear b8 h6
      obtain ⟨a0, a1, a2, a3, a4, h8⟩ := h8.all
      have H8 := Lib.hid h8
      have U8 := Lib.hid u8
      clear u8
      go_wp2_with fail
      generalize w8.alloc (.cells #[.int .i64 0, .int .i64 0, .int .i64 0, .int .i64 0, .int .i64 0] 23) = w9 at *
      generalize w8.heap.size = k at *
      refine (demay_is o x l b n false _ HB.out).mono ?_
      rintro e w10 ⟨rfl, b10⟩
      have h10 := H8.out.next b10
      have u10 := U8.out.below b10 U8.out.lt
      obtain ⟨d0, d1, d2, d3, d4⟩ := five_at u10
      have HB10 := Lib.hid h10.b
      clear b10 h10 u10
      go_wp2_with fail
      refine (num_any _ _).mono ?_; rintro e w' ⟨rfl, rfl⟩
      go_wp2_with fail
      refine (num_any _ _).mono ?_; rintro e w' ⟨rfl, rfl⟩
      go_wp2_with fail
      go_ret
      exact ⟨rfl, HB10.out⟩

end Go.Proofs.Ytoahemnenjhlhaa
