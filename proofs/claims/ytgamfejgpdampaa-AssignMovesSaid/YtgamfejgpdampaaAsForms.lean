/-
  Layer 15's law AssignForms: it answers true for every input.
-/
import Derived.Test.YtgamfejgpdampaaAsAwake
namespace Go.Proofs.Ytgamfejgpdampaa
open Go.RowKit Go.ChangeMaps
set_option linter.unusedVariables false
set_option maxRecDepth 100000

theorem tk_amove_no {S : Nat → Prop} {W0 : World} {os : List Ob} {i g q P D : Nat} {O : Nat → Int} {L : Nat → Nat} (d t : Int) (w : World) (h : Tk S W0 os w) (hi : os[i]? = some (obPA g q P D O L)) (hb : ¬ ((0 ≤ d ∧ d < D) ∧ 0 ≤ t ∧ t < P)) :
    Calls Try.prog 11 #[.pointer (some ⟨g, 0, none⟩), .int .i64 d, .int .i64 t] w fun e w' => e = .returned (.int .i64 1500) ∧ Tk S W0 os w' := by
  have hm : amB D P d t = false := by
    unfold amB adB
    simp only [Bool.and_eq_false_iff, decide_eq_false_iff_not]; omega
  exact tk_amove_is d t 1500 w h hi (by simp [amC, hm]) (by simp only [amO, amL, amG, hm, Bool.false_and]; exact set_sameA hi)

set_option maxHeartbeats 8000000 in
theorem law_AssignForms (a x : Int) (w0 : (Lit.int .i64 a).wf = true) (w1 : (Lit.int .i64 x).wf = true) (w : World) :
    Calls Try.prog 5 #[.int .i64 a, .int .i64 x] w fun e w' => e = .returned (.bool true) ∧ Below w.heap.size w w' := by
  have hX := band x 1023 (by omega) (by omega)
  have hU := u64b a
  generalize hX' : bits BinOp.and IntKind.i64 x 1023 = X at hX
  generalize hU' : IntKind.u64.wrap a = U at hU
  obtain ⟨hX0, hX1⟩ := hX
  obtain ⟨hU0, hU1⟩ := hU
  have hI0 : 0 ≤ U % 12 := by omega
  have hI1 : U % 12 < 12 := by omega
  generalize hI' : U % 12 = I at hI0 hI1
  clear w0 w1
  go_enter Try.func5, Try.ntmps5
  go_wp2_with fail
  refine (asawake_any _).mono ?_
  rintro e wa ⟨rfl, ba⟩
  have t0 := (Tk.empty wa).alloc 3 (ints [0, 1])
  have hN : Calls Try.prog 7 #[.int .i64 1, .int .i64 2, .slice (some ⟨wa.heap.size, 0, none⟩) 2 2] (wa.alloc (.cells (ints [0, 1]).toArray 3)) fun e w' => ∃ g, e = .returned (.tuple #[.pointer (some ⟨g, 0, none⟩), .int .i64 0]) ∧ Tk nos (wa.alloc (.cells (ints [0, 1]).toArray 3)) [obPA g 1 2 2 aw0 noN] w' := anew_yes_is 1 2 2 _ [0, 1] _ (lit_ints wa [0, 1] 2 rfl) (by decide)
  have T0 := Lib.hid t0
  have BA := Lib.hid ba
  clear ba t0
  go_wp2_with fail
  change Calls _ _ _ (wa.alloc (.cells (ints [0, 1]).toArray 3)) _
  refine hN.mono ?_
  clear hN
  rintro e wb ⟨g, rfl, t⟩
  have T := Lib.hid (show Tk nos wa [obPA g 1 2 2 aw0 noN] wb from (T0.out.add t).drop 1)
  clear t T0
  go_wp2_with fail
  refine (num_any _ _).mono ?_
  rintro e w' ⟨rfl, rfl⟩
  go_wp2_with fail
  · as_aux_lemma =>
      have cF : Calls Try.prog 7 #[.int .i64 (1 - (1 + X)), .int .i64 2, .slice (some ⟨wb.heap.size, 0, none⟩) 1 1] (wb.alloc (.cells (ints [0]).toArray 3)) fun e w' => e = .returned (.tuple #[.pointer none, .int .i64 1500]) ∧ (wb.alloc (.cells (ints [0]).toArray 3)) = w' := anew_form (1 - (1 + X)) 2 _ 1 [0] _ (lit_ints wb [0] 1 rfl) (by omega)
      have T2 := Lib.hid (show Tk nos wa [obPA g 1 2 2 aw0 noN] (wb.alloc (.cells (ints [0]).toArray 3)) from (T.out.alloc 3 (ints [0])).tail)
      clear T
      change Calls _ _ _ (wb.alloc (.cells (ints [0]).toArray 3)) _
      generalize (wb.alloc (.cells (ints [0]).toArray 3)) = wd at *
      refine cF.mono ?_
      rintro e w' ⟨rfl, rfl⟩
      clear cF
      have T := T2
      clear T2
      go_wp2_with fail
      refine (num_any _ _).mono ?_
      rintro e w' ⟨rfl, rfl⟩
      go_wp2_with fail
      refine (tk_aphase_is (i := 0) (1 + (1 + X)) 0 1500 wd T.out rfl (a_no 2 aw0 noN _ (by unfold adB; simp <;> omega)).2.1 (a_no 2 aw0 noN _ (by unfold adB; simp <;> omega)).1).mono ?_
      rintro e w' ⟨rfl, rfl⟩
      go_wp2_with (go_at_call 9; refine (num_any _ _).mono ?_; rintro e w' ⟨rfl, rfl⟩)
      refine (tk_aowner_is (i := 0) 0 0 wd T.out rfl (by decide)).mono ?_
      rintro e wf ⟨rfl, t⟩
      have T2 := Lib.hid t
      clear t T
      go_wp2_with fail
      refine (tk_aowner_is (i := 0) 1 1 wf T2.out rfl (by decide)).mono ?_
      rintro e wg ⟨rfl, t⟩
      have T := Lib.hid t
      clear t T2
      go_wp2_with fail
      refine (tk_atick_is (i := 0) (l := []) (os' := [obPA g 1 2 2 aw0 (atL noN 2)]) wg T.out rfl (by decide) rfl).mono ?_
      rintro e wh ⟨v1, rfl, t⟩
      obtain ⟨A1, c1, rfl, -⟩ := t.sl (i := 0) rfl
      have T2 := Lib.hid t
      clear t T
      go_wp2_with fail
      go_ret
      exact ⟨rfl, Below.down BA.out T2.out.below BA.out.size⟩
  · as_aux_lemma =>
      have cF : Calls Try.prog 7 #[.int .i64 (8 + (1 + X)), .int .i64 2, .slice (some ⟨wb.heap.size, 0, none⟩) 1 1] (wb.alloc (.cells (ints [0]).toArray 3)) fun e w' => e = .returned (.tuple #[.pointer none, .int .i64 1500]) ∧ (wb.alloc (.cells (ints [0]).toArray 3)) = w' := anew_form (8 + (1 + X)) 2 _ 1 [0] _ (lit_ints wb [0] 1 rfl) (by omega)
      have T2 := Lib.hid (show Tk nos wa [obPA g 1 2 2 aw0 noN] (wb.alloc (.cells (ints [0]).toArray 3)) from (T.out.alloc 3 (ints [0])).tail)
      clear T
      change Calls _ _ _ (wb.alloc (.cells (ints [0]).toArray 3)) _
      generalize (wb.alloc (.cells (ints [0]).toArray 3)) = wd at *
      refine cF.mono ?_
      rintro e w' ⟨rfl, rfl⟩
      clear cF
      have T := T2
      clear T2
      go_wp2_with fail
      refine (num_any _ _).mono ?_
      rintro e w' ⟨rfl, rfl⟩
      go_wp2_with fail
      refine (tk_aphase_is (i := 0) (1 + (1 + X)) 0 1500 wd T.out rfl (a_no 2 aw0 noN _ (by unfold adB; simp <;> omega)).2.1 (a_no 2 aw0 noN _ (by unfold adB; simp <;> omega)).1).mono ?_
      rintro e w' ⟨rfl, rfl⟩
      go_wp2_with (go_at_call 9; refine (num_any _ _).mono ?_; rintro e w' ⟨rfl, rfl⟩)
      refine (tk_aowner_is (i := 0) 0 0 wd T.out rfl (by decide)).mono ?_
      rintro e wf ⟨rfl, t⟩
      have T2 := Lib.hid t
      clear t T
      go_wp2_with fail
      refine (tk_aowner_is (i := 0) 1 1 wf T2.out rfl (by decide)).mono ?_
      rintro e wg ⟨rfl, t⟩
      have T := Lib.hid t
      clear t T2
      go_wp2_with fail
      refine (tk_atick_is (i := 0) (l := []) (os' := [obPA g 1 2 2 aw0 (atL noN 2)]) wg T.out rfl (by decide) rfl).mono ?_
      rintro e wh ⟨v1, rfl, t⟩
      obtain ⟨A1, c1, rfl, -⟩ := t.sl (i := 0) rfl
      have T2 := Lib.hid t
      clear t T
      go_wp2_with fail
      go_ret
      exact ⟨rfl, Below.down BA.out T2.out.below BA.out.size⟩
  · as_aux_lemma =>
      have cF : Calls Try.prog 7 #[.int .i64 1, .int .i64 (1 - (1 + X)), .slice (some ⟨wb.heap.size, 0, none⟩) 1 1] (wb.alloc (.cells (ints [0]).toArray 3)) fun e w' => e = .returned (.tuple #[.pointer none, .int .i64 1500]) ∧ (wb.alloc (.cells (ints [0]).toArray 3)) = w' := anew_form 1 (1 - (1 + X)) _ 1 [0] _ (lit_ints wb [0] 1 rfl) (by omega)
      have T2 := Lib.hid (show Tk nos wa [obPA g 1 2 2 aw0 noN] (wb.alloc (.cells (ints [0]).toArray 3)) from (T.out.alloc 3 (ints [0])).tail)
      clear T
      change Calls _ _ _ (wb.alloc (.cells (ints [0]).toArray 3)) _
      generalize (wb.alloc (.cells (ints [0]).toArray 3)) = wd at *
      refine cF.mono ?_
      rintro e w' ⟨rfl, rfl⟩
      clear cF
      have T := T2
      clear T2
      go_wp2_with fail
      refine (num_any _ _).mono ?_
      rintro e w' ⟨rfl, rfl⟩
      go_wp2_with fail
      refine (tk_aphase_is (i := 0) (1 + (1 + X)) 0 1500 wd T.out rfl (a_no 2 aw0 noN _ (by unfold adB; simp <;> omega)).2.1 (a_no 2 aw0 noN _ (by unfold adB; simp <;> omega)).1).mono ?_
      rintro e w' ⟨rfl, rfl⟩
      go_wp2_with (go_at_call 9; refine (num_any _ _).mono ?_; rintro e w' ⟨rfl, rfl⟩)
      refine (tk_aowner_is (i := 0) 0 0 wd T.out rfl (by decide)).mono ?_
      rintro e wf ⟨rfl, t⟩
      have T2 := Lib.hid t
      clear t T
      go_wp2_with fail
      refine (tk_aowner_is (i := 0) 1 1 wf T2.out rfl (by decide)).mono ?_
      rintro e wg ⟨rfl, t⟩
      have T := Lib.hid t
      clear t T2
      go_wp2_with fail
      refine (tk_atick_is (i := 0) (l := []) (os' := [obPA g 1 2 2 aw0 (atL noN 2)]) wg T.out rfl (by decide) rfl).mono ?_
      rintro e wh ⟨v1, rfl, t⟩
      obtain ⟨A1, c1, rfl, -⟩ := t.sl (i := 0) rfl
      have T2 := Lib.hid t
      clear t T
      go_wp2_with fail
      go_ret
      exact ⟨rfl, Below.down BA.out T2.out.below BA.out.size⟩
  · as_aux_lemma =>
      have cF : Calls Try.prog 7 #[.int .i64 1, .int .i64 (4 + (1 + X)), .slice (some ⟨wb.heap.size, 0, none⟩) 1 1] (wb.alloc (.cells (ints [0]).toArray 3)) fun e w' => e = .returned (.tuple #[.pointer none, .int .i64 1500]) ∧ (wb.alloc (.cells (ints [0]).toArray 3)) = w' := anew_form 1 (4 + (1 + X)) _ 1 [0] _ (lit_ints wb [0] 1 rfl) (by omega)
      have T2 := Lib.hid (show Tk nos wa [obPA g 1 2 2 aw0 noN] (wb.alloc (.cells (ints [0]).toArray 3)) from (T.out.alloc 3 (ints [0])).tail)
      clear T
      change Calls _ _ _ (wb.alloc (.cells (ints [0]).toArray 3)) _
      generalize (wb.alloc (.cells (ints [0]).toArray 3)) = wd at *
      refine cF.mono ?_
      rintro e w' ⟨rfl, rfl⟩
      clear cF
      have T := T2
      clear T2
      go_wp2_with fail
      refine (num_any _ _).mono ?_
      rintro e w' ⟨rfl, rfl⟩
      go_wp2_with fail
      refine (tk_aphase_is (i := 0) (1 + (1 + X)) 0 1500 wd T.out rfl (a_no 2 aw0 noN _ (by unfold adB; simp <;> omega)).2.1 (a_no 2 aw0 noN _ (by unfold adB; simp <;> omega)).1).mono ?_
      rintro e w' ⟨rfl, rfl⟩
      go_wp2_with (go_at_call 9; refine (num_any _ _).mono ?_; rintro e w' ⟨rfl, rfl⟩)
      refine (tk_aowner_is (i := 0) 0 0 wd T.out rfl (by decide)).mono ?_
      rintro e wf ⟨rfl, t⟩
      have T2 := Lib.hid t
      clear t T
      go_wp2_with fail
      refine (tk_aowner_is (i := 0) 1 1 wf T2.out rfl (by decide)).mono ?_
      rintro e wg ⟨rfl, t⟩
      have T := Lib.hid t
      clear t T2
      go_wp2_with fail
      refine (tk_atick_is (i := 0) (l := []) (os' := [obPA g 1 2 2 aw0 (atL noN 2)]) wg T.out rfl (by decide) rfl).mono ?_
      rintro e wh ⟨v1, rfl, t⟩
      obtain ⟨A1, c1, rfl, -⟩ := t.sl (i := 0) rfl
      have T2 := Lib.hid t
      clear t T
      go_wp2_with fail
      go_ret
      exact ⟨rfl, Below.down BA.out T2.out.below BA.out.size⟩
  · as_aux_lemma =>
      have cF : Calls Try.prog 7 #[.int .i64 1, .int .i64 2, .slice none 0 0] wb fun e w' => e = .returned (.tuple #[.pointer none, .int .i64 1500]) ∧ wb = w' := anew_form 1 2 _ 0 [] _ ⟨none, 0, rfl, Nat.le_refl _, rfl, fun h => absurd h (by omega)⟩ (by omega)
      have T2 := T
      clear T
      refine cF.mono ?_
      rintro e w' ⟨rfl, rfl⟩
      clear cF
      have T := T2
      clear T2
      go_wp2_with fail
      refine (num_any _ _).mono ?_
      rintro e w' ⟨rfl, rfl⟩
      go_wp2_with fail
      refine (tk_aphase_is (i := 0) (1 + (1 + X)) 0 1500 wb T.out rfl (a_no 2 aw0 noN _ (by unfold adB; simp <;> omega)).2.1 (a_no 2 aw0 noN _ (by unfold adB; simp <;> omega)).1).mono ?_
      rintro e w' ⟨rfl, rfl⟩
      go_wp2_with (go_at_call 9; refine (num_any _ _).mono ?_; rintro e w' ⟨rfl, rfl⟩)
      refine (tk_aowner_is (i := 0) 0 0 wb T.out rfl (by decide)).mono ?_
      rintro e wf ⟨rfl, t⟩
      have T2 := Lib.hid t
      clear t T
      go_wp2_with fail
      refine (tk_aowner_is (i := 0) 1 1 wf T2.out rfl (by decide)).mono ?_
      rintro e wg ⟨rfl, t⟩
      have T := Lib.hid t
      clear t T2
      go_wp2_with fail
      refine (tk_atick_is (i := 0) (l := []) (os' := [obPA g 1 2 2 aw0 (atL noN 2)]) wg T.out rfl (by decide) rfl).mono ?_
      rintro e wh ⟨v1, rfl, t⟩
      obtain ⟨A1, c1, rfl, -⟩ := t.sl (i := 0) rfl
      have T2 := Lib.hid t
      clear t T
      go_wp2_with fail
      go_ret
      exact ⟨rfl, Below.down BA.out T2.out.below BA.out.size⟩
  · as_aux_lemma =>
      have cF : Calls Try.prog 7 #[.int .i64 1, .int .i64 2, .slice (some ⟨wb.heap.size, 0, none⟩) 5 5] (wb.alloc (.cells (ints [0, 1, 0, 1, 0]).toArray 3)) fun e w' => e = .returned (.tuple #[.pointer none, .int .i64 1500]) ∧ (wb.alloc (.cells (ints [0, 1, 0, 1, 0]).toArray 3)) = w' := anew_form 1 2 _ 5 [0, 1, 0, 1, 0] _ (lit_ints wb [0, 1, 0, 1, 0] 5 rfl) (by omega)
      have T2 := Lib.hid (show Tk nos wa [obPA g 1 2 2 aw0 noN] (wb.alloc (.cells (ints [0, 1, 0, 1, 0]).toArray 3)) from (T.out.alloc 3 (ints [0, 1, 0, 1, 0])).tail)
      clear T
      change Calls _ _ _ (wb.alloc (.cells (ints [0, 1, 0, 1, 0]).toArray 3)) _
      generalize (wb.alloc (.cells (ints [0, 1, 0, 1, 0]).toArray 3)) = wd at *
      refine cF.mono ?_
      rintro e w' ⟨rfl, rfl⟩
      clear cF
      have T := T2
      clear T2
      go_wp2_with fail
      refine (num_any _ _).mono ?_
      rintro e w' ⟨rfl, rfl⟩
      go_wp2_with fail
      refine (tk_aphase_is (i := 0) (1 + (1 + X)) 0 1500 wd T.out rfl (a_no 2 aw0 noN _ (by unfold adB; simp <;> omega)).2.1 (a_no 2 aw0 noN _ (by unfold adB; simp <;> omega)).1).mono ?_
      rintro e w' ⟨rfl, rfl⟩
      go_wp2_with (go_at_call 9; refine (num_any _ _).mono ?_; rintro e w' ⟨rfl, rfl⟩)
      refine (tk_aowner_is (i := 0) 0 0 wd T.out rfl (by decide)).mono ?_
      rintro e wf ⟨rfl, t⟩
      have T2 := Lib.hid t
      clear t T
      go_wp2_with fail
      refine (tk_aowner_is (i := 0) 1 1 wf T2.out rfl (by decide)).mono ?_
      rintro e wg ⟨rfl, t⟩
      have T := Lib.hid t
      clear t T2
      go_wp2_with fail
      refine (tk_atick_is (i := 0) (l := []) (os' := [obPA g 1 2 2 aw0 (atL noN 2)]) wg T.out rfl (by decide) rfl).mono ?_
      rintro e wh ⟨v1, rfl, t⟩
      obtain ⟨A1, c1, rfl, -⟩ := t.sl (i := 0) rfl
      have T2 := Lib.hid t
      clear t T
      go_wp2_with fail
      go_ret
      exact ⟨rfl, Below.down BA.out T2.out.below BA.out.size⟩
  · as_aux_lemma =>
      have cF : Calls Try.prog 7 #[.int .i64 1, .int .i64 2, .slice (some ⟨wb.heap.size, 0, none⟩) 2 2] (wb.alloc (.cells (ints [0, 1 + (1 + X)]).toArray 3)) fun e w' => e = .returned (.tuple #[.pointer none, .int .i64 1500]) ∧ Below ((wb.alloc (.cells (ints [0, 1 + (1 + X)]).toArray 3))).heap.size (wb.alloc (.cells (ints [0, 1 + (1 + X)]).toArray 3)) w' := anew_bad 1 2 _ 2 [0, 1 + (1 + X)] _ (lit_ints wb [0, 1 + (1 + X)] 2 rfl) (by decide) (by decide) (by decide) (by decide) (by decide) (by decide) ⟨1, by decide, by simp [adB] <;> omega⟩
      have T2 := Lib.hid (show Tk nos wa [obPA g 1 2 2 aw0 noN] (wb.alloc (.cells (ints [0, 1 + (1 + X)]).toArray 3)) from (T.out.alloc 3 (ints [0, 1 + (1 + X)])).tail)
      clear T
      change Calls _ _ _ (wb.alloc (.cells (ints [0, 1 + (1 + X)]).toArray 3)) _
      generalize (wb.alloc (.cells (ints [0, 1 + (1 + X)]).toArray 3)) = wd at *
      refine cF.mono ?_
      rintro e we ⟨rfl, b⟩
      clear cF
      have T := Lib.hid (T2.out.next b)
      clear T2 b
      go_wp2_with fail
      refine (num_any _ _).mono ?_
      rintro e w' ⟨rfl, rfl⟩
      go_wp2_with fail
      refine (tk_aphase_is (i := 0) (1 + (1 + X)) 0 1500 we T.out rfl (a_no 2 aw0 noN _ (by unfold adB; simp <;> omega)).2.1 (a_no 2 aw0 noN _ (by unfold adB; simp <;> omega)).1).mono ?_
      rintro e w' ⟨rfl, rfl⟩
      go_wp2_with (go_at_call 9; refine (num_any _ _).mono ?_; rintro e w' ⟨rfl, rfl⟩)
      refine (tk_aowner_is (i := 0) 0 0 we T.out rfl (by decide)).mono ?_
      rintro e wf ⟨rfl, t⟩
      have T2 := Lib.hid t
      clear t T
      go_wp2_with fail
      refine (tk_aowner_is (i := 0) 1 1 wf T2.out rfl (by decide)).mono ?_
      rintro e wg ⟨rfl, t⟩
      have T := Lib.hid t
      clear t T2
      go_wp2_with fail
      refine (tk_atick_is (i := 0) (l := []) (os' := [obPA g 1 2 2 aw0 (atL noN 2)]) wg T.out rfl (by decide) rfl).mono ?_
      rintro e wh ⟨v1, rfl, t⟩
      obtain ⟨A1, c1, rfl, -⟩ := t.sl (i := 0) rfl
      have T2 := Lib.hid t
      clear t T
      go_wp2_with fail
      go_ret
      exact ⟨rfl, Below.down BA.out T2.out.below BA.out.size⟩
  · as_aux_lemma =>
      have cF : Calls Try.prog 7 #[.int .i64 1, .int .i64 2, .slice (some ⟨wb.heap.size, 0, none⟩) 1 1] (wb.alloc (.cells (ints [-(1 + X)]).toArray 3)) fun e w' => e = .returned (.tuple #[.pointer none, .int .i64 1500]) ∧ Below ((wb.alloc (.cells (ints [-(1 + X)]).toArray 3))).heap.size (wb.alloc (.cells (ints [-(1 + X)]).toArray 3)) w' := anew_bad 1 2 _ 1 [-(1 + X)] _ (lit_ints wb [-(1 + X)] 1 rfl) (by decide) (by decide) (by decide) (by decide) (by decide) (by decide) ⟨0, by decide, by simp [adB] <;> omega⟩
      have T2 := Lib.hid (show Tk nos wa [obPA g 1 2 2 aw0 noN] (wb.alloc (.cells (ints [-(1 + X)]).toArray 3)) from (T.out.alloc 3 (ints [-(1 + X)])).tail)
      clear T
      change Calls _ _ _ (wb.alloc (.cells (ints [-(1 + X)]).toArray 3)) _
      generalize (wb.alloc (.cells (ints [-(1 + X)]).toArray 3)) = wd at *
      refine cF.mono ?_
      rintro e we ⟨rfl, b⟩
      clear cF
      have T := Lib.hid (T2.out.next b)
      clear T2 b
      go_wp2_with fail
      refine (num_any _ _).mono ?_
      rintro e w' ⟨rfl, rfl⟩
      go_wp2_with fail
      refine (tk_aphase_is (i := 0) (1 + (1 + X)) 0 1500 we T.out rfl (a_no 2 aw0 noN _ (by unfold adB; simp <;> omega)).2.1 (a_no 2 aw0 noN _ (by unfold adB; simp <;> omega)).1).mono ?_
      rintro e w' ⟨rfl, rfl⟩
      go_wp2_with (go_at_call 9; refine (num_any _ _).mono ?_; rintro e w' ⟨rfl, rfl⟩)
      refine (tk_aowner_is (i := 0) 0 0 we T.out rfl (by decide)).mono ?_
      rintro e wf ⟨rfl, t⟩
      have T2 := Lib.hid t
      clear t T
      go_wp2_with fail
      refine (tk_aowner_is (i := 0) 1 1 wf T2.out rfl (by decide)).mono ?_
      rintro e wg ⟨rfl, t⟩
      have T := Lib.hid t
      clear t T2
      go_wp2_with fail
      refine (tk_atick_is (i := 0) (l := []) (os' := [obPA g 1 2 2 aw0 (atL noN 2)]) wg T.out rfl (by decide) rfl).mono ?_
      rintro e wh ⟨v1, rfl, t⟩
      obtain ⟨A1, c1, rfl, -⟩ := t.sl (i := 0) rfl
      have T2 := Lib.hid t
      clear t T
      go_wp2_with fail
      go_ret
      exact ⟨rfl, Below.down BA.out T2.out.below BA.out.size⟩
  · as_aux_lemma =>
      refine (tk_amove_no (i := 0) _ _ wb T.out rfl (by omega)).mono ?_
      rintro e we ⟨rfl, t⟩
      clear T
      have T := Lib.hid t
      clear t
      go_wp2_with fail
      refine (num_any _ _).mono ?_
      rintro e w' ⟨rfl, rfl⟩
      go_wp2_with fail
      refine (tk_aphase_is (i := 0) (1 + (1 + X)) 0 1500 we T.out rfl (a_no 2 aw0 noN _ (by unfold adB; simp <;> omega)).2.1 (a_no 2 aw0 noN _ (by unfold adB; simp <;> omega)).1).mono ?_
      rintro e w' ⟨rfl, rfl⟩
      go_wp2_with (go_at_call 9; refine (num_any _ _).mono ?_; rintro e w' ⟨rfl, rfl⟩)
      refine (tk_aowner_is (i := 0) 0 0 we T.out rfl (by decide)).mono ?_
      rintro e wf ⟨rfl, t⟩
      have T2 := Lib.hid t
      clear t T
      go_wp2_with fail
      refine (tk_aowner_is (i := 0) 1 1 wf T2.out rfl (by decide)).mono ?_
      rintro e wg ⟨rfl, t⟩
      have T := Lib.hid t
      clear t T2
      go_wp2_with fail
      refine (tk_atick_is (i := 0) (l := []) (os' := [obPA g 1 2 2 aw0 (atL noN 2)]) wg T.out rfl (by decide) rfl).mono ?_
      rintro e wh ⟨v1, rfl, t⟩
      obtain ⟨A1, c1, rfl, -⟩ := t.sl (i := 0) rfl
      have T2 := Lib.hid t
      clear t T
      go_wp2_with fail
      go_ret
      exact ⟨rfl, Below.down BA.out T2.out.below BA.out.size⟩
  · as_aux_lemma =>
      refine (tk_amove_no (i := 0) _ _ wb T.out rfl (by omega)).mono ?_
      rintro e we ⟨rfl, t⟩
      clear T
      have T := Lib.hid t
      clear t
      go_wp2_with fail
      refine (num_any _ _).mono ?_
      rintro e w' ⟨rfl, rfl⟩
      go_wp2_with fail
      refine (tk_aphase_is (i := 0) (1 + (1 + X)) 0 1500 we T.out rfl (a_no 2 aw0 noN _ (by unfold adB; simp <;> omega)).2.1 (a_no 2 aw0 noN _ (by unfold adB; simp <;> omega)).1).mono ?_
      rintro e w' ⟨rfl, rfl⟩
      go_wp2_with (go_at_call 9; refine (num_any _ _).mono ?_; rintro e w' ⟨rfl, rfl⟩)
      refine (tk_aowner_is (i := 0) 0 0 we T.out rfl (by decide)).mono ?_
      rintro e wf ⟨rfl, t⟩
      have T2 := Lib.hid t
      clear t T
      go_wp2_with fail
      refine (tk_aowner_is (i := 0) 1 1 wf T2.out rfl (by decide)).mono ?_
      rintro e wg ⟨rfl, t⟩
      have T := Lib.hid t
      clear t T2
      go_wp2_with fail
      refine (tk_atick_is (i := 0) (l := []) (os' := [obPA g 1 2 2 aw0 (atL noN 2)]) wg T.out rfl (by decide) rfl).mono ?_
      rintro e wh ⟨v1, rfl, t⟩
      obtain ⟨A1, c1, rfl, -⟩ := t.sl (i := 0) rfl
      have T2 := Lib.hid t
      clear t T
      go_wp2_with fail
      go_ret
      exact ⟨rfl, Below.down BA.out T2.out.below BA.out.size⟩
  · as_aux_lemma =>
      refine (tk_amove_no (i := 0) _ _ wb T.out rfl (by omega)).mono ?_
      rintro e we ⟨rfl, t⟩
      clear T
      have T := Lib.hid t
      clear t
      go_wp2_with fail
      refine (num_any _ _).mono ?_
      rintro e w' ⟨rfl, rfl⟩
      go_wp2_with fail
      refine (tk_aphase_is (i := 0) (1 + (1 + X)) 0 1500 we T.out rfl (a_no 2 aw0 noN _ (by unfold adB; simp <;> omega)).2.1 (a_no 2 aw0 noN _ (by unfold adB; simp <;> omega)).1).mono ?_
      rintro e w' ⟨rfl, rfl⟩
      go_wp2_with (go_at_call 9; refine (num_any _ _).mono ?_; rintro e w' ⟨rfl, rfl⟩)
      refine (tk_aowner_is (i := 0) 0 0 we T.out rfl (by decide)).mono ?_
      rintro e wf ⟨rfl, t⟩
      have T2 := Lib.hid t
      clear t T
      go_wp2_with fail
      refine (tk_aowner_is (i := 0) 1 1 wf T2.out rfl (by decide)).mono ?_
      rintro e wg ⟨rfl, t⟩
      have T := Lib.hid t
      clear t T2
      go_wp2_with fail
      refine (tk_atick_is (i := 0) (l := []) (os' := [obPA g 1 2 2 aw0 (atL noN 2)]) wg T.out rfl (by decide) rfl).mono ?_
      rintro e wh ⟨v1, rfl, t⟩
      obtain ⟨A1, c1, rfl, -⟩ := t.sl (i := 0) rfl
      have T2 := Lib.hid t
      clear t T
      go_wp2_with fail
      go_ret
      exact ⟨rfl, Below.down BA.out T2.out.below BA.out.size⟩
  · as_aux_lemma =>
      refine (tk_amove_no (i := 0) _ _ wb T.out rfl (by omega)).mono ?_
      rintro e we ⟨rfl, t⟩
      clear T
      have T := Lib.hid t
      clear t
      go_wp2_with fail
      refine (num_any _ _).mono ?_
      rintro e w' ⟨rfl, rfl⟩
      go_wp2_with fail
      refine (tk_aphase_is (i := 0) (1 + (1 + X)) 0 1500 we T.out rfl (a_no 2 aw0 noN _ (by unfold adB; simp <;> omega)).2.1 (a_no 2 aw0 noN _ (by unfold adB; simp <;> omega)).1).mono ?_
      rintro e w' ⟨rfl, rfl⟩
      go_wp2_with (go_at_call 9; refine (num_any _ _).mono ?_; rintro e w' ⟨rfl, rfl⟩)
      refine (tk_aowner_is (i := 0) 0 0 we T.out rfl (by decide)).mono ?_
      rintro e wf ⟨rfl, t⟩
      have T2 := Lib.hid t
      clear t T
      go_wp2_with fail
      refine (tk_aowner_is (i := 0) 1 1 wf T2.out rfl (by decide)).mono ?_
      rintro e wg ⟨rfl, t⟩
      have T := Lib.hid t
      clear t T2
      go_wp2_with fail
      refine (tk_atick_is (i := 0) (l := []) (os' := [obPA g 1 2 2 aw0 (atL noN 2)]) wg T.out rfl (by decide) rfl).mono ?_
      rintro e wh ⟨v1, rfl, t⟩
      obtain ⟨A1, c1, rfl, -⟩ := t.sl (i := 0) rfl
      have T2 := Lib.hid t
      clear t T
      go_wp2_with fail
      go_ret
      exact ⟨rfl, Below.down BA.out T2.out.below BA.out.size⟩
end Go.Proofs.Ytgamfejgpdampaa
