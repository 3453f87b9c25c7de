/-
  Layer 7's law of what is refused: it answers true for every input.
-/
import Derived.Test.YtkiijohmadeofaaIoSet
import Derived.Test.YtkiijohmadeofaaPlain2
namespace Go.Proofs.Ytkiijohmadeofaa
open Go.RowKit
set_option linter.unusedVariables false
set_option maxRecDepth 100000

set_option maxHeartbeats 8000000 in
theorem law_IommuForms (a x : Int) (h0 : (Lit.int .i64 a).wf = true) (h1 : (Lit.int .i64 x).wf = true) (w : World) :
    Calls Try.prog 7 #[.int .i64 a, .int .i64 x] w fun e w' => e = .returned (.bool true) ∧ Below w.heap.size w w' := by
  have hU := u64b a
  have hX := band x 1023 (by decide) (by decide)
  generalize hU' : IntKind.u64.wrap a = U at hU
  generalize hX' : bits BinOp.and IntKind.i64 x 1023 = X at hX
  obtain ⟨hX0, hX1⟩ := hX
  obtain ⟨hU0, hU1⟩ := hU
  have hI : U % 14 = 0 ∨ U % 14 = 1 ∨ U % 14 = 2 ∨ U % 14 = 3 ∨ U % 14 = 4 ∨ U % 14 = 5 ∨ U % 14 = 6 ∨ U % 14 = 7 ∨ U % 14 = 8 ∨ U % 14 = 9 ∨ U % 14 = 10 ∨ U % 14 = 11 ∨ U % 14 = 12 ∨ U % 14 = 13 := by omega
  generalize hI' : U % 14 = I at hI
  clear h0 h1
  go_enter Try.func7, Try.ntmps7
  go_wp2_with fail
  refine (aw7_any _).mono ?_
  rintro e w1 ⟨rfl, b1⟩
  go_wp2_with fail
  refine (set7_any w w1 b1).mono ?_
  rintro e w2 ⟨g, y, t, rfl, hw, _, _, _⟩
  clear b1
  rcases hI with rfl | rfl | rfl | rfl | rfl | rfl | rfl | rfl | rfl | rfl | rfl | rfl | rfl | rfl
  · go_wp2_with fail
    have pl := (PL.nil w2 0).pl
    refine (new_no7 g _ _ _ l7 _ hw.pm pl (by decide +kernel)).mono ?_
    rintro e w3 ⟨rfl, b3⟩
    replace hw := hw.below b3
    clear b3 pl
    go_wp2_with (go_at_call 11; refine (num_any _ _).mono ?_; rintro e w' ⟨rfl, rfl⟩)
    refine (tr_w 0 0 _ 700 false [] hw (trF _ _ _ _ _ _ (by omega)).1 (trF _ _ _ _ _ _ (by omega)).2).mono ?_
    rintro e w5 ⟨A5, cap5, rfl, _, hw5, _⟩
    have hb5 := hw5.b
    clear hw hw5
    go_wp2_with (go_at_call 11; refine (num_any _ _).mono ?_; rintro e w' ⟨rfl, rfl⟩)
    go_ret
    exact ⟨rfl, hb5⟩
  · go_wp2_with fail
    obtain ⟨pl, bl⟩ := lits1 w2 [0] (by simp)
    replace hw := hw.below bl
    clear bl
    refine (new_no7 g _ _ _ l7 _ hw.pm pl (by decide +kernel)).mono ?_
    rintro e w3 ⟨rfl, b3⟩
    replace hw := hw.below b3
    clear b3 pl
    go_wp2_with (go_at_call 11; refine (num_any _ _).mono ?_; rintro e w' ⟨rfl, rfl⟩)
    refine (tr_w 0 0 _ 700 false [] hw (trF _ _ _ _ _ _ (by omega)).1 (trF _ _ _ _ _ _ (by omega)).2).mono ?_
    rintro e w5 ⟨A5, cap5, rfl, _, hw5, _⟩
    have hb5 := hw5.b
    clear hw hw5
    go_wp2_with (go_at_call 11; refine (num_any _ _).mono ?_; rintro e w' ⟨rfl, rfl⟩)
    go_ret
    exact ⟨rfl, hb5⟩
  · go_wp2_with fail
    obtain ⟨pl, bl⟩ := lits1 w2 [0, 15 + (1 + X)] (by simp)
    replace hw := hw.below bl
    clear bl
    refine (new_no7 g _ _ _ l7 _ hw.pm pl (by rw [l7_frs]; exact decide_eq_false (fun h => by have := h.2.2.2 (15 + (1 + X)) (by simp); omega))).mono ?_
    rintro e w3 ⟨rfl, b3⟩
    replace hw := hw.below b3
    clear b3 pl
    go_wp2_with (go_at_call 11; refine (num_any _ _).mono ?_; rintro e w' ⟨rfl, rfl⟩)
    refine (tr_w 0 0 _ 700 false [] hw (trF _ _ _ _ _ _ (by omega)).1 (trF _ _ _ _ _ _ (by omega)).2).mono ?_
    rintro e w5 ⟨A5, cap5, rfl, _, hw5, _⟩
    have hb5 := hw5.b
    clear hw hw5
    go_wp2_with (go_at_call 11; refine (num_any _ _).mono ?_; rintro e w' ⟨rfl, rfl⟩)
    go_ret
    exact ⟨rfl, hb5⟩
  · go_wp2_with fail
    obtain ⟨pl, bl⟩ := lits1 w2 [0, 1, 2, 3, 4, 5] (by simp)
    replace hw := hw.below bl
    clear bl
    refine (new_no7 g _ _ _ l7 _ hw.pm pl (by decide +kernel)).mono ?_
    rintro e w3 ⟨rfl, b3⟩
    replace hw := hw.below b3
    clear b3 pl
    go_wp2_with (go_at_call 11; refine (num_any _ _).mono ?_; rintro e w' ⟨rfl, rfl⟩)
    refine (tr_w 0 0 _ 700 false [] hw (trF _ _ _ _ _ _ (by omega)).1 (trF _ _ _ _ _ _ (by omega)).2).mono ?_
    rintro e w5 ⟨A5, cap5, rfl, _, hw5, _⟩
    have hb5 := hw5.b
    clear hw hw5
    go_wp2_with (go_at_call 11; refine (num_any _ _).mono ?_; rintro e w' ⟨rfl, rfl⟩)
    go_ret
    exact ⟨rfl, hb5⟩
  · go_wp2_with fail
    obtain ⟨pl, bl⟩ := lits2 w2 [0, 1] [2, 0] (by simp) (by simp)
    replace hw := hw.below bl
    clear bl
    refine (new_no7 g _ _ _ l7 _ hw.pm pl (by decide +kernel)).mono ?_
    rintro e w3 ⟨rfl, b3⟩
    replace hw := hw.below b3
    clear b3 pl
    go_wp2_with (go_at_call 11; refine (num_any _ _).mono ?_; rintro e w' ⟨rfl, rfl⟩)
    refine (tr_w 0 0 _ 700 false [] hw (trF _ _ _ _ _ _ (by omega)).1 (trF _ _ _ _ _ _ (by omega)).2).mono ?_
    rintro e w5 ⟨A5, cap5, rfl, _, hw5, _⟩
    have hb5 := hw5.b
    clear hw hw5
    go_wp2_with (go_at_call 11; refine (num_any _ _).mono ?_; rintro e w' ⟨rfl, rfl⟩)
    go_ret
    exact ⟨rfl, hb5⟩
  · go_wp2_with fail
    refine (map_w _ 0 1 1 700 hw (mapF _ _ _ _ _ _ (by rw [ps2_len, l7_frs]; omega)).1 (mapF _ _ _ _ _ _ (by rw [ps2_len, l7_frs]; omega)).2).mono ?_
    rintro e w3 ⟨rfl, hw3, _⟩
    replace hw := hw3
    clear hw3
    go_wp2_with (go_at_call 11; refine (num_any _ _).mono ?_; rintro e w' ⟨rfl, rfl⟩)
    refine (tr_w 0 0 _ 700 false [] hw (trF _ _ _ _ _ _ (by omega)).1 (trF _ _ _ _ _ _ (by omega)).2).mono ?_
    rintro e w5 ⟨A5, cap5, rfl, _, hw5, _⟩
    have hb5 := hw5.b
    clear hw hw5
    go_wp2_with (go_at_call 11; refine (num_any _ _).mono ?_; rintro e w' ⟨rfl, rfl⟩)
    go_ret
    exact ⟨rfl, hb5⟩
  · go_wp2_with fail
    refine (map_w 0 _ 1 1 700 hw (mapF _ _ _ _ _ _ (by rw [ps2_len, l7_frs]; omega)).1 (mapF _ _ _ _ _ _ (by rw [ps2_len, l7_frs]; omega)).2).mono ?_
    rintro e w3 ⟨rfl, hw3, _⟩
    replace hw := hw3
    clear hw3
    go_wp2_with (go_at_call 11; refine (num_any _ _).mono ?_; rintro e w' ⟨rfl, rfl⟩)
    refine (tr_w 0 0 _ 700 false [] hw (trF _ _ _ _ _ _ (by omega)).1 (trF _ _ _ _ _ _ (by omega)).2).mono ?_
    rintro e w5 ⟨A5, cap5, rfl, _, hw5, _⟩
    have hb5 := hw5.b
    clear hw hw5
    go_wp2_with (go_at_call 11; refine (num_any _ _).mono ?_; rintro e w' ⟨rfl, rfl⟩)
    go_ret
    exact ⟨rfl, hb5⟩
  · go_wp2_with fail
    refine (map_w 0 0 0 0 700 hw (mapF _ _ _ _ _ _ (by rw [ps2_len, l7_frs]; omega)).1 (mapF _ _ _ _ _ _ (by rw [ps2_len, l7_frs]; omega)).2).mono ?_
    rintro e w3 ⟨rfl, hw3, _⟩
    replace hw := hw3
    clear hw3
    go_wp2_with (go_at_call 11; refine (num_any _ _).mono ?_; rintro e w' ⟨rfl, rfl⟩)
    refine (tr_w 0 0 _ 700 false [] hw (trF _ _ _ _ _ _ (by omega)).1 (trF _ _ _ _ _ _ (by omega)).2).mono ?_
    rintro e w5 ⟨A5, cap5, rfl, _, hw5, _⟩
    have hb5 := hw5.b
    clear hw hw5
    go_wp2_with (go_at_call 11; refine (num_any _ _).mono ?_; rintro e w' ⟨rfl, rfl⟩)
    go_ret
    exact ⟨rfl, hb5⟩
  · go_wp2_with fail
    refine (map_w 0 0 16 1 700 hw (mapF _ _ _ _ _ _ (by rw [ps2_len, l7_frs]; omega)).1 (mapF _ _ _ _ _ _ (by rw [ps2_len, l7_frs]; omega)).2).mono ?_
    rintro e w3 ⟨rfl, hw3, _⟩
    replace hw := hw3
    clear hw3
    go_wp2_with (go_at_call 11; refine (num_any _ _).mono ?_; rintro e w' ⟨rfl, rfl⟩)
    refine (tr_w 0 0 _ 700 false [] hw (trF _ _ _ _ _ _ (by omega)).1 (trF _ _ _ _ _ _ (by omega)).2).mono ?_
    rintro e w5 ⟨A5, cap5, rfl, _, hw5, _⟩
    have hb5 := hw5.b
    clear hw hw5
    go_wp2_with (go_at_call 11; refine (num_any _ _).mono ?_; rintro e w' ⟨rfl, rfl⟩)
    go_ret
    exact ⟨rfl, hb5⟩
  · go_wp2_with fail
    refine (unmap_w _ 0 700 hw (unF _ _ _ _ (by rw [ps2_len]; omega)).1 (unF _ _ _ _ (by rw [ps2_len]; omega)).2).mono ?_
    rintro e w3 ⟨rfl, hw3, _⟩
    replace hw := hw3
    clear hw3
    go_wp2_with (go_at_call 11; refine (num_any _ _).mono ?_; rintro e w' ⟨rfl, rfl⟩)
    refine (tr_w 0 0 _ 700 false [] hw (trF _ _ _ _ _ _ (by omega)).1 (trF _ _ _ _ _ _ (by omega)).2).mono ?_
    rintro e w5 ⟨A5, cap5, rfl, _, hw5, _⟩
    have hb5 := hw5.b
    clear hw hw5
    go_wp2_with (go_at_call 11; refine (num_any _ _).mono ?_; rintro e w' ⟨rfl, rfl⟩)
    go_ret
    exact ⟨rfl, hb5⟩
  · go_wp2_with fail
    refine (tr_w 0 0 _ 700 false [] hw (trF _ _ _ _ _ _ (by omega)).1 (trF _ _ _ _ _ _ (by omega)).2).mono ?_
    rintro e w3 ⟨A3, cap3, rfl, _, hw3, _⟩
    replace hw := hw3
    clear hw3
    go_wp2_with (go_at_call 11; refine (num_any _ _).mono ?_; rintro e w' ⟨rfl, rfl⟩)
    refine (tr_w 0 0 _ 700 false [] hw (trF _ _ _ _ _ _ (by omega)).1 (trF _ _ _ _ _ _ (by omega)).2).mono ?_
    rintro e w5 ⟨A5, cap5, rfl, _, hw5, _⟩
    have hb5 := hw5.b
    clear hw hw5
    go_wp2_with (go_at_call 11; refine (num_any _ _).mono ?_; rintro e w' ⟨rfl, rfl⟩)
    go_ret
    exact ⟨rfl, hb5⟩
  · go_wp2_with fail
    refine (tr_w 0 _ 1 700 false [] hw (trF _ _ _ _ _ _ (by omega)).1 (trF _ _ _ _ _ _ (by omega)).2).mono ?_
    rintro e w3 ⟨A3, cap3, rfl, _, hw3, _⟩
    replace hw := hw3
    clear hw3
    go_wp2_with (go_at_call 11; refine (num_any _ _).mono ?_; rintro e w' ⟨rfl, rfl⟩)
    refine (tr_w 0 0 _ 700 false [] hw (trF _ _ _ _ _ _ (by omega)).1 (trF _ _ _ _ _ _ (by omega)).2).mono ?_
    rintro e w5 ⟨A5, cap5, rfl, _, hw5, _⟩
    have hb5 := hw5.b
    clear hw hw5
    go_wp2_with (go_at_call 11; refine (num_any _ _).mono ?_; rintro e w' ⟨rfl, rfl⟩)
    go_ret
    exact ⟨rfl, hb5⟩
  · go_wp2_with fail
    refine (tr_w 0 16383 _ 700 false [] hw (trF _ _ _ _ _ _ (by omega)).1 (trF _ _ _ _ _ _ (by omega)).2).mono ?_
    rintro e w3 ⟨A3, cap3, rfl, _, hw3, _⟩
    replace hw := hw3
    clear hw3
    go_wp2_with (go_at_call 11; refine (num_any _ _).mono ?_; rintro e w' ⟨rfl, rfl⟩)
    refine (tr_w 0 0 _ 700 false [] hw (trF _ _ _ _ _ _ (by omega)).1 (trF _ _ _ _ _ _ (by omega)).2).mono ?_
    rintro e w5 ⟨A5, cap5, rfl, _, hw5, _⟩
    have hb5 := hw5.b
    clear hw hw5
    go_wp2_with (go_at_call 11; refine (num_any _ _).mono ?_; rintro e w' ⟨rfl, rfl⟩)
    go_ret
    exact ⟨rfl, hb5⟩
  · go_wp2_with fail
    refine (clear_w _ 700 hw (clF _ l7 _ (by rw [ps2_len]; omega)).1 (clF _ l7 _ (by rw [ps2_len]; omega)).2).mono ?_
    rintro e w3 ⟨rfl, hw3, _⟩
    replace hw := hw3
    clear hw3
    go_wp2_with (go_at_call 11; refine (num_any _ _).mono ?_; rintro e w' ⟨rfl, rfl⟩)
    refine (tr_w 0 0 _ 700 false [] hw (trF _ _ _ _ _ _ (by omega)).1 (trF _ _ _ _ _ _ (by omega)).2).mono ?_
    rintro e w5 ⟨A5, cap5, rfl, _, hw5, _⟩
    have hb5 := hw5.b
    clear hw hw5
    go_wp2_with (go_at_call 11; refine (num_any _ _).mono ?_; rintro e w' ⟨rfl, rfl⟩)
    go_ret
    exact ⟨rfl, hb5⟩

end Go.Proofs.Ytkiijohmadeofaa
