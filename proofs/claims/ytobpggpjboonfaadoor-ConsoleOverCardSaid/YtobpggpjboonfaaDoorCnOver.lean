/-
  The law ConsoleOver of the console. MADE BY gencnlaws.py.
-/
import Derived.Test.YtobpggpjboonfaaDoorCnAw
namespace Go.Proofs.YtobpggpjboonfaaDoor
open Go.RowKit Go.Lib
set_option linter.unusedVariables false
set_option linter.unusedSimpArgs false
set_option maxRecDepth 100000

/-- The ways of the law's test. -/
theorem over_ways (p q r s : Nat) :
    (lD p q r s = true ∧ p < 4 ∧ r < 4 ∧ q < 16 ∧ s < 16 ∧ r ≤ p ∧ (bits BinOp.and IntKind.i64 (q : Int) (s : Int) == (s : Int)) = true) ∨
    (lD p q r s = false ∧ (4 ≤ p ∨ (p < 4 ∧ 4 ≤ r) ∨ (p < 4 ∧ r < 4 ∧ 16 ≤ q) ∨ (p < 4 ∧ r < 4 ∧ q < 16 ∧ 16 ≤ s) ∨ (p < 4 ∧ r < 4 ∧ q < 16 ∧ s < 16 ∧ p < r) ∨ (p < 4 ∧ r < 4 ∧ q < 16 ∧ s < 16 ∧ r ≤ p ∧ (bits BinOp.and IntKind.i64 (q : Int) (s : Int) == (s : Int)) = false))) := by
  by_cases h : p < 4 ∧ r < 4 ∧ q < 16 ∧ s < 16 ∧ r ≤ p
  · obtain ⟨h1, h2, h3, h4, h5⟩ := h
    have hb := (bits_has (q : Int) (s : Int) (by omega) (by omega) (by omega) (by omega)).2.1
    have hl : lD p q r s = hasB q s := by
      unfold lD lB
      rw [decide_eq_true (by omega), decide_eq_true (by omega), decide_eq_true (by omega)]; simp
    rw [← hb] at hl
    cases hB : (bits BinOp.and IntKind.i64 (q : Int) (s : Int) == (s : Int)) with
    | true => exact .inl ⟨by rw [hl, hB], h1, h2, h3, h4, h5, rfl⟩
    | false => exact .inr ⟨by rw [hl, hB], .inr (.inr (.inr (.inr (.inr ⟨h1, h2, h3, h4, h5, rfl⟩))))⟩
  · right
    refine ⟨?_, by omega⟩
    unfold lD lB
    by_cases h1 : (0 : Int) ≤ p ∧ (p : Int) ≤ 3 ∧ (0 : Int) ≤ q ∧ (q : Int) ≤ 15
    · by_cases h2 : (0 : Int) ≤ r ∧ (r : Int) ≤ 3 ∧ (0 : Int) ≤ s ∧ (s : Int) ≤ 15
      · rw [decide_eq_false (p := (r : Int) ≤ p) (by omega)]; simp
      · rw [decide_eq_false h2]; simp
    · rw [decide_eq_false h1]; simp

set_option maxHeartbeats 1000000 in
theorem law_ConsoleOver (a b : Int) (w0 : (Lit.int .i64 a).wf = true) (w1 : (Lit.int .i64 b).wf = true) (W : World) (he : Env W) :
    Calls Tryd.prog 7 #[.int .i64 a, .int .i64 b] W fun e w' => e = .returned (.bool true) ∧ Below W.heap.size W w' := by
  have hp := band a 7 (by omega) (by omega)
  generalize hp' : bits BinOp.and IntKind.i64 a 7 = P at hp
  obtain ⟨hp0, hp1⟩ := hp
  obtain ⟨p, rfl⟩ := Int.eq_ofNat_of_zero_le hp0
  clear hp0
  have hq := band (a / 8) 31 (by omega) (by omega)
  generalize hq' : bits BinOp.and IntKind.i64 (a / 8) 31 = Q at hq
  obtain ⟨hq0, hq1⟩ := hq
  obtain ⟨q, rfl⟩ := Int.eq_ofNat_of_zero_le hq0
  clear hq0
  have hr := band b 7 (by omega) (by omega)
  generalize hr' : bits BinOp.and IntKind.i64 b 7 = R at hr
  obtain ⟨hr0, hr1⟩ := hr
  obtain ⟨r, rfl⟩ := Int.eq_ofNat_of_zero_le hr0
  clear hr0
  have hs := band (b / 8) 31 (by omega) (by omega)
  generalize hs' : bits BinOp.and IntKind.i64 (b / 8) 31 = S at hs
  obtain ⟨hs0, hs1⟩ := hs
  obtain ⟨s, rfl⟩ := Int.eq_ofNat_of_zero_le hs0
  clear hs0
  have lp := dec_len p (by omega)
  obtain ⟨Dp, hDp⟩ : ∃ Z, str (decDigits p) = Z := ⟨_, rfl⟩
  have HDp : Hid (∀ w, Calls Tryd.prog 16 #[.int .i64 (p : Int)] w fun e w' => e = .returned (.string Dp) ∧ Below w.heap.size w w') := Lib.hid (fun w => by
    have := dcm_any p w (by omega)
    rw [dcm_nat p (by omega), hDp] at this
    exact this)
  have lq := dec_len q (by omega)
  obtain ⟨Dq, hDq⟩ : ∃ Z, str (decDigits q) = Z := ⟨_, rfl⟩
  have HDq : Hid (∀ w, Calls Tryd.prog 16 #[.int .i64 (q : Int)] w fun e w' => e = .returned (.string Dq) ∧ Below w.heap.size w w') := Lib.hid (fun w => by
    have := dcm_any q w (by omega)
    rw [dcm_nat q (by omega), hDq] at this
    exact this)
  have lr := dec_len r (by omega)
  obtain ⟨Dr, hDr⟩ : ∃ Z, str (decDigits r) = Z := ⟨_, rfl⟩
  have HDr : Hid (∀ w, Calls Tryd.prog 16 #[.int .i64 (r : Int)] w fun e w' => e = .returned (.string Dr) ∧ Below w.heap.size w w') := Lib.hid (fun w => by
    have := dcm_any r w (by omega)
    rw [dcm_nat r (by omega), hDr] at this
    exact this)
  have ls := dec_len s (by omega)
  obtain ⟨Ds, hDs⟩ : ∃ Z, str (decDigits s) = Z := ⟨_, rfl⟩
  have HDs : Hid (∀ w, Calls Tryd.prog 16 #[.int .i64 (s : Int)] w fun e w' => e = .returned (.string Ds) ∧ Below w.heap.size w w') := Lib.hid (fun w => by
    have := dcm_any s w (by omega)
    rw [dcm_nat s (by omega), hDs] at this
    exact this)
  obtain ⟨S1, hS1⟩ : ∃ Z, str ([111, 118, 101, 114, 32] ++ (decDigits p)) = Z := ⟨_, rfl⟩
  have aS1 : ∀ wx, (Op.stringOp .add ⟨#[111, 118, 101, 114, 32]⟩ Dp).run Tryd.prog wx = .ok (.string S1) wx := add_eq [111, 118, 101, 114, 32] (decDigits p) S1 ⟨#[111, 118, 101, 114, 32]⟩ Dp rfl hDp hS1 (by simp only [List.length_append, List.length_cons, List.length_nil]; omega)
  obtain ⟨S2, hS2⟩ : ∃ Z, str (([111, 118, 101, 114, 32] ++ (decDigits p)) ++ [32]) = Z := ⟨_, rfl⟩
  have aS2 : ∀ wx, (Op.stringOp .add S1 ⟨#[32]⟩).run Tryd.prog wx = .ok (.string S2) wx := add_eq ([111, 118, 101, 114, 32] ++ (decDigits p)) [32] S2 S1 ⟨#[32]⟩ hS1 rfl hS2 (by simp only [List.length_append, List.length_cons, List.length_nil]; omega)
  obtain ⟨S3, hS3⟩ : ∃ Z, str ((([111, 118, 101, 114, 32] ++ (decDigits p)) ++ [32]) ++ (decDigits q)) = Z := ⟨_, rfl⟩
  have aS3 : ∀ wx, (Op.stringOp .add S2 Dq).run Tryd.prog wx = .ok (.string S3) wx := add_eq (([111, 118, 101, 114, 32] ++ (decDigits p)) ++ [32]) (decDigits q) S3 S2 Dq hS2 hDq hS3 (by simp only [List.length_append, List.length_cons, List.length_nil]; omega)
  obtain ⟨S4, hS4⟩ : ∃ Z, str (((([111, 118, 101, 114, 32] ++ (decDigits p)) ++ [32]) ++ (decDigits q)) ++ [32]) = Z := ⟨_, rfl⟩
  have aS4 : ∀ wx, (Op.stringOp .add S3 ⟨#[32]⟩).run Tryd.prog wx = .ok (.string S4) wx := add_eq ((([111, 118, 101, 114, 32] ++ (decDigits p)) ++ [32]) ++ (decDigits q)) [32] S4 S3 ⟨#[32]⟩ hS3 rfl hS4 (by simp only [List.length_append, List.length_cons, List.length_nil]; omega)
  obtain ⟨S5, hS5⟩ : ∃ Z, str ((((([111, 118, 101, 114, 32] ++ (decDigits p)) ++ [32]) ++ (decDigits q)) ++ [32]) ++ (decDigits r)) = Z := ⟨_, rfl⟩
  have aS5 : ∀ wx, (Op.stringOp .add S4 Dr).run Tryd.prog wx = .ok (.string S5) wx := add_eq (((([111, 118, 101, 114, 32] ++ (decDigits p)) ++ [32]) ++ (decDigits q)) ++ [32]) (decDigits r) S5 S4 Dr hS4 hDr hS5 (by simp only [List.length_append, List.length_cons, List.length_nil]; omega)
  obtain ⟨S6, hS6⟩ : ∃ Z, str (((((([111, 118, 101, 114, 32] ++ (decDigits p)) ++ [32]) ++ (decDigits q)) ++ [32]) ++ (decDigits r)) ++ [32]) = Z := ⟨_, rfl⟩
  have aS6 : ∀ wx, (Op.stringOp .add S5 ⟨#[32]⟩).run Tryd.prog wx = .ok (.string S6) wx := add_eq ((((([111, 118, 101, 114, 32] ++ (decDigits p)) ++ [32]) ++ (decDigits q)) ++ [32]) ++ (decDigits r)) [32] S6 S5 ⟨#[32]⟩ hS5 rfl hS6 (by simp only [List.length_append, List.length_cons, List.length_nil]; omega)
  obtain ⟨S7, hS7⟩ : ∃ Z, str ((((((([111, 118, 101, 114, 32] ++ (decDigits p)) ++ [32]) ++ (decDigits q)) ++ [32]) ++ (decDigits r)) ++ [32]) ++ (decDigits s)) = Z := ⟨_, rfl⟩
  have aS7 : ∀ wx, (Op.stringOp .add S6 Ds).run Tryd.prog wx = .ok (.string S7) wx := add_eq (((((([111, 118, 101, 114, 32] ++ (decDigits p)) ++ [32]) ++ (decDigits q)) ++ [32]) ++ (decDigits r)) ++ [32]) (decDigits s) S7 S6 Ds hS6 hDs hS7 (by simp only [List.length_append, List.length_cons, List.length_nil]; omega)
  have hX : ((((((([111, 118, 101, 114, 32] ++ (decDigits p)) ++ [32]) ++ (decDigits q)) ++ [32]) ++ (decDigits r)) ++ [32]) ++ (decDigits s)) = jnS (cmW 3 :: [p, q, r, s].map decDigits) := by simp [jnS, tlS, cmW]
  have hR : rnS ((((((([111, 118, 101, 114, 32] ++ (decDigits p)) ++ [32]) ++ (decDigits q)) ++ [32]) ++ (decDigits r)) ++ [32]) ++ (decDigits s)) = yesS (lD p q r s) ++ [10] := by
    rw [hX, rn_cmd 3 (by omega) [p, q, r, s] (by intro u hu; simp at hu; omega) rfl]; rfl
  obtain ⟨T, hT⟩ : ∃ Z, str (yesS (lD p q r s) ++ [10]) = Z := ⟨_, rfl⟩
  have HRUN : Hid (∀ w, Env w → Calls Tryd.prog 11 #[.string S7] w fun e w' => e = .returned (.tuple #[.string T, .int .i64 0]) ∧ Below w.heap.size w w') := Lib.hid (fun w h => by
    have := run_any ((((((([111, 118, 101, 114, 32] ++ (decDigits p)) ++ [32]) ++ (decDigits q)) ++ [32]) ++ (decDigits r)) ++ [32]) ++ (decDigits s)) w h (by simp only [List.length_append, List.length_cons, List.length_nil]; omega)
    rw [hS7, hR, hT] at this
    exact this)
  have HT := Lib.hid hT
  clear hX hR hT hS1 hS2 hS3 hS4 hS5 hS6 hS7 hDp lp hDq lq hDr lr hDs ls w0 w1
  have B0 := Lib.hid (Below.refl W.heap.size W)
  have HEW := Lib.hid he
  go_enter Tryd.func7, Tryd.ntmps7
  go_wp2_with fail
  refine (cawake_any _ he).mono ?_
  rintro e w1 ⟨rfl, b1⟩
  have B1 := Lib.hid (B0.out.trans (b1.mono B0.out.size))
  have HE1 := Lib.hid (he.below B1.out)
  clear b1
  go_wp2_with fail
  refine (HDp.out _).mono ?_
  rintro e w2 ⟨rfl, b2⟩
  have B2 := Lib.hid (B1.out.trans (b2.mono B1.out.size))
  have HE2 := Lib.hid (he.below B2.out)
  clear b2
  go_wp2_with fail
  refine (HDq.out _).mono ?_
  rintro e w3 ⟨rfl, b3⟩
  have B3 := Lib.hid (B2.out.trans (b3.mono B2.out.size))
  have HE3 := Lib.hid (he.below B3.out)
  clear b3
  go_wp2_with fail
  refine (HDr.out _).mono ?_
  rintro e w4 ⟨rfl, b4⟩
  have B4 := Lib.hid (B3.out.trans (b4.mono B3.out.size))
  have HE4 := Lib.hid (he.below B4.out)
  clear b4
  go_wp2_with fail
  refine (HDs.out _).mono ?_
  rintro e w5 ⟨rfl, b5⟩
  have B5 := Lib.hid (B4.out.trans (b5.mono B4.out.size))
  have HE5 := Lib.hid (he.below B5.out)
  clear b5
  go_wp2_with fail
  refine (HRUN.out _ HE5.out).mono ?_
  rintro e w6 ⟨rfl, b6⟩
  have B6 := Lib.hid (B5.out.trans (b6.mono B5.out.size))
  have HE6 := Lib.hid (he.below B6.out)
  clear b6
  clear aS1 aS2 aS3 aS4 aS5 aS6 aS7 hp' hq' hr' hs'
  rcases over_ways p q r s with ⟨hl, h1, h2, h3, h4, h5, h6⟩ | ⟨hl, h1 | ⟨h1, h2⟩ | ⟨h1, h2, h3⟩ | ⟨h1, h2, h3, h4⟩ | ⟨h1, h2, h3, h4, h5⟩ | ⟨h1, h2, h3, h4, h5, h6⟩⟩
  all_goals
    have hT := HT.out
    rw [hl] at hT
    first
      | (change (⟨#[121, 101, 115, 10]⟩ : ByteArray) = T at hT)
      | (change (⟨#[110, 111, 10]⟩ : ByteArray) = T at hT)
    subst hT
    clear hl HT
    go_wp2_with (go_at_call 12; refine (num_any _ _).mono ?_; rintro e wn ⟨rfl, rfl⟩)
    go_ret
    exact ⟨rfl, B6.out⟩

end Go.Proofs.YtobpggpjboonfaaDoor
