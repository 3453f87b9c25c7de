/-
  The law ConsoleWords of the console. MADE BY gencnlaws.py.
-/
import Derived.Test.YtobpggpjboonfaaDoorCnAw
namespace Go.Proofs.YtobpggpjboonfaaDoor
open Go.RowKit Go.Lib
set_option linter.unusedVariables false
set_option linter.unusedSimpArgs false
set_option maxRecDepth 100000

set_option maxHeartbeats 1000000 in
theorem law_ConsoleWords (a b : Int) (w0 : (Lit.int .i64 a).wf = true) (w1 : (Lit.int .i64 b).wf = true) (W : World) (he : Env W) :
    Calls Tryd.prog 10 #[.int .i64 a, .int .i64 b] W fun e w' => e = .returned (.bool true) ∧ Below W.heap.size W w' := by
  have hf := band a 63 (by omega) (by omega)
  generalize hf' : bits BinOp.and IntKind.i64 a 63 = F at hf
  obtain ⟨hf0, hf1⟩ := hf
  obtain ⟨f, rfl⟩ := Int.eq_ofNat_of_zero_le hf0
  clear hf0
  have hU := u64b b
  generalize hU' : IntKind.u64.wrap b = U at hU
  have hI : 0 ≤ U % 3 ∧ U % 3 < 3 := by omega
  generalize hI' : U % 3 = I at hI
  obtain ⟨i, rfl⟩ := Int.eq_ofNat_of_zero_le hI.1
  have hi3 : i < 3 := by omega
  clear hI
  have hf64 : f ≤ 63 := by omega
  obtain ⟨p, hp⟩ : ∃ p : Nat, p = 1 + i := ⟨_, rfl⟩
  obtain ⟨x, hx⟩ : ∃ x : Nat, x = 4096 * f + 2 * p + 1 := ⟨_, rfl⟩
  have hpi : (1 : Int) + (i : Int) = (p : Int) := by omega
  have hxi : 4096 * (f : Int) + 2 * (p : Int) + 1 = (x : Int) := by omega
  have hE : eN f p = x ∧ e4 (eB f p) = 0 := by
    have h1 : eB (f : Int) (p : Int) = true := eB_yes _ _ (by omega) (by omega) (by omega) (by omega)
    unfold eN; rw [h1, if_pos ⟨rfl, by omega⟩]; exact ⟨by omega, rfl⟩
  have hG : gF x = f ∧ gP x = p ∧ e4 (gB x) = 0 := by
    have h1 : gB (x : Int) = true := decide_eq_true (by omega)
    unfold gF gP; rw [h1, if_pos rfl, if_pos rfl]; exact ⟨by omega, by omega, rfl⟩
  have lf := dec_len f (by omega)
  obtain ⟨Df, hDf⟩ : ∃ Z, str (decDigits f) = Z := ⟨_, rfl⟩
  have HDf : Hid (∀ w, Calls Tryd.prog 16 #[.int .i64 (f : Int)] w fun e w' => e = .returned (.string Df) ∧ Below w.heap.size w w') := Lib.hid (fun w => by
    have := dcm_any f w (by omega)
    rw [dcm_nat f (by omega), hDf] at this
    exact this)
  have lp := dec_len p (by omega)
  obtain ⟨Dp, hDp⟩ : ∃ Z, str (decDigits p) = Z := ⟨_, rfl⟩
  have HDp : Hid (∀ w, Calls Tryd.prog 16 #[.int .i64 (p : Int)] w fun e w' => e = .returned (.string Dp) ∧ Below w.heap.size w w') := Lib.hid (fun w => by
    have := dcm_any p w (by omega)
    rw [dcm_nat p (by omega), hDp] at this
    exact this)
  have lx := dec_len x (by omega)
  obtain ⟨Dx, hDx⟩ : ∃ Z, str (decDigits x) = Z := ⟨_, rfl⟩
  have HDx : Hid (∀ w, Calls Tryd.prog 16 #[.int .i64 (x : Int)] w fun e w' => e = .returned (.string Dx) ∧ Below w.heap.size w w') := Lib.hid (fun w => by
    have := dcm_any x w (by omega)
    rw [dcm_nat x (by omega), hDx] at this
    exact this)
  obtain ⟨S1, hS1⟩ : ∃ Z, str ((decDigits f) ++ [32]) = Z := ⟨_, rfl⟩
  have aS1 : ∀ wx, (Op.stringOp .add Df ⟨#[32]⟩).run Tryd.prog wx = .ok (.string S1) wx := add_eq (decDigits f) [32] S1 Df ⟨#[32]⟩ hDf rfl hS1 (by simp only [List.length_append, List.length_cons, List.length_nil]; omega)
  obtain ⟨S2, hS2⟩ : ∃ Z, str (((decDigits f) ++ [32]) ++ (decDigits p)) = Z := ⟨_, rfl⟩
  have aS2 : ∀ wx, (Op.stringOp .add S1 Dp).run Tryd.prog wx = .ok (.string S2) wx := add_eq ((decDigits f) ++ [32]) (decDigits p) S2 S1 Dp hS1 hDp hS2 (by simp only [List.length_append, List.length_cons, List.length_nil]; omega)
  obtain ⟨U1, hU1⟩ : ∃ Z, str ([101, 110, 116, 114, 121, 32] ++ (((decDigits f) ++ [32]) ++ (decDigits p))) = Z := ⟨_, rfl⟩
  have aU1 : ∀ wx, (Op.stringOp .add ⟨#[101, 110, 116, 114, 121, 32]⟩ S2).run Tryd.prog wx = .ok (.string U1) wx := add_eq [101, 110, 116, 114, 121, 32] (((decDigits f) ++ [32]) ++ (decDigits p)) U1 ⟨#[101, 110, 116, 114, 121, 32]⟩ S2 rfl hS2 hU1 (by simp only [List.length_append, List.length_cons, List.length_nil]; omega)
  obtain ⟨U2, hU2⟩ : ∃ Z, str (([101, 110, 116, 114, 121, 32] ++ (((decDigits f) ++ [32]) ++ (decDigits p))) ++ [10, 119, 111, 114, 100, 32]) = Z := ⟨_, rfl⟩
  have aU2 : ∀ wx, (Op.stringOp .add U1 ⟨#[10, 119, 111, 114, 100, 32]⟩).run Tryd.prog wx = .ok (.string U2) wx := add_eq ([101, 110, 116, 114, 121, 32] ++ (((decDigits f) ++ [32]) ++ (decDigits p))) [10, 119, 111, 114, 100, 32] U2 U1 ⟨#[10, 119, 111, 114, 100, 32]⟩ hU1 rfl hU2 (by simp only [List.length_append, List.length_cons, List.length_nil]; omega)
  obtain ⟨U3, hU3⟩ : ∃ Z, str ((([101, 110, 116, 114, 121, 32] ++ (((decDigits f) ++ [32]) ++ (decDigits p))) ++ [10, 119, 111, 114, 100, 32]) ++ (decDigits x)) = Z := ⟨_, rfl⟩
  have aU3 : ∀ wx, (Op.stringOp .add U2 Dx).run Tryd.prog wx = .ok (.string U3) wx := add_eq (([101, 110, 116, 114, 121, 32] ++ (((decDigits f) ++ [32]) ++ (decDigits p))) ++ [10, 119, 111, 114, 100, 32]) (decDigits x) U3 U2 Dx hU2 hDx hU3 (by simp only [List.length_append, List.length_cons, List.length_nil]; omega)
  obtain ⟨V1, hV1⟩ : ∃ Z, str ((decDigits x) ++ [10]) = Z := ⟨_, rfl⟩
  have aV1 : ∀ wx, (Op.stringOp .add Dx ⟨#[10]⟩).run Tryd.prog wx = .ok (.string V1) wx := add_eq (decDigits x) [10] V1 Dx ⟨#[10]⟩ hDx rfl hV1 (by simp only [List.length_append, List.length_cons, List.length_nil]; omega)
  obtain ⟨V2, hV2⟩ : ∃ Z, str (((decDigits x) ++ [10]) ++ (((decDigits f) ++ [32]) ++ (decDigits p))) = Z := ⟨_, rfl⟩
  have aV2 : ∀ wx, (Op.stringOp .add V1 S2).run Tryd.prog wx = .ok (.string V2) wx := add_eq ((decDigits x) ++ [10]) (((decDigits f) ++ [32]) ++ (decDigits p)) V2 V1 S2 hV1 hS2 hV2 (by simp only [List.length_append, List.length_cons, List.length_nil]; omega)
  obtain ⟨V3, hV3⟩ : ∃ Z, str ((((decDigits x) ++ [10]) ++ (((decDigits f) ++ [32]) ++ (decDigits p))) ++ [10]) = Z := ⟨_, rfl⟩
  have aV3 : ∀ wx, (Op.stringOp .add V2 ⟨#[10]⟩).run Tryd.prog wx = .ok (.string V3) wx := add_eq (((decDigits x) ++ [10]) ++ (((decDigits f) ++ [32]) ++ (decDigits p))) [10] V3 V2 ⟨#[10]⟩ hV2 rfl hV3 (by simp only [List.length_append, List.length_cons, List.length_nil]; omega)
  have hX : ((([101, 110, 116, 114, 121, 32] ++ (((decDigits f) ++ [32]) ++ (decDigits p))) ++ [10, 119, 111, 114, 100, 32]) ++ (decDigits x)) = jnS (cmW 1 :: [f, p].map decDigits) ++ 10 :: jnS (cmW 2 :: [x].map decDigits) := by simp [jnS, tlS, cmW]
  have hR : rnS ((([101, 110, 116, 114, 121, 32] ++ (((decDigits f) ++ [32]) ++ (decDigits p))) ++ [10, 119, 111, 114, 100, 32]) ++ (decDigits x)) = ((((decDigits x) ++ [10]) ++ (((decDigits f) ++ [32]) ++ (decDigits p))) ++ [10]) := by
    rw [hX, rnS_app, rn_cmd 1 (by omega) [f, p] (by intro u hu; simp at hu; omega) rfl, rn_cmd 2 (by omega) [x] (by intro u hu; simp at hu; omega) rfl]
    show otS (enS (f : Int) (p : Int)) ++ [10] ++ (otS (wdS (x : Int)) ++ [10]) = _
    have e1 : otS (enS (f : Int) (p : Int)) = decDigits x := by
      unfold otS enS; rw [hE.1, hE.2]; simp [rwS, jnS, tlS, dcm_nat x (by omega)]
    have e2 : otS (wdS (x : Int)) = decDigits f ++ 32 :: decDigits p := by
      unfold otS wdS; rw [hG.1, hG.2.1, hG.2.2]; simp [rwS, jnS, tlS, dcm_nat f (by omega), dcm_nat p (by omega)]
    rw [e1, e2]; simp
  have HRUN : Hid (∀ w, Env w → Calls Tryd.prog 11 #[.string U3] w fun e w' => e = .returned (.tuple #[.string V3, .int .i64 0]) ∧ Below w.heap.size w w') := Lib.hid (fun w h => by
    have := run_any ((([101, 110, 116, 114, 121, 32] ++ (((decDigits f) ++ [32]) ++ (decDigits p))) ++ [10, 119, 111, 114, 100, 32]) ++ (decDigits x)) w h (by simp only [List.length_append, List.length_cons, List.length_nil]; omega)
    rw [hU3, hR, hV3] at this
    exact this)
  clear hX hR hE hG hx hp hS1 hS2 hU1 hU2 hU3 hV1 hV2 hV3 hDf lf hDp lp hDx lx w0 w1
  have B0 := Lib.hid (Below.refl W.heap.size W)
  have HEW := Lib.hid he
  go_enter Tryd.func10, Tryd.ntmps10
  go_wp2_with fail
  refine (cawake_any _ he).mono ?_
  rintro e w1 ⟨rfl, b1⟩
  have B1 := Lib.hid (B0.out.trans (b1.mono B0.out.size))
  have HE1 := Lib.hid (he.below B1.out)
  clear b1
  go_wp2_with fail
  refine (HDf.out _).mono ?_
  rintro e w2 ⟨rfl, b2⟩
  have B2 := Lib.hid (B1.out.trans (b2.mono B1.out.size))
  have HE2 := Lib.hid (he.below B2.out)
  clear b2
  go_wp2_with fail
  refine (HDp.out _).mono ?_
  rintro e w3 ⟨rfl, b3⟩
  have B3 := Lib.hid (B2.out.trans (b3.mono B2.out.size))
  have HE3 := Lib.hid (he.below B3.out)
  clear b3
  go_wp2_with fail
  refine (HDx.out _).mono ?_
  rintro e w4 ⟨rfl, b4⟩
  have B4 := Lib.hid (B3.out.trans (b4.mono B3.out.size))
  have HE4 := Lib.hid (he.below B4.out)
  clear b4
  go_wp2_with fail
  refine (HRUN.out _ HE4.out).mono ?_
  rintro e w5 ⟨rfl, b5⟩
  have B5 := Lib.hid (B4.out.trans (b5.mono B4.out.size))
  have HE5 := Lib.hid (he.below B5.out)
  clear b5
  go_wp2_with (go_at_call 12; refine (num_any _ _).mono ?_; rintro e wn ⟨rfl, rfl⟩)
  go_ret
  exact ⟨rfl, B5.out⟩

end Go.Proofs.YtobpggpjboonfaaDoor
