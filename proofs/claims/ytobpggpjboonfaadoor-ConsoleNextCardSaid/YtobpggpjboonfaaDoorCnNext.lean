/-
  The law ConsoleNext of the console. MADE BY gencnlaws.py.
-/
import Derived.Test.YtobpggpjboonfaaDoorCnAw
import Derived.Test.YtobpggpjboonfaaDoorCnNx0
namespace Go.Proofs.YtobpggpjboonfaaDoor
open Go.RowKit Go.Lib
set_option linter.unusedVariables false
set_option linter.unusedSimpArgs false
set_option maxRecDepth 100000

theorem md_bound (U m : Int) (h0 : 0 ≤ U) (hm : 1 ≤ m) : 0 ≤ U % m ∧ U % m < m ∧ U.tmod m = U % m := ⟨Int.emod_nonneg _ (by omega), Int.emod_lt_of_pos _ (by omega), Int.tmod_eq_emod_of_nonneg h0⟩
set_option maxHeartbeats 1000000 in
theorem law_ConsoleNext (a b c : Int) (w0 : (Lit.int .i64 a).wf = true) (w1 : (Lit.int .i64 b).wf = true) (w2 : (Lit.int .i64 c).wf = true) (W : World) (he : Env W) :
    Calls Tryd.prog 8 #[.int .i64 a, .int .i64 b, .int .i64 c] W fun e w' => e = .returned (.bool true) ∧ Below W.heap.size W w' := by
  have hU := u64b a
  generalize hU' : IntKind.u64.wrap a = U at hU
  have hI : 0 ≤ U % 64 ∧ U % 64 < 64 := by omega
  generalize hI' : U % 64 = I at hI
  obtain ⟨i, rfl⟩ := Int.eq_ofNat_of_zero_le hI.1
  have hi3 : i < 64 := by omega
  clear hI
  obtain ⟨m, hm⟩ : ∃ m : Nat, m = 1 + i := ⟨_, rfl⟩
  have hmi : (1 : Int) + (i : Int) = (m : Int) := by omega
  have hm1 : 1 ≤ m := by omega
  have hm64 : m ≤ 64 := by omega
  have hV := u64b b
  generalize hV' : IntKind.u64.wrap b = V at hV
  have hJ := md_bound V m hV.1 (by omega)
  generalize hJ' : V % (m : Int) = J at hJ
  obtain ⟨d, rfl⟩ := Int.eq_ofNat_of_zero_le hJ.1
  have hdm : d < m := by omega
  have hVt : V.tmod (m : Int) = (d : Int) := hJ.2.2
  have hVw : IntKind.u64.wrap (V.tmod (m : Int)) = (d : Int) := by rw [hVt]; exact IntWalk.u64_in _ (by omega)
  have hmw : IntKind.u64.wrap (m : Int) = (m : Int) := IntWalk.u64_in _ (by omega)
  clear hJ
  have hk := band c 1023 (by omega) (by omega)
  generalize hk' : bits BinOp.and IntKind.i64 c 1023 = K at hk
  obtain ⟨hk0, hk1⟩ := hk
  obtain ⟨k, rfl⟩ := Int.eq_ofNat_of_zero_le hk0
  clear hk0
  have hk1 : k ≤ 1023 := by omega
  obtain ⟨wt, hwt, hmod, hne, hN, hC⟩ := nx_plain m d k hm1 hm64 hdm hk1
  obtain ⟨z, hz⟩ : ∃ z, k + wt = z := ⟨_, rfl⟩
  rw [hz] at hmod hN
  have lm := dec_len m (by omega)
  obtain ⟨Dm, hDm⟩ : ∃ Z, str (decDigits m) = Z := ⟨_, rfl⟩
  have HDm : Hid (∀ w, Calls Tryd.prog 16 #[.int .i64 (m : Int)] w fun e w' => e = .returned (.string Dm) ∧ Below w.heap.size w w') := Lib.hid (fun w => by
    have := dcm_any m w (by omega)
    rw [dcm_nat m (by omega), hDm] at this
    exact this)
  have ld := dec_len d (by omega)
  obtain ⟨Dd, hDd⟩ : ∃ Z, str (decDigits d) = Z := ⟨_, rfl⟩
  have HDd : Hid (∀ w, Calls Tryd.prog 16 #[.int .i64 (d : Int)] w fun e w' => e = .returned (.string Dd) ∧ Below w.heap.size w w') := Lib.hid (fun w => by
    have := dcm_any d w (by omega)
    rw [dcm_nat d (by omega), hDd] at this
    exact this)
  have lk := dec_len k (by omega)
  obtain ⟨Dk, hDk⟩ : ∃ Z, str (decDigits k) = Z := ⟨_, rfl⟩
  have HDk : Hid (∀ w, Calls Tryd.prog 16 #[.int .i64 (k : Int)] w fun e w' => e = .returned (.string Dk) ∧ Below w.heap.size w w') := Lib.hid (fun w => by
    have := dcm_any k w (by omega)
    rw [dcm_nat k (by omega), hDk] at this
    exact this)
  have lz := dec_len z (by omega)
  obtain ⟨Dz, hDz⟩ : ∃ Z, str (decDigits z) = Z := ⟨_, rfl⟩
  have HDz : Hid (∀ w, Calls Tryd.prog 16 #[.int .i64 (z : Int)] w fun e w' => e = .returned (.string Dz) ∧ Below w.heap.size w w') := Lib.hid (fun w => by
    have := dcm_any z w (by omega)
    rw [dcm_nat z (by omega), hDz] at this
    exact this)
  obtain ⟨S1, hS1⟩ : ∃ Z, str ([110, 101, 120, 116, 32] ++ (decDigits m)) = Z := ⟨_, rfl⟩
  have aS1 : ∀ wx, (Op.stringOp .add ⟨#[110, 101, 120, 116, 32]⟩ Dm).run Tryd.prog wx = .ok (.string S1) wx := add_eq [110, 101, 120, 116, 32] (decDigits m) S1 ⟨#[110, 101, 120, 116, 32]⟩ Dm rfl hDm hS1 (by simp only [List.length_append, List.length_cons, List.length_nil]; omega)
  obtain ⟨S2, hS2⟩ : ∃ Z, str (([110, 101, 120, 116, 32] ++ (decDigits m)) ++ [32, 48, 32]) = Z := ⟨_, rfl⟩
  have aS2 : ∀ wx, (Op.stringOp .add S1 ⟨#[32, 48, 32]⟩).run Tryd.prog wx = .ok (.string S2) wx := add_eq ([110, 101, 120, 116, 32] ++ (decDigits m)) [32, 48, 32] S2 S1 ⟨#[32, 48, 32]⟩ hS1 rfl hS2 (by simp only [List.length_append, List.length_cons, List.length_nil]; omega)
  obtain ⟨S3, hS3⟩ : ∃ Z, str ((([110, 101, 120, 116, 32] ++ (decDigits m)) ++ [32, 48, 32]) ++ (decDigits m)) = Z := ⟨_, rfl⟩
  have aS3 : ∀ wx, (Op.stringOp .add S2 Dm).run Tryd.prog wx = .ok (.string S3) wx := add_eq (([110, 101, 120, 116, 32] ++ (decDigits m)) ++ [32, 48, 32]) (decDigits m) S3 S2 Dm hS2 hDm hS3 (by simp only [List.length_append, List.length_cons, List.length_nil]; omega)
  obtain ⟨S4, hS4⟩ : ∃ Z, str (((([110, 101, 120, 116, 32] ++ (decDigits m)) ++ [32, 48, 32]) ++ (decDigits m)) ++ [32]) = Z := ⟨_, rfl⟩
  have aS4 : ∀ wx, (Op.stringOp .add S3 ⟨#[32]⟩).run Tryd.prog wx = .ok (.string S4) wx := add_eq ((([110, 101, 120, 116, 32] ++ (decDigits m)) ++ [32, 48, 32]) ++ (decDigits m)) [32] S4 S3 ⟨#[32]⟩ hS3 rfl hS4 (by simp only [List.length_append, List.length_cons, List.length_nil]; omega)
  obtain ⟨S5, hS5⟩ : ∃ Z, str ((((([110, 101, 120, 116, 32] ++ (decDigits m)) ++ [32, 48, 32]) ++ (decDigits m)) ++ [32]) ++ (decDigits d)) = Z := ⟨_, rfl⟩
  have aS5 : ∀ wx, (Op.stringOp .add S4 Dd).run Tryd.prog wx = .ok (.string S5) wx := add_eq (((([110, 101, 120, 116, 32] ++ (decDigits m)) ++ [32, 48, 32]) ++ (decDigits m)) ++ [32]) (decDigits d) S5 S4 Dd hS4 hDd hS5 (by simp only [List.length_append, List.length_cons, List.length_nil]; omega)
  obtain ⟨S6, hS6⟩ : ∃ Z, str (((((([110, 101, 120, 116, 32] ++ (decDigits m)) ++ [32, 48, 32]) ++ (decDigits m)) ++ [32]) ++ (decDigits d)) ++ [32]) = Z := ⟨_, rfl⟩
  have aS6 : ∀ wx, (Op.stringOp .add S5 ⟨#[32]⟩).run Tryd.prog wx = .ok (.string S6) wx := add_eq ((((([110, 101, 120, 116, 32] ++ (decDigits m)) ++ [32, 48, 32]) ++ (decDigits m)) ++ [32]) ++ (decDigits d)) [32] S6 S5 ⟨#[32]⟩ hS5 rfl hS6 (by simp only [List.length_append, List.length_cons, List.length_nil]; omega)
  obtain ⟨S7, hS7⟩ : ∃ Z, str ((((((([110, 101, 120, 116, 32] ++ (decDigits m)) ++ [32, 48, 32]) ++ (decDigits m)) ++ [32]) ++ (decDigits d)) ++ [32]) ++ (decDigits k)) = Z := ⟨_, rfl⟩
  have aS7 : ∀ wx, (Op.stringOp .add S6 Dk).run Tryd.prog wx = .ok (.string S7) wx := add_eq (((((([110, 101, 120, 116, 32] ++ (decDigits m)) ++ [32, 48, 32]) ++ (decDigits m)) ++ [32]) ++ (decDigits d)) ++ [32]) (decDigits k) S7 S6 Dk hS6 hDk hS7 (by simp only [List.length_append, List.length_cons, List.length_nil]; omega)
  have hX : ((((((([110, 101, 120, 116, 32] ++ (decDigits m)) ++ [32, 48, 32]) ++ (decDigits m)) ++ [32]) ++ (decDigits d)) ++ [32]) ++ (decDigits k)) = jnS (cmW 4 :: [m, 0, m, d, k].map decDigits) := by
    have h0 : decDigits 0 = [48] := by rw [decDigits]; rfl
    simp [jnS, tlS, cmW, h0]
  obtain ⟨Z1, hZ1⟩ : ∃ Q, str (decDigits z ++ [10]) = Q := ⟨_, rfl⟩
  have aZ1 : ∀ wx, (Op.stringOp .add Dz ⟨#[10]⟩).run Tryd.prog wx = .ok (.string Z1) wx := add_eq (decDigits z) [10] Z1 Dz ⟨#[10]⟩ hDz rfl hZ1 (by simp only [List.length_append, List.length_cons, List.length_nil]; omega)
  have hR : rnS ((((((([110, 101, 120, 116, 32] ++ (decDigits m)) ++ [32, 48, 32]) ++ (decDigits m)) ++ [32]) ++ (decDigits d)) ++ [32]) ++ (decDigits k)) = decDigits z ++ [10] := by
    rw [hX, rn_cmd 4 (by omega) [m, 0, m, d, k] (by intro u hu; simp at hu; omega) rfl]
    have e1 : otS (nxS (m : Int) ((0 : Nat) : Int) (m : Int) (d : Int) (k : Int)) = decDigits z := by
      unfold otS nxS
      rw [show ((0 : Nat) : Int) = 0 from rfl, hN, hC]
      simp only [if_true]
      unfold rwS
      rw [List.map_cons, List.map_nil, dcm_nat z (by omega)]; simp [jnS, tlS]
    show otS (nxS (m : Int) ((0 : Nat) : Int) (m : Int) (d : Int) (k : Int)) ++ [10] = _
    rw [e1]
  have HRUN : Hid (∀ w, Env w → Calls Tryd.prog 11 #[.string S7] w fun e w' => e = .returned (.tuple #[.string Z1, .int .i64 0]) ∧ Below w.heap.size w w') := Lib.hid (fun w h => by
    have := run_any ((((((([110, 101, 120, 116, 32] ++ (decDigits m)) ++ [32, 48, 32]) ++ (decDigits m)) ++ [32]) ++ (decDigits d)) ++ [32]) ++ (decDigits k)) w h (by simp only [List.length_append, List.length_cons, List.length_nil]; omega)
    rw [hS7, hR, hZ1] at this
    exact this)
  have HNE := Lib.hid hne; have HMOD := Lib.hid hmod; have HZ := Lib.hid hz
  clear hX hR hZ1 hN hC hne hmod hm hJ' hS1 hS2 hS3 hS4 hS5 hS6 hS7 hDm lm hDd ld hDk lk hDz lz w0 w1 w2
  have B0 := Lib.hid (Below.refl W.heap.size W)
  have HEW := Lib.hid he
  go_enter Tryd.func8, Tryd.ntmps8
  go_wp2_with fail
  refine (cawake_any _ he).mono ?_
  rintro e w1 ⟨rfl, b1⟩
  have B1 := Lib.hid (B0.out.trans (b1.mono B0.out.size))
  have HE1 := Lib.hid (he.below B1.out)
  clear b1
  go_wp2_with fail
  refine (HDm.out _).mono ?_
  rintro e w2 ⟨rfl, b2⟩
  have B2 := Lib.hid (B1.out.trans (b2.mono B1.out.size))
  have HE2 := Lib.hid (he.below B2.out)
  clear b2
  go_wp2_with fail
  refine (HDm.out _).mono ?_
  rintro e w3 ⟨rfl, b3⟩
  have B3 := Lib.hid (B2.out.trans (b3.mono B2.out.size))
  have HE3 := Lib.hid (he.below B3.out)
  clear b3
  go_wp2_with fail
  refine (HDd.out _).mono ?_
  rintro e w4 ⟨rfl, b4⟩
  have B4 := Lib.hid (B3.out.trans (b4.mono B3.out.size))
  have HE4 := Lib.hid (he.below B4.out)
  clear b4
  go_wp2_with fail
  refine (HDk.out _).mono ?_
  rintro e w5 ⟨rfl, b5⟩
  have B5 := Lib.hid (B4.out.trans (b5.mono B4.out.size))
  have HE5 := Lib.hid (he.below B5.out)
  clear b5
  go_wp2_with fail
  refine (HRUN.out _ HE5.out).mono ?_
  rintro e w6 ⟨rfl, b6⟩
  have B6 := Lib.hid (B5.out.trans (b6.mono B5.out.size))
  have HE6 := Lib.hid (he.below B6.out)
  clear b6
  clear aS1 aS2 aS3 aS4 aS5 aS6 aS7 hU' hV' hk' hI' hVt hVw hmw
  go_wp2_with fail
  go_loop [9] (fun s => ∃ j : Nat, j ≤ wt ∧ s = .int .i64 ((k + j : Nat) : Int)) (fun s => (k + wt) - (RowKit.intOf s).toNat)
  case atStart => exact ⟨0, by omega, by simp⟩
  case round =>
    obtain ⟨j, hj, rfl⟩ := hrel
    obtain ⟨y, hy⟩ : ∃ y, k + j = y := ⟨_, rfl⟩
    rw [hy]
    have hym : (y : Int).tmod (m : Int) = ((y % m : Nat) : Int) := by rw [Int.tmod_eq_emod_of_nonneg (by omega)]; simp
    have hyl : y % m < m := Nat.mod_lt _ (by omega)
    by_cases hjw : j < wt
    · have hn := HNE.out j hjw
      rw [hy] at hn
      generalize y % m = R at *
      have hb : ((R : Int) != (d : Int)) = true := by simp; omega
      clear hn
      go_wp2
      go_round
      case rel => exact ⟨j + 1, by omega, by congr 1; omega⟩
      case measure => simp [RowKit.intOf]; omega
    · have hyz : y = z := by have := HZ.out; omega
      subst hyz
      have hn := HMOD.out
      generalize y % m = R at *
      subst hn
      clear hyl
      go_wp2_with (first
        | (go_at_call 12; refine (num_any _ _).mono ?_; rintro e wn ⟨rfl, rfl⟩)
        | (go_at_call 16; refine (HDz.out _).mono ?_; rintro e w7 ⟨rfl, b7⟩; have B7 := Lib.hid (B6.out.trans (b7.mono B6.out.size)); clear b7))
      go_ret
      exact ⟨rfl, B7.out⟩

end Go.Proofs.YtobpggpjboonfaaDoor
