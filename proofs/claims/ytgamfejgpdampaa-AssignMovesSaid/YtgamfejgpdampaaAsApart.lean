/-
  Layer 15's law AssignApart: it answers true for every input.
-/
import Derived.Test.YtgamfejgpdampaaAsForms
import Derived.IntWalk
import Derived.BigQuiet
namespace Go.Proofs.Ytgamfejgpdampaa
open Go.RowKit Go.ChangeMaps
set_option linter.unusedVariables false
set_option maxRecDepth 100000

theorem tmodA {t m : Int} (h0 : 0 ≤ t) (h1 : 1 ≤ m) (h2 : m ≤ 64) : IntKind.i64.wrap (t.tmod m) = t % m ∧ 0 ≤ t % m ∧ t % m < m ∧ t.tmod m = t % m := by
  have e : t.tmod m = t % m := Int.tmod_eq_emod_of_nonneg h0
  have a := Int.emod_nonneg t (show m ≠ 0 by omega)
  have b := Int.emod_lt_of_pos t (show 0 < m by omega)
  rw [e]
  exact ⟨IntWalk.i64_in _ (by omega), a, b, rfl⟩

/-- One of the first j is 0. -/
def hasZ (l : List Int) (j : Nat) : Bool := (l.take j).any (· == 0)
theorem hasZ_zero (l : List Int) : hasZ l 0 = false := by simp [hasZ]
theorem hasZ_step (l : List Int) (j : Nat) (h : j < l.length) : hasZ l (j + 1) = (hasZ l j || (l.getD j 0 == 0)) := by
  unfold hasZ
  rw [List.take_add_one, List.getElem?_eq_getElem h, List.any_append]
  simp [List.getD, List.getElem?_eq_getElem h]
theorem hasZ_all (L : Nat → Nat) : hasZ (atE L 2) (atE L 2).length = (L 0 == 1) := by
  unfold hasZ
  rw [List.take_length]
  unfold atE
  by_cases h0 : L 0 = 1 <;> by_cases h1 : L 1 = 1 <;> simp [List.range_succ, h0, h1]

section
variable {Oa Ob : Nat → Int} {La Lb : Nat → Nat} {q : Nat} {t : Int}
theorem ap_O0 (h1 : Oa 0 = Ob 0) (h2 : La 0 = Lb 0) : amO 2 3 Oa La 0 t 0 = amO 2 3 Ob Lb 0 t 0 := by
  have e : amG 2 3 La 0 t = amG 2 3 Lb 0 t := by unfold amG; rw [show ((0 : Int).toNat) = 0 from rfl, h2]
  unfold amO
  rw [e]
  split
  · rfl
  · exact h1
theorem ap_L0 (h2 : La 0 = Lb 0) : amL 2 3 q La 0 t 0 = amL 2 3 q Lb 0 t 0 := by
  have e : amG 2 3 La 0 t = amG 2 3 Lb 0 t := by unfold amG; rw [show ((0 : Int).toNat) = 0 from rfl, h2]
  unfold amL
  rw [e]
  split
  · rfl
  · exact h2
theorem ap_O1 (O : Nat → Int) (L : Nat → Nat) (t : Int) : amO 2 3 O L 0 t 1 = O 1 := by
  unfold amO
  split
  · unfold iF; rw [if_neg (by decide)]
  · rfl
theorem ap_L1 (L : Nat → Nat) (t : Int) : amL 2 3 q L 0 t 1 = L 1 := by
  unfold amL
  split
  · unfold uN; rw [if_neg (by decide)]
  · rfl
theorem ap_O2 (O : Nat → Int) (L : Nat → Nat) (t : Int) : amO 2 3 O L 1 t 0 = O 0 := by
  unfold amO
  split
  · unfold iF; rw [if_neg (by decide)]
  · rfl
theorem ap_L2 (L : Nat → Nat) (t : Int) : amL 2 3 q L 1 t 0 = L 0 := by
  unfold amL
  split
  · unfold uN; rw [if_neg (by decide)]
  · rfl
end

/-- Both say the same of the first device. -/
def Ap15 (wa : World) (g h q : Nat) (w : World) : Prop := ∃ Oa La Ob Lb, Tk nos wa [obPA h q 3 2 Ob Lb, obPA g q 3 2 Oa La] w ∧ Oa 0 = Ob 0 ∧ La 0 = Lb 0 ∧ Ob 1 = 1 ∧ Lb 1 = 0

set_option maxHeartbeats 8000000 in
theorem law_AssignApart (v : Value) (n : Nat) (zs : List Int) (a : Int) (w : World) (hv : Sl w v n 1 (ints zs)) (hn : n ≤ maxLen) (w1 : (Lit.int .i64 a).wf = true) :
    Calls Try.prog 6 #[v, .int .i64 a] w fun e w' => e = .returned (.bool true) ∧ Below w.heap.size w w' := by
  obtain ⟨A, cap, rfl⟩ : ∃ A cap, v = .slice A n cap := by obtain ⟨A, c, e, _⟩ := hv; exact ⟨A, c, e⟩
  unfold maxLen at hn
  have HV := Lib.hid hv; clear hv
  have hU := u64b a
  generalize hU' : IntKind.u64.wrap a = U at hU
  obtain ⟨hU0, hU1⟩ := hU
  have hI0 : 0 ≤ U % 8 := by omega
  have hI1 : U % 8 < 8 := by omega
  generalize hI' : U % 8 = I at hI0 hI1
  clear w1
  obtain ⟨Q, hQ⟩ : ∃ Q : Nat, (Q : Int) = 1 + I := ⟨(1 + I).toNat, by omega⟩
  have cN := fun W => anew_yes Q 3 (.slice (some ⟨W.heap.size, 0, none⟩) 2 2) 2 [0, 1] (W.alloc (.cells (ints [0, 1]).toArray 3)) (lit_ints W [0, 1] 2 rfl) (by omega) (by omega) (by decide) (by decide) (by decide) (by decide) (by intro j hj; rcases (show j = 0 ∨ j = 1 by omega) with rfl | rfl <;> decide)
  rw [hQ] at cN
  have CN := Lib.hid cN; clear cN hQ
  go_enter Try.func6, Try.ntmps6
  go_wp2_with fail
  refine (asawake_any _).mono ?_
  rintro e wa ⟨rfl, ba⟩
  have BA := Lib.hid ba
  have T0 := Lib.hid ((Tk.empty wa).alloc 3 (ints [0, 1]))
  clear ba
  go_wp2_with fail
  change Calls _ _ _ (wa.alloc (.cells (ints [0, 1]).toArray 3)) _
  refine (CN.out wa).mono ?_
  rintro e wb ⟨g, rfl, t⟩
  have T := Lib.hid (show Tk nos wa [obPA g Q 3 2 (zO [0, 1] 2) noN] wb from (T0.out.add t).drop 1)
  clear t T0
  go_wp2_with fail
  change Calls _ _ _ (wb.alloc (.cells (ints [0, 1]).toArray 3)) _
  refine (CN.out wb).mono ?_
  rintro e wc ⟨h, rfl, t⟩
  have S0 : Hid (Ap15 wa g h Q wc) := Lib.hid ⟨_, _, _, _, show Tk nos wa [obPA h Q 3 2 (zO [0, 1] 2) noN, obPA g Q 3 2 (zO [0, 1] 2) noN] wc from ((T.out.alloc 3 (ints [0, 1])).add t).drop 1, rfl, rfl, rfl, rfl⟩
  clear t T CN hU' hI'
  go_wp2_with (go_at_call 9; refine (num_any _ _).mono ?_; rintro e w' ⟨rfl, rfl⟩)
  go_loopw [10] (fun i wr => ∃ (k : Nat), k ≤ n ∧ k ≤ 60 ∧ i = .int .i64 k ∧ Hid (Ap15 wa g h Q wr)) (fun i _ => 60 - (intOf i).toNat)
  case atStart => exact ⟨0, by omega, by omega, rfl, S0⟩
  case round =>
    clear S0
    obtain ⟨k, hkn, hk60, rfl, HS⟩ := hrel
    by_cases hgo : k < n ∧ k < 60
    · obtain ⟨hlt, h60⟩ := hgo
      obtain ⟨Oa, La, Ob, Lb, tk, e1, e2, e3, e4⟩ := HS.out
      have hsl := HV.out.below (Below.down BA.out tk.below BA.out.size)
      obtain ⟨b, o, cap', e, hbw, hcell⟩ := sli_at hsl k hlt
      simp only [Value.slice.injEq] at e
      obtain ⟨rfl, -, -⟩ := e
      generalize zs.getD k 0 = z at hcell
      have hltI : (k : Int) < n := by omega
      have h60I : (k : Int) < 60 := by omega
      have hD := band z 1 (by omega) (by omega)
      have hM := band (z / 2) 1023 (by omega) (by omega)
      have hB := band (z / 2048) 1 (by omega) (by omega)
      generalize hD' : bits BinOp.and IntKind.i64 z 1 = d at hD
      generalize hM' : bits BinOp.and IntKind.i64 (z / 2) 1023 = M at hM
      generalize hB' : bits BinOp.and IntKind.i64 (z / 2048) 1 = B at hB
      obtain ⟨hm0, hm1, hm2, hm3⟩ := tmodA (t := M) (m := 3) hM.1 (by omega) (by omega)
      generalize M % 3 = t at hm0 hm1 hm2 hm3
      obtain ⟨hd0, hd1⟩ := hD
      obtain ⟨hb0, hb1⟩ := hB
      have L1 := Lib.hid tk
      have E1 := Lib.hid e1; have E2 := Lib.hid e2; have E3 := Lib.hid e3; have E4 := Lib.hid e4
      clear hsl tk hM HS e1 e2 e3 e4
      go_wp2_with fail
      go_quiet (fail)
      have L2 := Lib.hid (L1.out.drewN nq)
      clear L1
      replace hcell : (wr.drewN nq).cell? ⟨b, o + k, none⟩ = some (.int .i64 z) := hcell
      replace hbw : b < (wr.drewN nq).heap.size := hbw
      generalize wr.drewN nq = wx at *
      rcases (show B = 1 ∨ B = 0 by omega) with rfl | rfl
      · as_aux_lemma =>
          go_wp2_with fail
          refine (tk_atick (i := 1) wx L2.out rfl).mono ?_
          rintro e w2 ⟨v1, rfl, t2⟩
          obtain ⟨A1, c1, rfl, -⟩ := t2.sl (i := 0) rfl
          have T2 := Lib.hid t2
          clear t2 L2
          go_wp2_with fail
          refine (tk_atick (i := 1) w2 T2.out rfl).mono ?_
          rintro e w3 ⟨v2, rfl, t3⟩
          obtain ⟨A2, c2, rfl, -⟩ := t3.sl (i := 0) rfl
          have s1 := t3.sl (i := 1) rfl
          have s2 := t3.sl (i := 0) rfl
          have l1 := atE_len La 2
          have l2 := atE_len Lb 2
          have ZA := Lib.hid (hasZ_all La)
          have ZB : Hid (hasZ (atE Lb 2) (atE Lb 2).length = (La 0 == 1)) := Lib.hid (by rw [E2.out]; exact hasZ_all Lb)
          have T3 := Lib.hid (show Tk nos wa [obPA h Q 3 2 Ob (atL Lb 2), obPA g Q 3 2 Oa (atL La 2)] w3 from t3.tail.tail)
          have H1 := Lib.hid s1
          have H2 := Lib.hid s2
          clear t3 T2 hcell hbw s1 s2 hD' hM' hB'
          generalize hla : atE La 2 = la at *
          generalize hlb : atE Lb 2 = lb at *
          generalize hna : la.length = na at *
          generalize hnb : lb.length = nb at *
          have HNA := Lib.hid hna; have HNB := Lib.hid hnb
          clear hla hlb hna hnb
          go_wp2_with fail
          go_loop [15, 17] (fun x i => ∃ (j : Nat), j ≤ na ∧ i = .int .i64 j ∧ x = .bool (hasZ la j)) (fun _ i => 2 - (intOf i).toNat)
          case atStart => exact ⟨0, by omega, rfl, by rw [hasZ_zero]⟩
          case round =>
            obtain ⟨j, hj, rfl, rfl⟩ := hrel
            by_cases hlj : j < na
            · obtain ⟨b5, o5, cap5, e5, hb5, hc5⟩ := sli_at H1.out j hlj
              simp only [Value.slice.injEq] at e5
              obtain ⟨rfl, -, -⟩ := e5
              have HST := Lib.hid (hasZ_step la j (by have := HNA.out; omega))
              obtain ⟨z5, hz5⟩ : ∃ z5, la.getD j 0 = z5 := ⟨_, rfl⟩
              rw [hz5] at HST hc5
              have hljI : (j : Int) < na := by omega
              clear hz5
              cases hz : hasZ la j with
              | true =>
                rw [hz, Bool.true_or] at HST
                clear hz
                go_wp2_with fail
                go_round
                case rel => exact ⟨j + 1, by omega, by go_num, by rw [HST.out]⟩
                case measure => simp [intOf]; omega
              | false =>
                rw [hz, Bool.false_or] at HST
                clear hz
                cases hz0 : (z5 == 0) with
                | true =>
                  rw [hz0] at HST
                  go_wp2_with fail
                  go_round
                  case rel => exact ⟨j + 1, by omega, by go_num, by rw [HST.out]⟩
                  case measure => simp [intOf]; omega
                | false =>
                  rw [hz0] at HST
                  go_wp2_with fail
                  go_round
                  case rel => exact ⟨j + 1, by omega, by go_num, by rw [HST.out]⟩
                  case measure => simp [intOf]; omega
            · have e5 : j = na := by omega
              subst e5
              rw [ZA.out]
              go_wp2_with fail
              go_loop [16, 18] (fun x i => ∃ (j : Nat), j ≤ nb ∧ i = .int .i64 j ∧ x = .bool (hasZ lb j)) (fun _ i => 2 - (intOf i).toNat)
              case atStart => exact ⟨0, by omega, rfl, by rw [hasZ_zero]⟩
              case round =>
                obtain ⟨j, hj, rfl, rfl⟩ := hrel
                by_cases hlj : j < nb
                · obtain ⟨b5, o5, cap5, e5, hb5, hc5⟩ := sli_at H2.out j hlj
                  simp only [Value.slice.injEq] at e5
                  obtain ⟨rfl, -, -⟩ := e5
                  have HST := Lib.hid (hasZ_step lb j (by have := HNB.out; omega))
                  obtain ⟨z5, hz5⟩ : ∃ z5, lb.getD j 0 = z5 := ⟨_, rfl⟩
                  rw [hz5] at HST hc5
                  have hljI : (j : Int) < nb := by omega
                  clear hz5
                  cases hz : hasZ lb j with
                  | true =>
                    rw [hz, Bool.true_or] at HST
                    clear hz
                    go_wp2_with fail
                    go_round
                    case rel => exact ⟨j + 1, by omega, by go_num, by rw [HST.out]⟩
                    case measure => simp [intOf]; omega
                  | false =>
                    rw [hz, Bool.false_or] at HST
                    clear hz
                    cases hz0 : (z5 == 0) with
                    | true =>
                      rw [hz0] at HST
                      go_wp2_with fail
                      go_round
                      case rel => exact ⟨j + 1, by omega, by go_num, by rw [HST.out]⟩
                      case measure => simp [intOf]; omega
                    | false =>
                      rw [hz0] at HST
                      go_wp2_with fail
                      go_round
                      case rel => exact ⟨j + 1, by omega, by go_num, by rw [HST.out]⟩
                      case measure => simp [intOf]; omega
                · have e5 : j = nb := by omega
                  subst e5
                  rw [ZB.out]
                  generalize (La 0 == 1) = ea at *
                  have EE : (ea != ea) = false := by simp
                  have r1 : Hid (Oa 0 = Ob 0) := Lib.hid (E1.out)
                  have r2 : Hid ((atL La 2) 0 = (atL Lb 2) 0) := Lib.hid (by unfold atL; rw [if_pos (by omega), if_pos (by omega), E2.out])
                  have r3 : Hid (Ob 1 = 1) := Lib.hid (E3.out)
                  have r4 : Hid ((atL Lb 2) 1 = 0) := Lib.hid (by unfold atL; rw [if_pos (by omega), E4.out])
                  generalize Oa = Oa9 at *
                  generalize (atL La 2) = La9 at *
                  generalize Ob = Ob9 at *
                  generalize (atL Lb 2) = Lb9 at *
                  obtain ⟨p1, p2, p3⟩ := a_yes 2 Oa9 La9 0 (by omega)
                  obtain ⟨q1, q2, q3⟩ := a_yes 2 Ob9 Lb9 0 (by omega)
                  obtain ⟨_, _, q6⟩ := a_yes 2 Ob9 Lb9 1 (by omega)
                  rw [← r1.out, ← r2.out] at q3
                  rw [← r2.out] at q2
                  rw [r3.out, if_pos r4.out] at q6
                  generalize ph (La9 0) = X9 at p2 q2
                  generalize (if La9 0 = 0 then Oa9 0 else -1) = Y9 at p3 q3
                  have e5 : (X9 != X9) = false := by simp
                  have e6 : (Y9 != Y9) = false := by simp
                  go_wp2_with fail
                  refine (tk_aphase_is (i := 1) 0 X9 0 w3 T3.out rfl p2 p1).mono ?_
                  rintro e w' ⟨rfl, rfl⟩
                  go_wp2_with fail
                  refine (tk_aphase_is (i := 0) 0 X9 0 w3 T3.out rfl q2 q1).mono ?_
                  rintro e w' ⟨rfl, rfl⟩
                  go_wp2_with fail
                  refine (tk_aowner_is (i := 1) 0 Y9 w3 T3.out rfl p3).mono ?_
                  rintro e w6 ⟨rfl, t6⟩
                  have T6 := Lib.hid t6
                  clear t6
                  go_wp2_with fail
                  refine (tk_aowner_is (i := 0) 0 Y9 w6 T6.out rfl q3).mono ?_
                  rintro e w7 ⟨rfl, t7⟩
                  have T7 := Lib.hid t7
                  clear t7
                  go_wp2_with (go_at_call 9; refine (num_any _ _).mono ?_; rintro e w' ⟨rfl, rfl⟩)
                  refine (tk_aowner_is (i := 0) 1 1 w7 T7.out rfl q6).mono ?_
                  rintro e w8 ⟨rfl, t8⟩
                  have T8 := Lib.hid t8
                  clear t8
                  go_wp2_with fail
                  go_roundw
                  case rel => exact ⟨k + 1, by omega, by omega, by go_num, Lib.hid ⟨Oa9, La9, Ob9, Lb9, T8.out, r1.out, r2.out, r3.out, r4.out⟩⟩
                  case measure => simp [intOf]; omega
      · as_aux_lemma =>
          rcases (show d = 0 ∨ d = 1 by omega) with rfl | rfl
          · go_wp2_with fail
            refine (tk_amove (i := 1) 0 t wx L2.out rfl).mono ?_
            rintro e w2 ⟨rfl, t2⟩
            have EC : amC 2 3 Lb 0 t = amC 2 3 La 0 t := by unfold amC; rw [show ((0 : Int).toNat) = 0 from rfl, E2.out]
            have c3 := fun W (hW : Tk nos wa [obPA h Q 3 2 Ob Lb, obPA g Q 3 2 (amO 2 3 Oa La 0 t) (amL 2 3 Q La 0 t)] W) => tk_amove (i := 0) 0 t W hW rfl
            rw [EC] at c3
            have C3 := Lib.hid c3
            obtain ⟨c, hc⟩ : ∃ c, amC 2 3 La 0 t = c := ⟨_, rfl⟩
            rw [hc] at C3
            rw [hc]
            have e5 : (c != c) = false := by simp
            have T2 := Lib.hid t2
            clear t2 L2 c3 EC hc hcell hbw hD' hM' hB'
            go_wp2_with fail
            refine (C3.out w2 T2.out).mono ?_
            rintro e w3 ⟨rfl, t3⟩
            have T3 := Lib.hid (show Tk nos wa [obPA h Q 3 2 (amO 2 3 Ob Lb 0 t) (amL 2 3 Q Lb 0 t), obPA g Q 3 2 (amO 2 3 Oa La 0 t) (amL 2 3 Q La 0 t)] w3 from t3)
            clear t3 T2 C3
            go_wp2_with (go_at_call 9; refine (num_any _ _).mono ?_; rintro e w' ⟨rfl, rfl⟩)
            have r1 : Hid ((amO 2 3 Oa La 0 t) 0 = (amO 2 3 Ob Lb 0 t) 0) := Lib.hid (ap_O0 E1.out E2.out)
            have r2 : Hid ((amL 2 3 Q La 0 t) 0 = (amL 2 3 Q Lb 0 t) 0) := Lib.hid (ap_L0 E2.out)
            have r3 : Hid ((amO 2 3 Ob Lb 0 t) 1 = 1) := Lib.hid ((ap_O1 Ob Lb t).trans E3.out)
            have r4 : Hid ((amL 2 3 Q Lb 0 t) 1 = 0) := Lib.hid ((ap_L1 Lb t).trans E4.out)
            generalize (amO 2 3 Oa La 0 t) = Oa9 at *
            generalize (amL 2 3 Q La 0 t) = La9 at *
            generalize (amO 2 3 Ob Lb 0 t) = Ob9 at *
            generalize (amL 2 3 Q Lb 0 t) = Lb9 at *
            obtain ⟨p1, p2, p3⟩ := a_yes 2 Oa9 La9 0 (by omega)
            obtain ⟨q1, q2, q3⟩ := a_yes 2 Ob9 Lb9 0 (by omega)
            obtain ⟨_, _, q6⟩ := a_yes 2 Ob9 Lb9 1 (by omega)
            rw [← r1.out, ← r2.out] at q3
            rw [← r2.out] at q2
            rw [r3.out, if_pos r4.out] at q6
            generalize ph (La9 0) = X9 at p2 q2
            generalize (if La9 0 = 0 then Oa9 0 else -1) = Y9 at p3 q3
            have e5 : (X9 != X9) = false := by simp
            have e6 : (Y9 != Y9) = false := by simp
            refine (tk_aphase_is (i := 1) 0 X9 0 w3 T3.out rfl p2 p1).mono ?_
            rintro e w' ⟨rfl, rfl⟩
            go_wp2_with fail
            refine (tk_aphase_is (i := 0) 0 X9 0 w3 T3.out rfl q2 q1).mono ?_
            rintro e w' ⟨rfl, rfl⟩
            go_wp2_with fail
            refine (tk_aowner_is (i := 1) 0 Y9 w3 T3.out rfl p3).mono ?_
            rintro e w6 ⟨rfl, t6⟩
            have T6 := Lib.hid t6
            clear t6
            go_wp2_with fail
            refine (tk_aowner_is (i := 0) 0 Y9 w6 T6.out rfl q3).mono ?_
            rintro e w7 ⟨rfl, t7⟩
            have T7 := Lib.hid t7
            clear t7
            go_wp2_with (go_at_call 9; refine (num_any _ _).mono ?_; rintro e w' ⟨rfl, rfl⟩)
            refine (tk_aowner_is (i := 0) 1 1 w7 T7.out rfl q6).mono ?_
            rintro e w8 ⟨rfl, t8⟩
            have T8 := Lib.hid t8
            clear t8
            go_wp2_with fail
            go_roundw
            case rel => exact ⟨k + 1, by omega, by omega, by go_num, Lib.hid ⟨Oa9, La9, Ob9, Lb9, T8.out, r1.out, r2.out, r3.out, r4.out⟩⟩
            case measure => simp [intOf]; omega
          · go_wp2_with fail
            refine (tk_amove (i := 1) 1 t wx L2.out rfl).mono ?_
            rintro e w2 ⟨rfl, t2⟩
            generalize amC 2 3 La 1 t = c
            have T2 := Lib.hid (show Tk nos wa [obPA h Q 3 2 Ob Lb, obPA g Q 3 2 (amO 2 3 Oa La 1 t) (amL 2 3 Q La 1 t)] w2 from t2)
            clear t2 L2 hcell hbw hD' hM' hB'
            go_wp2_with fail
            have r1 : Hid ((amO 2 3 Oa La 1 t) 0 = Ob 0) := Lib.hid ((ap_O2 Oa La t).trans E1.out)
            have r2 : Hid ((amL 2 3 Q La 1 t) 0 = Lb 0) := Lib.hid ((ap_L2 La t).trans E2.out)
            have r3 : Hid (Ob 1 = 1) := Lib.hid (E3.out)
            have r4 : Hid (Lb 1 = 0) := Lib.hid (E4.out)
            generalize (amO 2 3 Oa La 1 t) = Oa9 at *
            generalize (amL 2 3 Q La 1 t) = La9 at *
            generalize Ob = Ob9 at *
            generalize Lb = Lb9 at *
            obtain ⟨p1, p2, p3⟩ := a_yes 2 Oa9 La9 0 (by omega)
            obtain ⟨q1, q2, q3⟩ := a_yes 2 Ob9 Lb9 0 (by omega)
            obtain ⟨_, _, q6⟩ := a_yes 2 Ob9 Lb9 1 (by omega)
            rw [← r1.out, ← r2.out] at q3
            rw [← r2.out] at q2
            rw [r3.out, if_pos r4.out] at q6
            generalize ph (La9 0) = X9 at p2 q2
            generalize (if La9 0 = 0 then Oa9 0 else -1) = Y9 at p3 q3
            have e5 : (X9 != X9) = false := by simp
            have e6 : (Y9 != Y9) = false := by simp
            refine (tk_aphase_is (i := 1) 0 X9 0 w2 T2.out rfl p2 p1).mono ?_
            rintro e w' ⟨rfl, rfl⟩
            go_wp2_with fail
            refine (tk_aphase_is (i := 0) 0 X9 0 w2 T2.out rfl q2 q1).mono ?_
            rintro e w' ⟨rfl, rfl⟩
            go_wp2_with fail
            refine (tk_aowner_is (i := 1) 0 Y9 w2 T2.out rfl p3).mono ?_
            rintro e w6 ⟨rfl, t6⟩
            have T6 := Lib.hid t6
            clear t6
            go_wp2_with fail
            refine (tk_aowner_is (i := 0) 0 Y9 w6 T6.out rfl q3).mono ?_
            rintro e w7 ⟨rfl, t7⟩
            have T7 := Lib.hid t7
            clear t7
            go_wp2_with (go_at_call 9; refine (num_any _ _).mono ?_; rintro e w' ⟨rfl, rfl⟩)
            refine (tk_aowner_is (i := 0) 1 1 w7 T7.out rfl q6).mono ?_
            rintro e w8 ⟨rfl, t8⟩
            have T8 := Lib.hid t8
            clear t8
            go_wp2_with fail
            go_roundw
            case rel => exact ⟨k + 1, by omega, by omega, by go_num, Lib.hid ⟨Oa9, La9, Ob9, Lb9, T8.out, r1.out, r2.out, r3.out, r4.out⟩⟩
            case measure => simp [intOf]; omega
    · have hx : (k : Int) ≥ n ∨ ((k : Int) < n ∧ decide ((k : Int) < 60) = false) := by
        by_cases h1 : k < n
        · exact .inr ⟨by omega, by simp; omega⟩
        · exact .inl (by omega)
      have HB : Hid (Below w.heap.size w wr) := by
        obtain ⟨Oa, La, Ob, Lb, tk, _⟩ := HS.out
        exact Lib.hid (Below.down BA.out tk.below BA.out.size)
      clear hgo HS
      rcases hx with hx | ⟨hx, hx2⟩
      all_goals
        go_wp2_with fail
        go_ret
        exact ⟨rfl, HB.out⟩
end Go.Proofs.Ytgamfejgpdampaa
