/-
  Layer 14's law FileForms: it answers true for every input.
-/
import Derived.Test.YtocjkanhciohmaaRgAwake
namespace Go.Proofs.Ytocjkanhciohmaa
open Go.RowKit
set_option linter.unusedVariables false
set_option maxRecDepth 100000

theorem gw_ok {D : Nat} {F : Nat → Int} {d r x : Int} (hd : 0 ≤ d ∧ d < D) (hr : 0 ≤ r ∧ r < 8) (hx : 0 ≤ x ∧ x ≤ 65535) : gwC D d r x = 0 ∧ gwF D F d r x = iF F (ixR d r) x := by
  have h : gwB D d r x = true := by
    unfold gwB inR
    simp only [Bool.and_eq_true, decide_eq_true_eq]
    exact ⟨⟨hd.1, hd.2, hr.1, hr.2⟩, hx⟩
  simp [gwC, gwF, h]
theorem gx_ok {D : Nat} {F : Nat → Int} {d r : Int} (hd : 0 ≤ d ∧ d < D) (hr : 0 ≤ r ∧ r < 8) : gxC D d r = 0 ∧ gxX D F d r = F (ixR d r) := by
  have h : inR D d r = true := by
    unfold inR
    simp only [decide_eq_true_eq]
    exact ⟨hd.1, hd.2, hr.1, hr.2⟩
  simp [gxC, gxX, h]
theorem tk_gwrite_no {S : Nat → Prop} {W0 : World} {os : List Ob} {i g D : Nat} {F : Nat → Int} (d r x : Int) (w : World) (h : Tk S W0 os w) (hi : os[i]? = some (obPG g D F)) (hb : ¬ (0 ≤ d ∧ d < D ∧ 0 ≤ r ∧ r < 8 ∧ 0 ≤ x ∧ x ≤ 65535)) :
    Calls Try.prog 10 #[.pointer (some ⟨g, 0, none⟩), .int .i64 d, .int .i64 r, .int .i64 x] w fun e w' => e = .returned (.int .i64 1400) ∧ Tk S W0 os w' := by
  have hn : gwB D d r x = false := by
    unfold gwB inR
    simp only [Bool.and_eq_false_iff, decide_eq_false_iff_not]; omega
  exact tk_gwrite_is d r x 1400 w h hi (by simp [gwC, hn]) (by simp only [gwF, hn]; exact set_sameO hi)
theorem tk_greset_no {S : Nat → Prop} {W0 : World} {os : List Ob} {i g D : Nat} {F : Nat → Int} (d : Int) (w : World) (h : Tk S W0 os w) (hi : os[i]? = some (obPG g D F)) (hb : ¬ (0 ≤ d ∧ d < D)) :
    Calls Try.prog 12 #[.pointer (some ⟨g, 0, none⟩), .int .i64 d] w fun e w' => e = .returned (.int .i64 1400) ∧ Tk S W0 os w' := by
  have hr : rcB D d = false := by unfold rcB; simpa using hb
  exact tk_greset_is d 1400 w h hi (by simp [grC, hr]) (by simp only [grF, hr]; exact set_sameO hi)

/-- The law's registers, of which k of each device have been written. -/
def fillG (k : Nat) : Nat → Int := fun i => if i < 8 then (if i < k then 100 + (i : Int) else 0) else if i < 16 ∧ i - 8 < k then 65535 - ((i - 8 : Nat) : Int) else 0
theorem fillG_zero : fillG 0 = noI := by
  funext i
  unfold fillG noI
  split
  · rw [if_neg (by omega)]
  · rw [if_neg (by omega)]
theorem fillG_step (k : Nat) (hk : k < 8) : iF (iF (fillG k) k (100 + (k : Int))) (8 + k) (65535 - (k : Int)) = fillG (k + 1) := by
  funext i
  unfold iF fillG
  by_cases h1 : i = 8 + k
  · subst h1
    rw [if_pos rfl, if_neg (by omega), if_pos (by omega)]; omega
  · rw [if_neg h1]
    by_cases h2 : i = k
    · subst h2
      rw [if_pos rfl, if_pos hk, if_pos (by omega)]
    · rw [if_neg h2]
      by_cases h3 : i < 8
      · rw [if_pos h3, if_pos h3]
        by_cases h4 : i < k
        · rw [if_pos h4, if_pos (by omega)]
        · rw [if_neg h4, if_neg (by omega)]
      · rw [if_neg h3, if_neg h3]
        by_cases h4 : i < 16 ∧ i - 8 < k
        · rw [if_pos h4, if_pos (by omega)]
        · rw [if_neg h4, if_neg (by omega)]
theorem fillG_0 (k : Nat) (hk : k < 8) : fillG 8 (ixR 0 k) = 100 + (k : Int) := by
  rw [show ixR 0 k = k by unfold ixR; omega]
  unfold fillG; rw [if_pos hk, if_pos hk]
theorem fillG_1 (k : Nat) (hk : k < 8) : fillG 8 (ixR 1 k) = 65535 - (k : Int) := by
  rw [show ixR 1 k = 8 + k by unfold ixR; omega]
  unfold fillG; rw [if_neg (by omega), if_pos (by omega)]; omega
theorem fillZ_0 (k : Nat) (hk : k < 8) : zF (fillG 8) 0 (ixR 0 k) = 0 := by
  rw [show ixR 0 k = k by unfold ixR; omega]
  unfold zF; rw [if_pos (by omega)]
theorem fillZ_1 (k : Nat) (hk : k < 8) : zF (fillG 8) 0 (ixR 1 k) = 65535 - (k : Int) := by
  have := fillG_1 k hk
  rw [show ixR 1 k = 8 + k by unfold ixR; omega] at this ⊢
  unfold zF; rw [if_neg (by omega)]; exact this

set_option maxHeartbeats 8000000 in
theorem law_FileForms (a x : Int) (w0 : (Lit.int .i64 a).wf = true) (w1 : (Lit.int .i64 x).wf = true) (w : World) :
    Calls Try.prog 4 #[.int .i64 a, .int .i64 x] w fun e w' => e = .returned (.bool true) ∧ Below w.heap.size w w' := by
  have hX := band x 1023 (by omega) (by omega)
  have hU := u64b a
  generalize hX' : bits BinOp.and IntKind.i64 x 1023 = X at hX
  generalize hU' : IntKind.u64.wrap a = U at hU
  obtain ⟨hX0, hX1⟩ := hX
  obtain ⟨hU0, hU1⟩ := hU
  have hI0 : 0 ≤ U % 6 := by omega
  have hI1 : U % 6 < 6 := by omega
  generalize hI' : U % 6 = I at hI0 hI1
  clear w0 w1
  go_enter Try.func4, Try.ntmps4
  go_wp2_with fail
  refine (rgawake_any _).mono ?_
  rintro e wa ⟨rfl, ba⟩
  have BA := Lib.hid ba
  clear ba
  go_wp2_with fail
  refine (gnew_no _ _ (by omega)).mono ?_
  rintro e w' ⟨rfl, rfl⟩
  go_wp2_with fail
  refine (gnew_no _ _ (by omega)).mono ?_
  rintro e w' ⟨rfl, rfl⟩
  go_wp2_with fail
  have hN : Calls Try.prog 6 #[.int .i64 2] wa fun e w' => ∃ g, e = .returned (.tuple #[.pointer (some ⟨g, 0, none⟩), .int .i64 0]) ∧ Tk nos wa [obPG g 2 noI] w' := gnew_yes 2 wa (by decide) (by decide)
  refine hN.mono ?_
  clear hN
  rintro e w1 ⟨g, rfl, t⟩
  rw [← fillG_zero] at t
  have L0 := Lib.hid t
  clear t
  go_wp2_with fail
  refine (num_any _ _).mono ?_
  rintro e w' ⟨rfl, rfl⟩
  go_wp2_with fail
  go_loopw [12] (fun i wr => ∃ (k : Nat), k ≤ 8 ∧ i = .int .i64 k ∧ Hid (Tk nos wa [obPG g 2 (fillG k)] wr)) (fun i _ => 8 - (intOf i).toNat)
  case atStart => exact ⟨0, by omega, rfl, L0⟩
  case round =>
    clear L0
    obtain ⟨k, hk8, rfl, HL⟩ := hrel
    by_cases hlt : k < 8
    · obtain ⟨r1, r2⟩ := gw_ok (D := 2) (F := fillG k) (d := 0) (r := k) (x := 100 + (k : Int)) (by omega) (by omega) (by omega)
      obtain ⟨r3, r4⟩ := gw_ok (D := 2) (F := iF (fillG k) k (100 + (k : Int))) (d := 1) (r := k) (x := 65535 - (k : Int)) (by omega) (by omega) (by omega)
      rw [show ixR 0 k = k by unfold ixR; omega] at r2
      rw [show ixR 1 k = 8 + k by unfold ixR; omega, fillG_step k hlt] at r4
      have c1 := tk_gwrite_is (i := 0) (os' := [obPG g 2 (iF (fillG k) k (100 + (k : Int)))]) 0 k (100 + (k : Int)) 0 wr HL.out rfl r1 (by rw [r2]; rfl)
      have c2 := fun W (tW : Tk nos wa [obPG g 2 (iF (fillG k) k (100 + (k : Int)))] W) => tk_gwrite_is (i := 0) (os' := [obPG g 2 (fillG (k + 1))]) 1 k (65535 - (k : Int)) 0 W tW rfl r3 (by rw [r4]; rfl)
      clear r1 r2 r3 r4 HL hX' hI' hU'
      go_wp2_with fail
      refine c1.mono ?_
      rintro e w2 ⟨rfl, t2⟩
      have L2 := Lib.hid t2
      clear c1 t2
      go_wp2_with fail
      refine (c2 w2 L2.out).mono ?_
      rintro e w3 ⟨rfl, t3⟩
      have L3 := Lib.hid t3
      clear c2 t3 L2
      go_wp2_with fail
      go_roundw
      case rel => exact ⟨k + 1, by omega, by go_num, L3⟩
      case measure => simp [intOf]; omega
    · have e : k = 8 := by omega
      subst e
      rw [show ((8 : Nat) : Int) = 8 from rfl]
      go_wp2_with fail
      all_goals as_aux_lemma =>
        refine (tk_gwrite_no (i := 0) _ _ _ wr HL.out rfl (by omega)).mono ?_
        rintro e w3 ⟨rfl, t⟩
        clear HL
        have L := Lib.hid t
        clear t
        go_wp2_with fail
        refine (tk_greset_no (i := 0) _ w3 L.out rfl (by omega)).mono ?_
        rintro e w4 ⟨rfl, t⟩
        clear L
        have L := Lib.hid t
        clear t
        go_wp2_with fail
        go_loop [18] (fun i => ∃ (k : Nat), k ≤ 8 ∧ i = .int .i64 k) (fun i => 8 - (intOf i).toNat)
        case atStart => exact ⟨0, by omega, rfl⟩
        case round =>
          obtain ⟨k, hk8, rfl⟩ := hrel
          by_cases hlt : k < 8
          · obtain ⟨r1, r2⟩ := gx_ok (D := 2) (F := fillG 8) (d := 0) (r := k) (by omega) (by omega)
            obtain ⟨r3, r4⟩ := gx_ok (D := 2) (F := fillG 8) (d := 1) (r := k) (by omega) (by omega)
            rw [fillG_0 k hlt] at r2
            rw [fillG_1 k hlt] at r4
            have c1 := tk_gread_is (i := 0) 0 k _ 0 w4 L.out rfl r2 r1
            have c2 := tk_gread_is (i := 0) 1 k _ 0 w4 L.out rfl r4 r3
            clear r1 r2 r3 r4
            go_wp2_with fail
            refine c1.mono ?_
            rintro e w' ⟨rfl, rfl⟩
            go_wp2_with fail
            refine c2.mono ?_
            rintro e w' ⟨rfl, rfl⟩
            clear c1 c2
            go_wp2_with (go_at_call 8; refine (num_any _ _).mono ?_; rintro e w' ⟨rfl, rfl⟩)
            go_round
            case rel => exact ⟨k + 1, by omega, by go_num⟩
            case measure => simp [intOf]; omega
          · have e : k = 8 := by omega
            subst e
            rw [show ((8 : Nat) : Int) = 8 from rfl]
            go_wp2_with fail
            refine (tk_greset_is (i := 0) (os' := [obPG g 2 (zF (fillG 8) 0)]) 0 0 w4 L.out rfl (by decide) rfl).mono ?_
            rintro e w5 ⟨rfl, t⟩
            clear L
            have L := Lib.hid t
            clear t
            go_wp2_with fail
            go_loop [24] (fun i => ∃ (k : Nat), k ≤ 8 ∧ i = .int .i64 k) (fun i => 8 - (intOf i).toNat)
            case atStart => exact ⟨0, by omega, rfl⟩
            case round =>
              obtain ⟨k, hk8, rfl⟩ := hrel
              by_cases hlt : k < 8
              · obtain ⟨r1, r2⟩ := gx_ok (D := 2) (F := zF (fillG 8) 0) (d := 0) (r := k) (by omega) (by omega)
                obtain ⟨r3, r4⟩ := gx_ok (D := 2) (F := zF (fillG 8) 0) (d := 1) (r := k) (by omega) (by omega)
                rw [fillZ_0 k hlt] at r2
                rw [fillZ_1 k hlt] at r4
                have c1 := tk_gread_is (i := 0) 0 k _ 0 w5 L.out rfl r2 r1
                have c2 := tk_gread_is (i := 0) 1 k _ 0 w5 L.out rfl r4 r3
                clear r1 r2 r3 r4
                go_wp2_with fail
                refine c1.mono ?_
                rintro e w' ⟨rfl, rfl⟩
                go_wp2_with fail
                refine c2.mono ?_
                rintro e w' ⟨rfl, rfl⟩
                clear c1 c2
                go_wp2_with (go_at_call 8; refine (num_any _ _).mono ?_; rintro e w' ⟨rfl, rfl⟩)
                go_round
                case rel => exact ⟨k + 1, by omega, by go_num⟩
                case measure => simp [intOf]; omega
              · have e : k = 8 := by omega
                subst e
                rw [show ((8 : Nat) : Int) = 8 from rfl]
                go_wp2_with (go_at_call 8; refine (num_any _ _).mono ?_; rintro e w' ⟨rfl, rfl⟩)
                go_ret
                exact ⟨rfl, Below.down BA.out L.out.below BA.out.size⟩
end Go.Proofs.Ytocjkanhciohmaa
