/-
  Layer 13's law IrqClears: it answers true for every input.
-/
import Derived.Test.YtjmdgjpepogogaaIrForms
import Derived.StillTailTactics
import Derived.Deep.DeepCutAuto
import Derived.Deep.CutBlock
namespace Go.Proofs.Ytjmdgjpepogogaa
open Go.RowKit Go.ChangeMaps
set_option linter.unusedVariables false
set_option maxRecDepth 100000

theorem sli_at {w : World} {v : Value} {n : Nat} {zs : List Int} (h : Sl w v n 1 (ints zs)) (k : Nat) (hk : k < n) : ∃ b o cap, v = .slice (some ⟨b, o, none⟩) n cap ∧ b < w.heap.size ∧ w.cell? ⟨b, o + k, none⟩ = some (.int .i64 (zs.getD k 0)) := by
  obtain ⟨A, cap, rfl, hc, hl, hA⟩ := h
  obtain ⟨b, o, rfl, hb, hcell⟩ := hA (by omega)
  exact ⟨b, o, cap, rfl, hb, hcell k _ (ints_get zs k (by rw [ints_len] at hl; omega))⟩

theorem ur_ok {D n : Nat} {T : List Ro} {d v p : Int} (hd : 0 ≤ d ∧ d < D) (hv : 0 ≤ v ∧ v < 8) (hp : 0 ≤ p ∧ p < n) (hn : n ≤ 4) : urC D n d v p = 0 ∧ urT D n T d v p = T.set (ixR d v) ⟨true, p, false⟩ := by
  have h1 : hP n p = true := by unfold hP; simpa using hp
  have h2 : rsB D d v p = true := by
    unfold rsB inR
    simp only [Bool.and_eq_true, decide_eq_true_eq]
    exact ⟨⟨hd.1, hd.2, hv.1, hv.2⟩, hp.1, by omega⟩
  simp [urC, urT, rsC, rsT, h1, h2, toC]

/-- The first loop's: the entry that the law asks for later. -/
def Ce1 (v : Nat) (T : List Ro) : Prop := T.length = 32 ∧ (4 < v → T.getD 12 ro0 = ⟨true, 1, false⟩)
theorem Ce1.step {v : Nat} {T : List Ro} {P : Int} (h : Ce1 v T) (hv : v < 8) : Ce1 (v + 1) ((T.set (ixR 0 v) ⟨true, P, false⟩).set (ixR 1 v) ⟨true, 1, false⟩) := by
  obtain ⟨h1, h2⟩ := h
  refine ⟨by simpa using h1, fun h3 => ?_⟩
  have e0 : ixR 0 v = v := by unfold ixR; omega
  have e1 : ixR 1 v = 8 + v := by unfold ixR; omega
  rw [e0, e1]
  simp only [List.getD_eq_getElem?_getD, List.getElem?_set]
  by_cases h4 : v = 4
  · subst h4
    rw [if_pos rfl, if_pos (by simp; omega)]; rfl
  · rw [if_neg (by omega), if_neg (by omega)]
    have := h2 (by omega)
    rwa [List.getD_eq_getElem?_getD] at this
/-- The second loop's: of the first device's places nothing is asked. -/
def Ce2 (F : Nat → Bool) : Prop := ∀ i, i < 64 → 8 ≤ i % 32 → F i = decide (i = 44)
theorem Ce2.start : Ce2 (putF noF 44) := by
  intro i _ _
  unfold putF noF
  by_cases e : i = 44
  · simp [e]
  · simp [e]
theorem Ce2.step {D n : Nat} {T : List Ro} {F : Nat → Bool} {r p : Int} (h : Ce2 F) (hr : 0 ≤ r ∧ r < 8) (hp : 0 ≤ p ∧ p < 2) : Ce2 (uaF D n T F 0 r p) := by
  intro i hi h8
  unfold uaF
  split
  · unfold putF
    rw [if_neg (by unfold ixR; omega)]; exact h i hi h8
  · exact h i hi h8
theorem Ce2.clear_ {F : Nat → Bool} (h : Ce2 F) : ∀ i, i < 64 → ucF 2 2 F 0 i = decide (i = 44) := by
  intro i hi
  have e : ucF 2 2 F 0 = clF F 0 2 := rfl
  rw [e]
  unfold clF
  rw [if_pos (by omega)]
  have ed : dv 0 (i % 32) = decide (i % 32 < 8) := by unfold dv; rw [decide_eq_decide]; omega
  rw [ed]
  by_cases h8 : 8 ≤ i % 32
  · rw [h i hi h8, decide_eq_false (show ¬ (i % 32 < 8) by omega)]; simp
  · rw [decide_eq_true (show i % 32 < 8 by omega), decide_eq_false (show ¬ (i = 44) by omega)]; simp
theorem clr0_at {T : List Ro} (h : T.length = 32) (v : Nat) (hv : v < 8) : atR (rcT 2 T 0) 0 v = ro0 := by
  have e : rcT 2 T 0 = clrT T 0 := rfl
  unfold atR
  rw [e, clrT_get T 0 _ (by omega), if_pos (by unfold ixR; omega)]
theorem clr0_12 {T : List Ro} (h : T.length = 32) : (rcT 2 T 0).getD 12 ro0 = T.getD 12 ro0 := by
  have e : rcT 2 T 0 = clrT T 0 := rfl
  rw [e, clrT_get T 0 _ (by omega), if_neg (by omega)]
theorem clr0_re {T : List Ro} (h : T.length = 32) (v : Nat) (hv : v < 8) : reC 2 (rcT 2 T 0) 0 v = 1101 := by
  have h1 : inR 2 0 v = true := by unfold inR; simp; omega
  unfold reC
  rw [h1, clr0_at h v hv]; rfl
theorem plN_congr {P Q : Nat → Bool} {N : Nat} (h : ∀ k, k < N → P k = Q k) : plN P N = plN Q N := by
  unfold plN; exact List.filter_congr (fun k hk => h k (List.mem_range.1 hk))

set_option maxHeartbeats 4000000 in
theorem law_IrqClears (v : Value) (n : Nat) (zs : List Int) (w : World) (hv : Sl w v n 1 (ints zs)) (hn : n ≤ maxLen) :
    Calls Try.prog 6 #[v] w fun e w' => e = .returned (.bool true) ∧ Below w.heap.size w w' := by
  obtain ⟨A, cap, rfl⟩ : ∃ A cap, v = .slice A n cap := by obtain ⟨A, c, e, _⟩ := hv; exact ⟨A, c, e⟩
  unfold maxLen at hn
  have HV := Lib.hid hv; clear hv
  go_enter Try.func6, Try.ntmps6
  go_wp2_with fail
  refine (irawake_any _).mono ?_
  rintro e wa ⟨rfl, ba⟩
  have BA := Lib.hid ba
  clear ba
  go_wp2_with fail
  have hN : Calls Try.prog 8 #[.int .i64 2, .int .i64 2] wa fun e w' => ∃ u, e = .returned (.tuple #[.pointer (some ⟨u, 0, none⟩), .int .i64 0]) ∧ Tk nos wa [obU u 2 2 newT noF] w' := unew_yes 2 2 wa (by decide) (by decide) (by decide) (by decide)
  refine hN.mono ?_
  clear hN
  rintro e w1 ⟨u, rfl, t⟩
  have L0 : Hid (∃ T, Ce1 0 T ∧ Tk nos wa [obU u 2 2 T noF] w1) := Lib.hid ⟨_, ⟨newT_len, fun h => by omega⟩, t⟩
  clear t
  go_wp2_with fail
  refine (num_any _ _).mono ?_
  rintro e w' ⟨rfl, rfl⟩
  go_wp2_with fail
  go_loopw [5] (fun i wr => ∃ (k : Nat), k ≤ 8 ∧ i = .int .i64 k ∧ Hid (∃ T, Ce1 k T ∧ Tk nos wa [obU u 2 2 T noF] wr)) (fun i _ => 8 - (intOf i).toNat)
  case atStart => exact ⟨0, by omega, rfl, L0⟩
  case round =>
    clear L0
    obtain ⟨k, hk8, rfl, HL⟩ := hrel
    obtain ⟨T, hT, tk⟩ := HL.out
    by_cases hlt : k < 8
    · have hP := band (k : Int) 1 (by omega) (by omega)
      generalize hP' : bits BinOp.and IntKind.i64 (k : Int) 1 = P at hP
      obtain ⟨hP0, hP1⟩ := hP
      obtain ⟨r1, r2⟩ := ur_ok (D := 2) (n := 2) (T := T) (d := 0) (v := k) (p := P) (by omega) (by omega) (by omega) (by omega)
      have c1 := tk_uroute_is (i := 0) (os' := [obU u 2 2 (T.set (ixR 0 k) ⟨true, P, false⟩) noF]) 0 k P 0 wr tk rfl r1 (by rw [r2]; rfl)
      have HT := Lib.hid hT
      clear r1 r2 tk hT HL
      go_wp2_with fail
      refine c1.mono ?_
      rintro e w2 ⟨rfl, t2⟩
      obtain ⟨r1, r2⟩ := ur_ok (D := 2) (n := 2) (T := T.set (ixR 0 k) ⟨true, P, false⟩) (d := 1) (v := k) (p := 1) (by omega) (by omega) (by omega) (by omega)
      have c2 := tk_uroute_is (i := 0) (os' := [obU u 2 2 ((T.set (ixR 0 k) ⟨true, P, false⟩).set (ixR 1 k) ⟨true, 1, false⟩) noF]) 1 k 1 0 w2 t2 rfl r1 (by rw [r2]; rfl)
      clear c1 r1 r2 t2 hP'
      go_wp2_with fail
      refine c2.mono ?_
      rintro e w3 ⟨rfl, t3⟩
      have L3 : Hid (∃ T, Ce1 (k + 1) T ∧ Tk nos wa [obU u 2 2 T noF] w3) := Lib.hid ⟨_, HT.out.step hlt, t3⟩
      clear c2 t3
      go_wp2_with (go_at_call 10; refine (num_any _ _).mono ?_; rintro e w' ⟨rfl, rfl⟩)
      go_roundw
      case rel => exact ⟨k + 1, by omega, by go_num, L3⟩
      case measure => simp [intOf]; omega
    · have e : k = 8 := by omega
      subst e
      have hT2 := hT.2 (by omega)
      have hat : atR T 1 4 = ⟨true, 1, false⟩ := hT2
      have hre : reC 2 T 1 4 = 0 := by
        have h1 : inR 2 1 4 = true := by decide
        unfold reC; rw [h1, hat]; rfl
      have hc : uaC 2 2 T 1 4 1 = 0 := by
        have h1 : hP 2 1 = true := by decide
        have h2 : rlP 2 T 1 4 = 1 := by unfold rlP; rw [hre, hat]; rfl
        unfold uaC; rw [h1, hre, h2]; rfl
      have c1 := tk_uraise_is (i := 0) (os' := [obU u 2 2 T (putF noF 44)]) 1 4 1 0 wr tk rfl hc (by unfold uaF; rw [hc]; rfl)
      have HT := Lib.hid hT
      have HT2 := Lib.hid hT2
      clear hT2 hat hre hc tk hT HL
      go_wp2_with fail
      refine c1.mono ?_
      rintro e w2 ⟨rfl, t2⟩
      have L2 : Hid (∃ F, Ce2 F ∧ Tk nos wa [obU u 2 2 T F] w2) := Lib.hid ⟨_, Ce2.start, t2⟩
      clear c1 t2
      go_upto_block 2 with fail
      go_cut [] (fun wx => Hid (∃ F, Ce2 F ∧ Tk nos wa [obU u 2 2 T F] wx))
      case first =>
        go_wp2_with fail
        go_loopw [8] (fun i wr => ∃ (k : Nat), k ≤ n ∧ k ≤ 30 ∧ i = .int .i64 k ∧ Hid (∃ F, Ce2 F ∧ Tk nos wa [obU u 2 2 T F] wr)) (fun i _ => 30 - (intOf i).toNat)
        case atStart => exact ⟨0, by omega, by omega, rfl, L2⟩
        case round =>
          clear L2
          obtain ⟨k, hkn, hk30, rfl, HL⟩ := hrel
          obtain ⟨F, hF, tk⟩ := HL.out
          by_cases hgo : k < n ∧ k < 30
          · obtain ⟨hlt, h30⟩ := hgo
            have hsl := HV.out.below (Below.down BA.out tk.below BA.out.size)
            obtain ⟨b, o, cap', e, hbw, hcell⟩ := sli_at hsl k hlt
            simp only [Value.slice.injEq] at e
            obtain ⟨rfl, -, -⟩ := e
            generalize zs.getD k 0 = q at *
            have hP := band q 1 (by omega) (by omega)
            have hK := band q 7 (by omega) (by omega)
            generalize hP' : bits BinOp.and IntKind.i64 q 1 = P at hP
            generalize hK' : bits BinOp.and IntKind.i64 q 7 = K at hK
            obtain ⟨hP0, hP1⟩ := hP
            obtain ⟨hK0, hK1⟩ := hK
            have hltI : (k : Int) < n := by omega
            have h30I : (k : Int) < 30 := by omega
            have HL1 := Lib.hid (show Ce2 F ∧ Tk nos wa [obU u 2 2 T F] wr from ⟨hF, tk⟩)
            clear hsl hF tk HL
            go_wp2_with fail
            go_still_tail 11, (by kernel_rfl)
            change wpList _ _ _ _ _ wr.drew
            go_wp2_with fail
            refine (tk_uraise (i := 0) 0 K P wr.drew (HL1.out.2.drewN 1) rfl).mono ?_
            rintro e w3 ⟨rfl, t3⟩
            have L3 : Hid (∃ F, Ce2 F ∧ Tk nos wa [obU u 2 2 T F] w3) := Lib.hid ⟨_, HL1.out.1.step (by omega) (by omega), t3⟩
            clear t3 hcell hP' hK'
            go_wp2_with fail
            go_roundw
            case rel => exact ⟨k + 1, by omega, by omega, by go_num, L3⟩
            case measure => simp [intOf]; omega
          · have hx : (k : Int) ≥ n ∨ ((k : Int) < n ∧ decide ((k : Int) < 30) = false) := by
              by_cases h1 : k < n
              · exact .inr ⟨by omega, by simp; omega⟩
              · exact .inl (by omega)
            have HL2 := HL
            clear hgo tk hF HL
            rcases hx with hx | ⟨hx, hx2⟩
            all_goals
              go_wp2_with fail
              go_meet
              exact HL2
      case rest =>
        clear L2
        obtain ⟨F, hF, tk⟩ := hcut.out
        have HF2 := Lib.hid hF.clear_
        have HRE := Lib.hid (fun v (hv : v < 8) => clr0_re HT.out.1 v hv)
        have H12 := Lib.hid ((clr0_12 HT.out.1).trans HT2.out)
        have c1 := tk_uclear_is (i := 0) (os' := [obU u 2 2 (rcT 2 T 0) (ucF 2 2 F 0)]) 0 0 wc tk rfl rfl rfl
        clear hF tk hcut HT HT2
        generalize rcT 2 T 0 = T' at *
        generalize ucF 2 2 F 0 = F' at *
        go_wp2_with fail
        refine c1.mono ?_
        rintro e w3 ⟨rfl, t3⟩
        have L3 := Lib.hid t3
        clear t3 c1
        go_wp2_with fail
        go_loopw [10] (fun i wr => ∃ (k : Nat), k ≤ 8 ∧ i = .int .i64 k ∧ Hid (Tk nos wa [obU u 2 2 T' F'] wr)) (fun i _ => 8 - (intOf i).toNat)
        case atStart => exact ⟨0, by omega, rfl, L3⟩
        case round =>
          clear L3
          obtain ⟨k, hk8, rfl, HL⟩ := hrel
          by_cases hlt : k < 8
          · have hP := band (k : Int) 1 (by omega) (by omega)
            generalize hP' : bits BinOp.and IntKind.i64 (k : Int) 1 = P at hP
            obtain ⟨hP0, hP1⟩ := hP
            have hre := HRE.out k hlt
            have hc : uaC 2 2 T' 0 k P = 1301 := by
              have h1 : hP 2 P = true := by unfold hP; simp; omega
              unfold uaC; rw [h1, hre]; rfl
            have hm : rmT 2 T' 0 k true = T' := by unfold rmT; rw [hre]; rfl
            have hu : uuC 2 T' 0 k = 1301 := by unfold uuC; rw [hre]; rfl
            have c1 := tk_uraise_is (i := 0) (os' := [obU u 2 2 T' F']) 0 k P 1301 wr HL.out rfl hc (by unfold uaF; rw [hc]; rfl)
            have c2 := fun w3 (t3 : Tk nos wa [obU u 2 2 T' F'] w3) => tk_umask_is (i := 0) (os' := [obU u 2 2 T' F']) 0 k true 1301 w3 t3 rfl hu (by rw [hm]; rfl)
            clear hre hc hm hu
            go_wp2_with fail
            refine c1.mono ?_
            rintro e w4 ⟨rfl, t4⟩
            have L4 := Lib.hid t4
            clear c1 t4 hP'
            go_wp2_with fail
            refine (c2 w4 L4.out).mono ?_
            rintro e w5 ⟨rfl, t5⟩
            have L5 := Lib.hid t5
            clear c2 t5 L4
            go_wp2_with (go_at_call 10; refine (num_any _ _).mono ?_; rintro e w' ⟨rfl, rfl⟩)
            go_roundw
            case rel => exact ⟨k + 1, by omega, by go_num, L5⟩
            case measure => simp [intOf]; omega
          · have e : k = 8 := by omega
            subst e
            have e1 : udL 2 2 T' F' 0 1 = [] := by
              have : dlN 2 T' F' 0 = plN (fun _ => false) 32 := plN_congr (fun k hk => by rw [HF2.out (0 * 32 + k) (by omega)]; simp; omega)
              unfold udL; rw [show (0 : Int).toNat = 0 from rfl, this]; rfl
            have e2 : udF 2 2 T' F' 0 = dlF 2 T' F' 0 := rfl
            have hm : mB 2 T' 12 = false := by
              have : atR T' 1 4 = ⟨true, 1, false⟩ := H12.out
              unfold mB
              show rlM 2 T' 1 4 = false
              unfold rlM; rw [this]; simp
            have e3 : udL 2 2 T' (dlF 2 T' F' 0) 1 2 = [⟨2, 1, 4⟩] := by
              have : dlN 2 T' (dlF 2 T' F' 0) 1 = plN (fun k => decide (k = 12)) 32 := plN_congr (fun k hk => by
                unfold dlF
                rw [if_neg (by omega), HF2.out (1 * 32 + k) (by omega)]
                by_cases e : k = 12
                · subst e; rw [hm]; rfl
                · have : ¬ (1 * 32 + k = 44) := by omega
                  simp [e, this])
              unfold udL; rw [show (1 : Int).toNat = 1 from rfl, this]; rfl
            have c1 := tk_udeliver_is (i := 0) (os' := [obU u 2 2 T' (dlF 2 T' F' 0)]) 0 1 [] wr HL.out rfl e1 rfl
            have c2 := fun w3 (t3 : Tk nos wa [obU u 2 2 T' (dlF 2 T' F' 0)] w3) => tk_udeliver_is (i := 0) (os' := [obU u 2 2 T' (udF 2 2 T' (dlF 2 T' F' 0) 1)]) 1 2 [⟨2, 1, 4⟩] w3 t3 rfl e3 rfl
            clear e1 e2 e3 hm HF2 H12 HRE
            go_wp2_with fail
            refine (num_any _ _).mono ?_
            rintro e w' ⟨rfl, rfl⟩
            go_wp2_with fail
            refine c1.mono ?_
            rintro e w4 ⟨x, rfl, t4⟩
            obtain ⟨Ax, cx, rfl, -⟩ : ∃ A cp, x = .slice A 0 cp ∧ True := by obtain ⟨A, c, e, -⟩ := t4.sl (i := 0) rfl; exact ⟨A, c, e, trivial⟩
            have L4 := Lib.hid t4.tail
            clear c1 t4
            go_wp2_with fail
            refine (c2 w4 L4.out).mono ?_
            rintro e w5 ⟨y, rfl, t5⟩
            have L5 := Lib.hid t5
            clear c2 t5
            go_wp2_with fail
            change Calls _ _ _ (w5.alloc (.cells (iqs [⟨2, 1, 4⟩]).toArray 46)) _
            have b10 : Below w5.heap.size w5 (w5.alloc (.cells (iqs [⟨2, 1, 4⟩]).toArray 46)) := (Below.refl _ _).alloc (Nat.le_refl _) _
            have s10 : Sl (w5.alloc (.cells (iqs [⟨2, 1, 4⟩]).toArray 46)) (.slice (some ⟨w5.heap.size, 0, none⟩) 1 1) 1 3 (iqs [⟨2, 1, 4⟩]) := Sl.lit w5 (iqs [⟨2, 1, 4⟩]) 1 3 46 rfl
            have l10 := L5.out.next b10
            clear L5 b10 L4
            generalize w5.alloc (.cells (iqs [⟨2, 1, 4⟩]).toArray 46) = w6 at *
            have c10 := same_iqs y _ 1 [⟨2, 1, 4⟩] w6 (l10.sl (i := 0) rfl) s10 rfl (by decide)
            generalize w5.heap.size = g10 at *
            refine c10.mono ?_
            clear c10 s10
            rintro e w' ⟨rfl, q10, rfl⟩
            have BZ := Lib.hid (Below.down BA.out (l10.drewN q10).below BA.out.size)
            clear l10
            generalize w6.drewN q10 = w7 at *
            go_wp2_with fail
            go_ret
            exact ⟨rfl, BZ.out⟩
end Go.Proofs.Ytjmdgjpepogogaa
