/-
  Layer 19's law DiskForms: it answers true for every input.
-/
import Derived.Test.YtjccdimmfhkipaaDkAwake
import Derived.Test.YtjccdimmfhkipaaDkP
import Derived.Test.YtjccdimmfhkipaaStx
import Derived.Deep.CutBlock
import Derived.Deep.DeepCutAuto
namespace Go.Proofs.Ytjccdimmfhkipaa
open Go.RowKit
set_option linter.unusedVariables false
set_option linter.unusedSimpArgs false
set_option maxRecDepth 100000

theorem ext_no (s : Int) (h : s < 0 ∨ 64 < s) (ps : List (Int × Int)) : extB ps s = false := by
  unfold extB; rw [decide_eq_false (show ¬ (0 ≤ s ∧ s ≤ 64) by omega)]; simp
theorem shP_part (p : Int) (h : ¬ (0 ≤ p ∧ p < 3)) (a n : Int) : toC shP p a n = (0, 1800) := toC_form (.inr h)
theorem shP_ext : extB shP 64 = true := by kernel_rfl
theorem shP_at (p : Nat) (hp : p < 3) (a n : Int) : toC shP p a n = if runB a n (shP.getD p (0, 0)).2 = true then ((shP.getD p (0, 0)).1 + a, 0) else (0, 1801) := toC_at shP_ext hp
theorem shP_no (p : Nat) (hp : p < 3) (a n : Int) (h : ¬ (0 ≤ a ∧ 0 ≤ n ∧ a ≤ (shP.getD p (0, 0)).2 ∧ n ≤ (shP.getD p (0, 0)).2 - a)) : toC shP p a n = (0, 1801) := by
  rw [shP_at p hp, if_neg (show ¬ runB a n (shP.getD p (0, 0)).2 = true from fun h2 => h (of_decide_eq_true h2))]

set_option maxHeartbeats 4000000 in
theorem law_DiskForms (q y : Int) (wq : (Lit.int .i64 q).wf = true) (wy : (Lit.int .i64 y).wf = true) (w : World) :
    Calls Try.prog 6 #[.int .i64 q, .int .i64 y] w fun e w' => e = .returned (.bool true) ∧ Below w.heap.size w w' := by
  have hU := u64b q
  have hF := band y 1023 (by omega) (by omega)
  generalize hU' : IntKind.u64.wrap q = U at hU
  generalize hF' : bits BinOp.and IntKind.i64 y 1023 = F at hF
  obtain ⟨hU0, hU1⟩ := hU
  obtain ⟨hF0, hF1⟩ := hF
  have hI0 : 0 ≤ U % 12 := by omega
  have hI1 : U % 12 < 12 := by omega
  obtain ⟨d, hd⟩ := Int.eq_ofNat_of_zero_le (show 0 ≤ 1 + F by omega)
  have hd1 : 1 ≤ d := by omega
  have hd2 : d ≤ 1024 := by omega
  generalize hI' : U % 12 = I at hI0 hI1
  obtain ⟨I, rfl⟩ := Int.eq_ofNat_of_zero_le hI0
  clear wq wy
  have HS3 : Hid ((str (secK 3 16)).data.toList = secK 3 16 ∧ (str (secK 3 16)).size = 16) := Lib.hid ⟨str_list _, by rw [str_size, secK_len]⟩
  have HS1 : Hid ((str (secK 1 16)).data.toList = secK 1 16 ∧ (str (secK 1 16)).size = 16) := Lib.hid ⟨str_list _, by rw [str_size, secK_len]⟩
  go_enter Try.func6, Try.ntmps6
  go_wp2_with fail
  refine (dkawake_any _).mono ?_
  rintro e w1 ⟨rfl, b1⟩
  have HB := Lib.hid b1
  clear b1
  go_wp2_with fail
  refine (shared_any 5 _ (by decide) (by decide)).mono ?_
  rintro e w2 ⟨g, rfl, t⟩
  have HT : Hid (Tk nos w [obPD g shP 5 (qF 5 3) (zeros 1024)] w2) := Lib.hid (Tk.add (ps := [_]) ((Tk.empty w).next HB.out) t)
  clear t HB
  go_wp2_with fail
  refine (sector_any 3 _ (by decide) (by decide)).mono ?_
  rintro e w3 ⟨rfl, b⟩
  have HT := Lib.hid (HT.out.next b)
  clear b
  obtain ⟨S3, hS3⟩ : ∃ X, str (secK 3 16) = X := ⟨_, rfl⟩
  rw [hS3] at HS3 ⊢
  go_wp2_with fail
  refine (tk_dwrite (i := 0) 1 0 S3 _ HT.out rfl (by rw [HS3.out.2]; decide) 0 (by rw [HS3.out.1, dwC_16 (secK_len _ _)]; kernel_rfl) rfl).mono ?_
  rintro e w4 ⟨rfl, t⟩
  obtain ⟨l, hl⟩ : ∃ l, dwL shP (zeros 1024) 1 0 S3.data.toList = l := ⟨_, rfl⟩
  rw [hl] at t
  have HR : Hid (str (drT shP l 1 0 1) = S3) := Lib.hid (by
    rw [← hl, HS3.out.1, dwL_16 (x := 6) (secK_len _ _) (by kernel_rfl), drT_at (n := 1) (k := 1) (x := 6) rfl (by kernel_rfl), seg_put (secK_len _ _) (by rw [zeros_len]; decide)]
    exact hS3)
  have HT := Lib.hid (show Tk nos w [obPD g shP 5 (qF 5 3) l] w4 from t)
  clear t hl
  go_upto_block 0 with fail
  go_cut [8, 9] from 10 (fun u v wx => ∃ C : Int, u = .int .i64 C ∧ v = .int .i64 C ∧ Hid (Tk nos w [obPD g shP 5 (qF 5 3) l] wx))
  case first =>
    rcases (show I = 0 ∨ I = 1 ∨ I = 2 ∨ I = 3 ∨ I = 4 ∨ I = 5 ∨ I = 6 ∨ I = 7 ∨ I = 8 ∨ I = 9 ∨ I = 10 ∨ I = 11 by omega) with rfl | rfl | rfl | rfl | rfl | rfl | rfl | rfl | rfl | rfl | rfl | rfl
    · go_wp2_with fail
      refine (dnew_no _ [] _ _ _ (nil_pts _) (by intro h; exact absurd h.1 (by decide))).mono ?_
      rintro e w5 ⟨rfl, b⟩
      have HT := Lib.hid (HT.out.next b)
      clear b
      go_wp2_with fail
      refine (num_any _ _).mono ?_; rintro e w' ⟨rfl, rfl⟩
      go_wp2_with fail
      go_meet
      exact ⟨_, rfl, rfl, HT⟩
    · have HT := Lib.hid (HT.out.next ((Below.refl _ w4).alloc (Nat.le_refl _) (.cells (zpl [(0, 5)]).toArray 39)))
      go_wp2_with fail
      refine (dnew_no _ [(0, 5)] _ _ _ (PtS.lit w4 [(0, 5)] 39 (by decide)) (by intro h; exact absurd h.1 (by decide))).mono ?_
      rintro e w5 ⟨rfl, b⟩
      have HT := Lib.hid (HT.out.next b)
      clear b
      go_wp2_with fail
      refine (num_any _ _).mono ?_; rintro e w' ⟨rfl, rfl⟩
      go_wp2_with fail
      go_meet
      exact ⟨_, rfl, rfl, HT⟩
    · have HT := Lib.hid (HT.out.next ((Below.refl _ w4).alloc (Nat.le_refl _) (.cells (zpl [(0, 0)]).toArray 39)))
      go_wp2_with fail
      refine (dnew_no _ [(0, 0)] _ _ _ (PtS.lit w4 [(0, 0)] 39 (by decide)) (by intro h; rw [ext_no (64 + (d : Int)) (by omega)] at h; exact absurd h.1 (by decide))).mono ?_
      rintro e w5 ⟨rfl, b⟩
      have HT := Lib.hid (HT.out.next b)
      clear b
      go_wp2_with fail
      refine (num_any _ _).mono ?_; rintro e w' ⟨rfl, rfl⟩
      go_wp2_with fail
      go_meet
      exact ⟨_, rfl, rfl, HT⟩
    · have HT := Lib.hid (HT.out.next ((Below.refl _ w4).alloc (Nat.le_refl _) (.cells (zpl [(0, 0)]).toArray 39)))
      go_wp2_with fail
      refine (dnew_no _ [(0, 0)] _ _ _ (PtS.lit w4 [(0, 0)] 39 (by decide)) (by intro h; omega)).mono ?_
      rintro e w5 ⟨rfl, b⟩
      have HT := Lib.hid (HT.out.next b)
      clear b
      go_wp2_with fail
      refine (num_any _ _).mono ?_; rintro e w' ⟨rfl, rfl⟩
      go_wp2_with fail
      go_meet
      exact ⟨_, rfl, rfl, HT⟩
    · have HT := Lib.hid (HT.out.next ((Below.refl _ w4).alloc (Nat.le_refl _) (.cells (zpl [(0, 0)]).toArray 39)))
      go_wp2_with fail
      refine (dnew_no _ [(0, 0)] _ _ _ (PtS.lit w4 [(0, 0)] 39 (by decide)) (by intro h; omega)).mono ?_
      rintro e w5 ⟨rfl, b⟩
      have HT := Lib.hid (HT.out.next b)
      clear b
      go_wp2_with fail
      refine (num_any _ _).mono ?_; rintro e w' ⟨rfl, rfl⟩
      go_wp2_with fail
      go_meet
      exact ⟨_, rfl, rfl, HT⟩
    · go_wp2_with fail
      refine (tk_dopen (i := 0) (2 + (d : Int)) _ HT.out rfl 1900 (by unfold doC inP; rw [decide_eq_false (by show ¬ (0 ≤ 2 + (d : Int) ∧ 2 + (d : Int) < 3); omega)]; rfl) (by unfold doF inP; rw [decide_eq_false (by show ¬ (0 ≤ 2 + (d : Int) ∧ 2 + (d : Int) < 3); omega)]; try rfl)).mono ?_
      rintro e w5 ⟨rfl, t⟩
      have HT := Lib.hid (show Tk nos w [obPD g shP 5 (qF 5 3) l] w5 from t)
      clear t
      go_wp2_with fail
      refine (num_any _ _).mono ?_; rintro e w' ⟨rfl, rfl⟩
      go_wp2_with fail
      go_meet
      exact ⟨_, rfl, rfl, HT⟩
    · go_wp2_with fail
      refine (tk_dspend (i := 0) (-(d : Int)) 1 _ HT.out rfl 1900 (by unfold dsC inP; rw [decide_eq_false (by show ¬ (0 ≤ -(d : Int) ∧ -(d : Int) < 3); omega)]; rfl) (by unfold dsF inP; rw [decide_eq_false (by show ¬ (0 ≤ -(d : Int) ∧ -(d : Int) < 3); omega)]; try rfl)).mono ?_
      rintro e w5 ⟨rfl, t⟩
      have HT := Lib.hid (show Tk nos w [obPD g shP 5 (qF 5 3) l] w5 from t)
      clear t
      go_wp2_with fail
      refine (num_any _ _).mono ?_; rintro e w' ⟨rfl, rfl⟩
      go_wp2_with fail
      go_meet
      exact ⟨_, rfl, rfl, HT⟩
    · go_wp2_with fail
      refine (tk_dspend (i := 0) 1 (-(d : Int)) _ HT.out rfl 1900 (by unfold dsC; rw [decide_eq_false (show ¬ (0 ≤ -(d : Int)) by omega), Bool.and_false]; rfl) (by unfold dsF; rw [decide_eq_false (show ¬ (0 ≤ -(d : Int)) by omega), Bool.and_false]; try rfl)).mono ?_
      rintro e w5 ⟨rfl, t⟩
      have HT := Lib.hid (show Tk nos w [obPD g shP 5 (qF 5 3) l] w5 from t)
      clear t
      go_wp2_with fail
      refine (num_any _ _).mono ?_; rintro e w' ⟨rfl, rfl⟩
      go_wp2_with fail
      go_meet
      exact ⟨_, rfl, rfl, HT⟩
    · go_wp2_with fail
      refine (sector_any 1 _ (by decide) (by decide)).mono ?_
      rintro e w6 ⟨rfl, b⟩
      have HT := Lib.hid (HT.out.next b)
      clear b
      have hsl : ∀ wx, (Instr.slice 9 (.string (str (secK 1 16))) none (some (.int .i64 15)) none).run Try.prog wx = .ok (.string (str ((secK 1 16).take 15))) wx := fun wx => stx_h (secK 1 16) 15 (by rw [secK_len]; decide) wx
      have HX : Hid ((str ((secK 1 16).take 15)).data.toList.length = 15) := Lib.hid (by rw [str_list, List.length_take, secK_len]; rfl)
      generalize str ((secK 1 16).take 15) = X15 at *
      generalize str (secK 1 16) = X16 at *
      have HC : Hid (dwC shP 1 0 X15.data.toList = 1900) := Lib.hid (by rw [dwC_len HX.out]; kernel_rfl)
      go_wp2_with fail
      refine (tk_dwrite (i := 0) 1 0 X15 _ HT.out rfl (by have := HX.out; rw [list_len] at this; rw [this]; decide) 1900 HC.out rfl).mono ?_
      rintro e w5 ⟨rfl, t⟩
      rw [dwL_no (by rw [HC.out]; decide)] at t
      have HT := Lib.hid (show Tk nos w [obPD g shP 5 (qF 5 3) l] w5 from t)
      clear t
      go_wp2_with fail
      refine (num_any _ _).mono ?_; rintro e w' ⟨rfl, rfl⟩
      go_wp2_with fail
      go_meet
      exact ⟨_, rfl, rfl, HT⟩
    · go_wp2_with fail
      refine (sector_any 1 _ (by decide) (by decide)).mono ?_
      rintro e w6 ⟨rfl, b⟩
      have HT := Lib.hid (HT.out.next b)
      clear b
      have HC : Hid (dwC shP (2 + (d : Int)) 0 (str (secK 1 16)).data.toList = 1800) := Lib.hid (by rw [str_list, dwC_16 (secK_len _ _), shP_part _ (by omega)])
      have HX : Hid ((str (secK 1 16)).size = 16) := Lib.hid (by rw [str_size, secK_len])
      generalize str (secK 1 16) = X16 at *
      go_wp2_with fail
      refine (tk_dwrite (i := 0) (2 + (d : Int)) 0 X16 _ HT.out rfl (by rw [HX.out]; decide) 1800 HC.out rfl).mono ?_
      rintro e w5 ⟨rfl, t⟩
      rw [dwL_no (by rw [HC.out]; decide)] at t
      have HT := Lib.hid (show Tk nos w [obPD g shP 5 (qF 5 3) l] w5 from t)
      clear t
      go_wp2_with fail
      refine (num_any _ _).mono ?_; rintro e w' ⟨rfl, rfl⟩
      go_wp2_with fail
      go_meet
      exact ⟨_, rfl, rfl, HT⟩
    · go_wp2_with fail
      refine (tk_dread (i := 0) 1 4 (d : Int) _ HT.out rfl ⟨#[]⟩ 1801 (by rw [drT_no (by rw [show toC shP 1 4 (d : Int) = (0, 1801) from shP_no 1 (by decide) _ _ (by show ¬ (0 ≤ (4 : Int) ∧ 0 ≤ (d : Int) ∧ (4 : Int) ≤ 4 ∧ (d : Int) ≤ 4 - 4); omega)]; decide)]; rfl) (by rw [show toC shP 1 4 (d : Int) = (0, 1801) from shP_no 1 (by decide) _ _ (by show ¬ (0 ≤ (4 : Int) ∧ 0 ≤ (d : Int) ∧ (4 : Int) ≤ 4 ∧ (d : Int) ≤ 4 - 4); omega)])).mono ?_
      rintro e w5 ⟨rfl, t⟩
      have HT := Lib.hid (show Tk nos w [obPD g shP 5 (qF 5 3) l] w5 from t)
      clear t
      go_wp2_with fail
      refine (num_any _ _).mono ?_; rintro e w' ⟨rfl, rfl⟩
      go_wp2_with fail
      go_meet
      exact ⟨_, rfl, rfl, HT⟩
    · go_wp2_with fail
      refine (tk_dread (i := 0) 1 (-(d : Int)) 1 _ HT.out rfl ⟨#[]⟩ 1801 (by rw [drT_no (by rw [show toC shP 1 (-(d : Int)) 1 = (0, 1801) from shP_no 1 (by decide) _ _ (by omega)]; decide)]; rfl) (by rw [show toC shP 1 (-(d : Int)) 1 = (0, 1801) from shP_no 1 (by decide) _ _ (by omega)])).mono ?_
      rintro e w5 ⟨rfl, t⟩
      have HT := Lib.hid (show Tk nos w [obPD g shP 5 (qF 5 3) l] w5 from t)
      clear t
      go_wp2_with fail
      refine (num_any _ _).mono ?_; rintro e w' ⟨rfl, rfl⟩
      go_wp2_with fail
      go_meet
      exact ⟨_, rfl, rfl, HT⟩
  case rest =>
    obtain ⟨C, rfl, rfl, HT⟩ := hcut
    have HT := HT
    have e1 : (C == C) = true := by simp
    clear HS1
    generalize wc = w5 at *
    go_wp2_with fail
    refine (tk_dread (i := 0) 1 0 1 _ HT.out rfl S3 0 HR.out (by kernel_rfl)).mono ?_
    rintro e w6 ⟨rfl, t⟩
    have HT := Lib.hid t
    clear t
    go_wp2_with (go_at_call 11; refine (num_any _ _).mono ?_; rintro e w' ⟨rfl, rfl⟩)
    refine (sector_any 3 _ (by decide) (by decide)).mono ?_
    rintro e w7 ⟨rfl, b⟩
    have HT := Lib.hid (HT.out.next b)
    rw [hS3]
    clear b
    go_wp2_with fail
    refine (tk_dleft (i := 0) 1 _ HT.out rfl 5 (by kernel_rfl)).mono ?_
    rintro e w' ⟨rfl, rfl⟩
    go_wp2_with fail
    refine (tk_dleft (i := 0) (2 + (d : Int)) _ HT.out rfl 0 (by unfold dlX inP; rw [decide_eq_false (by show ¬ (0 ≤ 2 + (d : Int) ∧ 2 + (d : Int) < 3); omega)]; rfl)).mono ?_
    rintro e w' ⟨rfl, rfl⟩
    go_wp2_with fail
    go_ret
    exact ⟨rfl, HT.out.below⟩

end Go.Proofs.Ytjccdimmfhkipaa
