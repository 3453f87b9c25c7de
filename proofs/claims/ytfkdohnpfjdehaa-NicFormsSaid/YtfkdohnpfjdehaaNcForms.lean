/-
  Layer 20's law NicForms: it answers true for every input. (Written by wip/gennicforms.py.)
-/
import Derived.Test.YtfkdohnpfjdehaaNcAwake
import Derived.Test.YtfkdohnpfjdehaaPhysStr
import Derived.Deep.CutBlock
import Derived.Deep.DeepCutAuto
namespace Go.Proofs.Ytfkdohnpfjdehaa
open Go.RowKit
set_option linter.unusedVariables false
set_option linter.unusedSimpArgs false
set_option maxRecDepth 100000

section
variable {ls : List (Int × Int)} {q : Qs} {Q : Nat → List Ms} {a b p : Int} {n : Nat} {s : List UInt8}
theorem nsC_a (h : inP ls.length a = false) : nsC ls a b n = 2000 := by unfold nsC nsB; rw [h]; rfl
theorem nsC_b (h : inP ls.length b = false) : nsC ls a b n = 2000 := by unfold nsC nsB; rw [h, Bool.and_false]; rfl
theorem nsC_n (h : ¬ (1 ≤ n ∧ n ≤ 32)) : nsC ls a b n = 2000 := by unfold nsC nsB; rw [decide_eq_false h, Bool.and_false]; rfl
theorem sd_no (h : nsC ls a b s.length ≠ 0) : sd ls q a b s = q := by unfold sd nsQ nsD; rw [if_neg h, if_neg h]
theorem nrC_no (h : inP ls.length p = false) : nrC ls Q p = 2000 := by unfold nrC; rw [h]; rfl
theorem nrM_no (h : inP ls.length p = false) : nrM ls Q p = ⟨0, []⟩ := by unfold nrM; rw [h]; rfl
theorem rc_no (h : inP ls.length p = false) : rc ls q p = q := by unfold rc nrQ; rw [h]; rfl
theorem nqX_no (h : inP ls.length p = false) : (nqX ls Q p).length = 0 := by unfold nqX; rw [h]; rfl
theorem ndX_no {D : Nat → Int} (h : inP ls.length p = false) : ndX ls D p = 0 := by unfold ndX; rw [h]; rfl
end
def lsF : List (Int × Int) := [(0, 0), (0, 0)]
def q1 : Qs := sd lsF q0 0 1 (zeros 32)
theorem in_d (d : Nat) (h : 1 ≤ d) : inP lsF.length (1 + (d : Int)) = false := decide_eq_false (by show ¬ (0 ≤ (1 + (d : Int)) ∧ (1 + (d : Int)) < 2); omega)
theorem in_neg (d : Nat) (h : 1 ≤ d) : inP lsF.length (-(d : Int)) = false := decide_eq_false (by show ¬ (0 ≤ (-(d : Int)) ∧ (-(d : Int)) < 2); omega)
theorem new_neg (d : Nat) (h : 1 ≤ d) : newL [(0, 0), (-(d : Int), 0)] = false := by
  unfold newL
  rw [allL_no (k := 1) (by simp) (lB_no _ _ (by show ¬ (0 ≤ (-(d : Int)) ∧ (-(d : Int)) ≤ 3 ∧ (0 : Int) ≤ 0 ∧ (0 : Int) ≤ 15); omega)), Bool.and_false]
theorem nil_lbs (w : World) : Sl w (.slice none 0 0) 0 2 (ints (lbs [])) := ⟨none, 0, rfl, Nat.le_refl _, rfl, fun h => absurd h (by decide)⟩
theorem make_labels (n : Nat) (hn : n ≤ 65536) : ∃ MC : Array Value, ∀ W : World, (Instr.makeSlice 22 (.int .i64 (n : Int)) (.int .i64 (n : Int))).run Try.prog W = .ok (.slice (some ⟨W.heap.size, 0, none⟩) n n) (W.alloc (.cells MC 54)) := by
  obtain ⟨i0, hi, hz0, hz1, hz2⟩ := info_parts infoLb
  refine ⟨madeCells (Value.agg #[.int .i64 0, .int .i64 0]).cells (n * i0.size), fun W => ?_⟩
  have := run_makeSlice (P := Try.prog) W 22 54 i0 _ Try.underlying22 hi hz0 .i64 .i64 n n (by omega) (by omega) (by rw [hz1]; omega) (by rw [hz2]; omega) (by omega)
  simp only [Int.toNat_natCast] at this
  exact this
theorem nnew_long (A : Option Addr) (n cap : Nat) (w : World) (h : 4 < n) (hn : n ≤ maxLen) :
    Calls Try.prog 9 #[.slice A n cap] w fun e w' => e = .returned (.tuple #[.pointer none, .int .i64 2000]) ∧ w = w' := by
  unfold maxLen at hn
  go_enter Try.func9, Try.ntmps9
  go_wp2_with fail
  go_ret2
  exact ⟨rfl, rfl⟩

set_option maxHeartbeats 4000000 in
theorem law_NicForms (q y : Int) (wq : (Lit.int .i64 q).wf = true) (wy : (Lit.int .i64 y).wf = true) (w : World) :
    Calls Try.prog 5 #[.int .i64 q, .int .i64 y] w fun e w' => e = .returned (.bool true) ∧ Below w.heap.size w w' := by
  have hU := u64b q
  have hF := band y 1023 (by omega) (by omega)
  generalize hU' : IntKind.u64.wrap q = U at hU
  generalize hF' : bits BinOp.and IntKind.i64 y 1023 = F at hF
  obtain ⟨hU0, hU1⟩ := hU
  obtain ⟨hF0, hF1⟩ := hF
  have hI0 : 0 ≤ U % 9 := by omega
  have hI1 : U % 9 < 9 := by omega
  obtain ⟨d, hd⟩ := Int.eq_ofNat_of_zero_le (show 0 ≤ 1 + F by omega)
  have hd1 : 1 ≤ d := by omega
  have hd2 : d ≤ 1024 := by omega
  generalize hI' : U % 9 = I at hI0 hI1
  obtain ⟨I, rfl⟩ := Int.eq_ofNat_of_zero_le hI0
  clear wq wy
  have hmk32 : ∀ W : World, (Instr.makeSlice 60 (.int .i64 32) (.int .i64 32)).run Try.prog W = .ok (.slice (some ⟨W.heap.size, 0, none⟩) 32 32) (W.alloc (.cells (bts (zeros 32)).toArray 5)) := fun W => make_u8 W 32 (by omega)
  have hcv32 := fun W => make_str W 32 (by omega)
  obtain ⟨Z32, hZ⟩ : ∃ Z, zeros 32 = Z := ⟨_, rfl⟩
  have HZ := Lib.hid hZ
  rw [hZ] at hmk32 hcv32
  clear hZ
  go_enter Try.func5, Try.ntmps5
  go_wp2_with fail
  refine (nawake_any _).mono ?_
  rintro e w1 ⟨rfl, b1⟩
  have HS := Lib.hid (lbs_lit w1 lsF 54)
  have HT := Lib.hid (((Tk.empty w).next b1).next ((Below.refl _ w1).alloc (Nat.le_refl _) (.cells (ints (lbs lsF)).toArray 54)))
  clear b1
  go_wp2_with fail
  refine (t2_new _ 2 lsF _ HT.out HS.out rfl (by decide) (by kernel_rfl)).mono ?_
  rintro e w2 ⟨g, rfl, t⟩
  have HT := Lib.hid t; clear t
  go_wp2_with fail
  refine (num_any _ _).mono ?_; rintro e w' ⟨rfl, rfl⟩
  have HT := Lib.hid (HT.out.next ((Below.refl _ w2).alloc (Nat.le_refl _) (.cells (bts Z32).toArray 5)))
  go_wp2_with fail
  refine (t2_send 0 1 (str Z32) _ HT.out (i := 0) rfl (by rw [str_size, ← HZ.out, zeros_len]; decide) 0 (by rw [str_size, ← HZ.out, zeros_len]; kernel_rfl) (os' := [ob2 g lsF q1]) (by rw [str_list, ← HZ.out]; rfl)).mono ?_
  rintro e w4 ⟨rfl, t⟩
  have HT := Lib.hid t; clear t
  clear hmk32 hcv32
  go_upto_block 0 with fail
  go_cut [6] from 10 (fun u wx => u = .int .i64 2000 ∧ Hid (Tk nos w [ob2 g lsF q1] wx))
  case first =>
    rcases (show I = 0 ∨ I = 1 ∨ I = 2 ∨ I = 3 ∨ I = 4 ∨ I = 5 ∨ I = 6 ∨ I = 7 ∨ I = 8 by omega) with rfl | rfl | rfl | rfl | rfl | rfl | rfl | rfl | rfl
    · go_wp2_with fail
      refine (nnew_no _ 0 [] _ (nil_lbs _) rfl (by decide) (by kernel_rfl)).mono ?_
      rintro e w5 ⟨rfl, b⟩
      have HT := Lib.hid (HT.out.next b)
      clear b
      go_wp2_with fail
      refine (num_any _ _).mono ?_; rintro e w' ⟨rfl, rfl⟩
      go_wp2_with fail
      go_meet
      exact ⟨rfl, HT⟩
    · obtain ⟨MC, hmk⟩ := make_labels (4 + d) (by omega)
      rw [show ((4 + d : Nat) : Int) = 4 + (d : Int) by omega] at hmk
      have HT := Lib.hid (HT.out.next ((Below.refl _ w4).alloc (Nat.le_refl _) (.cells MC 54)))
      go_wp2_with fail
      refine (nnew_long _ (4 + d) _ _ (by omega) (by unfold maxLen; omega)).mono ?_
      rintro e w' ⟨rfl, rfl⟩
      go_wp2_with fail
      refine (num_any _ _).mono ?_; rintro e w' ⟨rfl, rfl⟩
      go_wp2_with fail
      go_meet
      exact ⟨rfl, HT⟩
    · have HS := Lib.hid (lbs_lit w4 [(0, 0), (-(d : Int), 0)] 54)
      have HT := Lib.hid (HT.out.next ((Below.refl _ w4).alloc (Nat.le_refl _) (.cells (ints (lbs [(0, 0), (-(d : Int), 0)])).toArray 54)))
      go_wp2_with fail
      refine (nnew_no _ 2 [(0, 0), (-(d : Int), 0)] _ HS.out rfl (by decide) (new_neg d hd1)).mono ?_
      rintro e w5 ⟨rfl, b⟩
      have HT := Lib.hid (HT.out.next b)
      clear b
      go_wp2_with fail
      refine (num_any _ _).mono ?_; rintro e w' ⟨rfl, rfl⟩
      go_wp2_with fail
      go_meet
      exact ⟨rfl, HT⟩
    · go_wp2_with fail
      refine (t2_send (1 + (d : Int)) 0 _ _ HT.out (i := 0) rfl (by decide) 2000 (nsC_a (in_d d hd1)) (os' := [ob2 g lsF q1]) (by show [_] = [_]; rw [sd_no (by rw [nsC_a (in_d d hd1)]; decide)])).mono ?_
      rintro e w5 ⟨rfl, t⟩
      have HT := Lib.hid t; clear t
      go_wp2_with fail
      refine (num_any _ _).mono ?_; rintro e w' ⟨rfl, rfl⟩
      go_wp2_with fail
      go_meet
      exact ⟨rfl, HT⟩
    · go_wp2_with fail
      refine (t2_send 0 (-(d : Int)) _ _ HT.out (i := 0) rfl (by decide) 2000 (nsC_b (in_neg d hd1)) (os' := [ob2 g lsF q1]) (by show [_] = [_]; rw [sd_no (by rw [nsC_b (in_neg d hd1)]; decide)])).mono ?_
      rintro e w5 ⟨rfl, t⟩
      have HT := Lib.hid t; clear t
      go_wp2_with fail
      refine (num_any _ _).mono ?_; rintro e w' ⟨rfl, rfl⟩
      go_wp2_with fail
      go_meet
      exact ⟨rfl, HT⟩
    · go_wp2_with fail
      refine (t2_send 0 1 _ _ HT.out (i := 0) rfl (by decide) 2000 (nsC_n (by decide)) (os' := [ob2 g lsF q1]) (by show [_] = [_]; rw [sd_no (by rw [nsC_n (by decide)]; decide)])).mono ?_
      rintro e w5 ⟨rfl, t⟩
      have HT := Lib.hid t; clear t
      go_wp2_with fail
      refine (num_any _ _).mono ?_; rintro e w' ⟨rfl, rfl⟩
      go_wp2_with fail
      go_meet
      exact ⟨rfl, HT⟩
    · have hmk := fun W => make_u8 W (32 + d) (by omega)
      have hcv := fun W => make_str W (32 + d) (by omega)
      rw [show ((32 + d : Nat) : Int) = 32 + (d : Int) by omega] at hmk
      have HT := Lib.hid (HT.out.next ((Below.refl _ w4).alloc (Nat.le_refl _) (.cells (bts (zeros (32 + d))).toArray 5)))
      go_wp2_with fail
      refine (t2_send 0 1 (str (zeros (32 + d))) _ HT.out (i := 0) rfl (by rw [str_size, zeros_len]; unfold maxLen; omega) 2000 (nsC_n (by rw [str_size, zeros_len]; omega)) (os' := [ob2 g lsF q1]) (by show [_] = [_]; rw [sd_no (by rw [nsC_n (by rw [str_list, zeros_len]; omega)]; decide)])).mono ?_
      rintro e w5 ⟨rfl, t⟩
      have HT := Lib.hid t; clear t
      go_wp2_with fail
      refine (num_any _ _).mono ?_; rintro e w' ⟨rfl, rfl⟩
      go_wp2_with fail
      go_meet
      exact ⟨rfl, HT⟩
    · go_wp2_with fail
      refine (t2_recv (1 + (d : Int)) _ HT.out (i := 0) rfl ⟨0, []⟩ 2000 (nrM_no (in_d d hd1)) (nrC_no (in_d d hd1)) (os' := [ob2 g lsF q1]) (by show [_] = [_]; rw [rc_no (in_d d hd1)])).mono ?_
      rintro e w5 ⟨rfl, t⟩
      have HT := Lib.hid ((t.alloc 41 [.int .i64 0, .string ⟨#[]⟩]).tail); clear t
      rw [show str [] = ⟨#[]⟩ from rfl]
      go_wp2_with fail
      refine (num_any _ _).mono ?_; rintro e w' ⟨rfl, rfl⟩
      go_wp2_with fail
      go_meet
      exact ⟨rfl, HT⟩
    · go_wp2_with fail
      refine (t2_recv (-(d : Int)) _ HT.out (i := 0) rfl ⟨0, []⟩ 2000 (nrM_no (in_neg d hd1)) (nrC_no (in_neg d hd1)) (os' := [ob2 g lsF q1]) (by show [_] = [_]; rw [rc_no (in_neg d hd1)])).mono ?_
      rintro e w5 ⟨rfl, t⟩
      have HT := Lib.hid ((t.alloc 41 [.int .i64 0, .string ⟨#[]⟩]).tail); clear t
      rw [show str [] = ⟨#[]⟩ from rfl]
      go_wp2_with fail
      refine (num_any _ _).mono ?_; rintro e w' ⟨rfl, rfl⟩
      go_wp2_with fail
      go_meet
      exact ⟨rfl, HT⟩
  case rest =>
    obtain ⟨rfl, HT⟩ := hcut
    generalize wc = w5 at *
    go_wp2_with fail
    refine (num_any _ _).mono ?_; rintro e w' ⟨rfl, rfl⟩
    go_wp2_with fail
    refine (t2_qlen 1 _ HT.out (i := 0) rfl 1 (by kernel_rfl)).mono ?_
    rintro e w6 ⟨A, c, rfl, t⟩
    have HT := Lib.hid t; clear t
    go_wp2_with fail
    refine (t2_qlen 0 _ HT.out (i := 0) rfl 0 (by kernel_rfl)).mono ?_
    rintro e w7 ⟨A, c, rfl, t⟩
    have HT := Lib.hid t; clear t
    go_wp2_with fail
    refine (t2_qlen (1 + (d : Int)) _ HT.out (i := 0) rfl 0 (nqX_no (in_d d hd1))).mono ?_
    rintro e w8 ⟨A, c, rfl, t⟩
    have HT := Lib.hid t; clear t
    go_wp2_with fail
    refine (t2_drop (-(d : Int)) _ HT.out (i := 0) rfl 0 (ndX_no (in_neg d hd1))).mono ?_
    rintro e w' ⟨rfl, rfl⟩
    go_wp2_with fail
    go_ret
    exact ⟨rfl, HT.out.below⟩

end Go.Proofs.Ytfkdohnpfjdehaa
