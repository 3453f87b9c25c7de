/-
  Layer 13's law IrqForms: it answers true for every input.
-/
import Derived.Test.YtjmdgjpepogogaaIrAwake
import Derived.Test.YtjmdgjpepogogaaPlain2
namespace Go.Proofs.Ytjmdgjpepogogaa
open Go.RowKit Go.ChangeMaps
set_option linter.unusedVariables false
set_option maxRecDepth 100000

theorem set_same {d : Ob} : ∀ {l : List Ob} {i : Nat}, l[i]? = some d → l.set i d = l
  | a :: l, 0, h => by simp at h; subst h; rfl
  | a :: l, i + 1, h => by simp only [List.set_cons_succ]; rw [set_same (by simpa using h)]
theorem inR_no {D : Nat} {d v : Int} (h : ¬ (0 ≤ d ∧ d < D ∧ 0 ≤ v ∧ v < 8)) : inR D d v = false := by unfold inR; simpa using h
theorem tk_uraise_no {S : Nat → Prop} {W0 : World} {os : List Ob} {i u D n : Nat} {T : List Ro} {F : Nat → Bool} (d v p : Int) (w : World) (h : Tk S W0 os w) (hi : os[i]? = some (obU u D n T F)) (hb : ¬ ((0 ≤ d ∧ d < D ∧ 0 ≤ v ∧ v < 8) ∧ 0 ≤ p ∧ p < n)) :
    Calls Try.prog 19 #[.pointer (some ⟨u, 0, none⟩), .int .i64 d, .int .i64 v, .int .i64 p] w fun e w' => e = .returned (.int .i64 1300) ∧ Tk S W0 os w' := by
  have hc : uaC D n T d v p = 1300 := by
    unfold uaC
    cases hp : hP n p with
    | false => rfl
    | true =>
      have : inR D d v = false := inR_no (fun h => hb ⟨h, by unfold hP at hp; simpa using hp⟩)
      simp [reC, this, toC]
  have hf : uaF D n T F d v p = F := by unfold uaF; rw [hc]; rfl
  have := tk_uraise d v p w h hi
  rw [hc, hf, set_same hi] at this
  exact this
theorem tk_uroute_no {S : Nat → Prop} {W0 : World} {os : List Ob} {i u D n : Nat} {T : List Ro} {F : Nat → Bool} (d v p : Int) (w : World) (h : Tk S W0 os w) (hi : os[i]? = some (obU u D n T F)) (hb : ¬ ((0 ≤ d ∧ d < D ∧ 0 ≤ v ∧ v < 8) ∧ 0 ≤ p ∧ p < n)) :
    Calls Try.prog 16 #[.pointer (some ⟨u, 0, none⟩), .int .i64 d, .int .i64 v, .int .i64 p] w fun e w' => e = .returned (.int .i64 1300) ∧ Tk S W0 os w' := by
  have hc : urC D n d v p = 1300 ∧ urT D n T d v p = T := by
    unfold urC urT
    cases hp : hP n p with
    | false => exact ⟨rfl, rfl⟩
    | true =>
      have : inR D d v = false := inR_no (fun h => hb ⟨h, by unfold hP at hp; simpa using hp⟩)
      simp [rsC, rsT, rsB, this, toC]
  have := tk_uroute d v p w h hi
  rw [hc.1, hc.2, set_same hi] at this
  exact this
theorem tk_uclear_no {S : Nat → Prop} {W0 : World} {os : List Ob} {i u D n : Nat} {T : List Ro} {F : Nat → Bool} (d : Int) (w : World) (h : Tk S W0 os w) (hi : os[i]? = some (obU u D n T F)) (hb : ¬ (0 ≤ d ∧ d < D)) :
    Calls Try.prog 20 #[.pointer (some ⟨u, 0, none⟩), .int .i64 d] w fun e w' => e = .returned (.int .i64 1300) ∧ Tk S W0 os w' := by
  have hr : rcB D d = false := by unfold rcB; simpa using hb
  have := tk_uclear d w h hi
  rw [show ucC D d = 1300 by simp [ucC, rcC, hr, toC], show rcT D T d = T by simp [rcT, hr], show ucF D n F d = F by simp [ucF, hr], set_same hi] at this
  exact this

def fT0 : List Ro := newT
def fT1 : List Ro := urT 2 2 fT0 1 1 1
def fT2 : List Ro := urT 2 2 fT1 1 2 1

set_option maxHeartbeats 4000000 in
theorem law_IrqForms (a x : Int) (w0 : (Lit.int .i64 a).wf = true) (w1 : (Lit.int .i64 x).wf = true) (w : World) :
    Calls Try.prog 5 #[.int .i64 a, .int .i64 x] w fun e w' => e = .returned (.bool true) ∧ Below w.heap.size w w' := by
  have hX := band x 1023 (by omega) (by omega)
  have hU := u64b a
  generalize hX' : bits BinOp.and IntKind.i64 x 1023 = X at hX
  generalize hU' : IntKind.u64.wrap a = U at hU
  obtain ⟨hX0, hX1⟩ := hX
  obtain ⟨hU0, hU1⟩ := hU
  have hI0 : 0 ≤ U % 7 := by omega
  have hI1 : U % 7 < 7 := by omega
  generalize hI' : U % 7 = I at hI0 hI1
  clear w0 w1
  go_enter Try.func5, Try.ntmps5
  go_wp2_with fail
  refine (irawake_any _).mono ?_
  rintro e wa ⟨rfl, ba⟩
  have BA := Lib.hid ba
  clear ba
  go_wp2_with fail
  refine (unew_no _ _ _ (by omega)).mono ?_
  rintro e wb ⟨rfl, b⟩
  have BB := Lib.hid (Below.down BA.out b BA.out.size)
  clear b BA
  go_wp2_with fail
  refine (unew_no _ _ _ (by omega)).mono ?_
  rintro e wc ⟨rfl, b⟩
  have BC := Lib.hid (Below.down BB.out b BB.out.size)
  clear b BB
  go_wp2_with fail
  refine (unew_no _ _ _ (by omega)).mono ?_
  rintro e wd ⟨rfl, b⟩
  have BD := Lib.hid (Below.down BC.out b BC.out.size)
  clear b BC
  go_wp2_with fail
  have hN : Calls Try.prog 8 #[.int .i64 2, .int .i64 2] wd fun e w' => ∃ u, e = .returned (.tuple #[.pointer (some ⟨u, 0, none⟩), .int .i64 0]) ∧ Tk nos wd [obU u 2 2 fT0 noF] w' := unew_yes 2 2 wd (by decide) (by decide) (by decide) (by decide)
  refine hN.mono ?_
  clear hN
  rintro e w1 ⟨u, rfl, t⟩
  have L := Lib.hid t
  clear t
  go_wp2_with fail
  refine (num_any _ _).mono ?_
  rintro e w' ⟨rfl, rfl⟩
  go_wp2_with fail
  refine (tk_uroute_is (i := 0) (os' := [obU u 2 2 fT1 noF]) 1 1 1 0 w1 L.out rfl (by kernel_rfl) rfl).mono ?_
  rintro e w2 ⟨rfl, t⟩
  clear L
  have L := Lib.hid t
  clear t hX' hU'
  go_wp2_with fail
  · refine (tk_uraise_no (i := 0) _ _ _ w2 L.out rfl (by omega)).mono ?_
    rintro e w3 ⟨rfl, t⟩
    clear L
    have L := Lib.hid t
    clear t
    go_wp2_with fail
    refine (tk_uroute_no (i := 0) _ _ _ w3 L.out rfl (by omega)).mono ?_
    rintro e w4 ⟨rfl, t⟩
    clear L
    have L := Lib.hid t
    clear t
    go_wp2_with fail
    refine (tk_uclear_no (i := 0) _ w4 L.out rfl (by omega)).mono ?_
    rintro e w5 ⟨rfl, t⟩
    clear L
    have L := Lib.hid t
    clear t
    go_wp2_with (go_at_call 10; refine (num_any _ _).mono ?_; rintro e w' ⟨rfl, rfl⟩)
    refine (tk_udeliver_is (i := 0) (os' := [obU u 2 2 fT1 (udF 2 2 fT1 noF 1)]) 1 3 [] w5 L.out rfl (by kernel_rfl) rfl).mono ?_
    rintro e w6 ⟨y, rfl, t⟩
    obtain ⟨A, cp, rfl, -⟩ : ∃ A cp, y = .slice A 0 cp ∧ True := by obtain ⟨A, c, e, -⟩ := t.sl (i := 0) rfl; exact ⟨A, c, e, trivial⟩
    have BE := Lib.hid (Below.down BD.out t.below BD.out.size)
    clear t L BD
    go_wp2_with fail
    go_ret
    exact ⟨rfl, BE.out⟩
  · refine (tk_uraise_no (i := 0) _ _ _ w2 L.out rfl (by omega)).mono ?_
    rintro e w3 ⟨rfl, t⟩
    clear L
    have L := Lib.hid t
    clear t
    go_wp2_with fail
    refine (tk_uroute_no (i := 0) _ _ _ w3 L.out rfl (by omega)).mono ?_
    rintro e w4 ⟨rfl, t⟩
    clear L
    have L := Lib.hid t
    clear t
    go_wp2_with fail
    refine (tk_uclear_no (i := 0) _ w4 L.out rfl (by omega)).mono ?_
    rintro e w5 ⟨rfl, t⟩
    clear L
    have L := Lib.hid t
    clear t
    go_wp2_with (go_at_call 10; refine (num_any _ _).mono ?_; rintro e w' ⟨rfl, rfl⟩)
    refine (tk_udeliver_is (i := 0) (os' := [obU u 2 2 fT1 (udF 2 2 fT1 noF 1)]) 1 3 [] w5 L.out rfl (by kernel_rfl) rfl).mono ?_
    rintro e w6 ⟨y, rfl, t⟩
    obtain ⟨A, cp, rfl, -⟩ : ∃ A cp, y = .slice A 0 cp ∧ True := by obtain ⟨A, c, e, -⟩ := t.sl (i := 0) rfl; exact ⟨A, c, e, trivial⟩
    have BE := Lib.hid (Below.down BD.out t.below BD.out.size)
    clear t L BD
    go_wp2_with fail
    go_ret
    exact ⟨rfl, BE.out⟩
  · refine (tk_uraise_no (i := 0) _ _ _ w2 L.out rfl (by omega)).mono ?_
    rintro e w3 ⟨rfl, t⟩
    clear L
    have L := Lib.hid t
    clear t
    go_wp2_with fail
    refine (tk_uroute_no (i := 0) _ _ _ w3 L.out rfl (by omega)).mono ?_
    rintro e w4 ⟨rfl, t⟩
    clear L
    have L := Lib.hid t
    clear t
    go_wp2_with fail
    refine (tk_uclear_no (i := 0) _ w4 L.out rfl (by omega)).mono ?_
    rintro e w5 ⟨rfl, t⟩
    clear L
    have L := Lib.hid t
    clear t
    go_wp2_with (go_at_call 10; refine (num_any _ _).mono ?_; rintro e w' ⟨rfl, rfl⟩)
    refine (tk_udeliver_is (i := 0) (os' := [obU u 2 2 fT1 (udF 2 2 fT1 noF 1)]) 1 3 [] w5 L.out rfl (by kernel_rfl) rfl).mono ?_
    rintro e w6 ⟨y, rfl, t⟩
    obtain ⟨A, cp, rfl, -⟩ : ∃ A cp, y = .slice A 0 cp ∧ True := by obtain ⟨A, c, e, -⟩ := t.sl (i := 0) rfl; exact ⟨A, c, e, trivial⟩
    have BE := Lib.hid (Below.down BD.out t.below BD.out.size)
    clear t L BD
    go_wp2_with fail
    go_ret
    exact ⟨rfl, BE.out⟩
  · refine (tk_uraise_no (i := 0) _ _ _ w2 L.out rfl (by omega)).mono ?_
    rintro e w3 ⟨rfl, t⟩
    clear L
    have L := Lib.hid t
    clear t
    go_wp2_with fail
    refine (tk_uroute_no (i := 0) _ _ _ w3 L.out rfl (by omega)).mono ?_
    rintro e w4 ⟨rfl, t⟩
    clear L
    have L := Lib.hid t
    clear t
    go_wp2_with fail
    refine (tk_uclear_no (i := 0) _ w4 L.out rfl (by omega)).mono ?_
    rintro e w5 ⟨rfl, t⟩
    clear L
    have L := Lib.hid t
    clear t
    go_wp2_with (go_at_call 10; refine (num_any _ _).mono ?_; rintro e w' ⟨rfl, rfl⟩)
    refine (tk_udeliver_is (i := 0) (os' := [obU u 2 2 fT1 (udF 2 2 fT1 noF 1)]) 1 3 [] w5 L.out rfl (by kernel_rfl) rfl).mono ?_
    rintro e w6 ⟨y, rfl, t⟩
    obtain ⟨A, cp, rfl, -⟩ : ∃ A cp, y = .slice A 0 cp ∧ True := by obtain ⟨A, c, e, -⟩ := t.sl (i := 0) rfl; exact ⟨A, c, e, trivial⟩
    have BE := Lib.hid (Below.down BD.out t.below BD.out.size)
    clear t L BD
    go_wp2_with fail
    go_ret
    exact ⟨rfl, BE.out⟩
  · refine (tk_uraise_no (i := 0) _ _ _ w2 L.out rfl (by omega)).mono ?_
    rintro e w3 ⟨rfl, t⟩
    clear L
    have L := Lib.hid t
    clear t
    go_wp2_with fail
    refine (tk_uroute_no (i := 0) _ _ _ w3 L.out rfl (by omega)).mono ?_
    rintro e w4 ⟨rfl, t⟩
    clear L
    have L := Lib.hid t
    clear t
    go_wp2_with fail
    refine (tk_uclear_no (i := 0) _ w4 L.out rfl (by omega)).mono ?_
    rintro e w5 ⟨rfl, t⟩
    clear L
    have L := Lib.hid t
    clear t
    go_wp2_with (go_at_call 10; refine (num_any _ _).mono ?_; rintro e w' ⟨rfl, rfl⟩)
    refine (tk_udeliver_is (i := 0) (os' := [obU u 2 2 fT1 (udF 2 2 fT1 noF 1)]) 1 3 [] w5 L.out rfl (by kernel_rfl) rfl).mono ?_
    rintro e w6 ⟨y, rfl, t⟩
    obtain ⟨A, cp, rfl, -⟩ : ∃ A cp, y = .slice A 0 cp ∧ True := by obtain ⟨A, c, e, -⟩ := t.sl (i := 0) rfl; exact ⟨A, c, e, trivial⟩
    have BE := Lib.hid (Below.down BD.out t.below BD.out.size)
    clear t L BD
    go_wp2_with fail
    go_ret
    exact ⟨rfl, BE.out⟩
  · refine (tk_uraise_no (i := 0) _ _ _ w2 L.out rfl (by omega)).mono ?_
    rintro e w3 ⟨rfl, t⟩
    clear L
    have L := Lib.hid t
    clear t
    go_wp2_with fail
    refine (tk_uroute_no (i := 0) _ _ _ w3 L.out rfl (by omega)).mono ?_
    rintro e w4 ⟨rfl, t⟩
    clear L
    have L := Lib.hid t
    clear t
    go_wp2_with fail
    refine (tk_uclear_no (i := 0) _ w4 L.out rfl (by omega)).mono ?_
    rintro e w5 ⟨rfl, t⟩
    clear L
    have L := Lib.hid t
    clear t
    go_wp2_with (go_at_call 10; refine (num_any _ _).mono ?_; rintro e w' ⟨rfl, rfl⟩)
    refine (tk_udeliver_is (i := 0) (os' := [obU u 2 2 fT1 (udF 2 2 fT1 noF 1)]) 1 3 [] w5 L.out rfl (by kernel_rfl) rfl).mono ?_
    rintro e w6 ⟨y, rfl, t⟩
    obtain ⟨A, cp, rfl, -⟩ : ∃ A cp, y = .slice A 0 cp ∧ True := by obtain ⟨A, c, e, -⟩ := t.sl (i := 0) rfl; exact ⟨A, c, e, trivial⟩
    have BE := Lib.hid (Below.down BD.out t.below BD.out.size)
    clear t L BD
    go_wp2_with fail
    go_ret
    exact ⟨rfl, BE.out⟩
  · refine (tk_uraise_is (i := 0) (os' := [obU u 2 2 fT1 (uaF 2 2 fT1 noF 1 2 1)]) 1 2 1 1301 w2 L.out rfl (by kernel_rfl) rfl).mono ?_
    rintro e w3 ⟨rfl, t⟩
    clear L
    have L := Lib.hid t
    clear t
    go_wp2_with fail
    refine (tk_uroute_is (i := 0) (os' := [obU u 2 2 fT2 (uaF 2 2 fT1 noF 1 2 1)]) 1 2 1 0 w3 L.out rfl (by kernel_rfl) rfl).mono ?_
    rintro e w4 ⟨rfl, t⟩
    clear L
    have L := Lib.hid t
    clear t
    go_wp2_with fail
    refine (tk_uclear_no (i := 0) _ w4 L.out rfl (by omega)).mono ?_
    rintro e w5 ⟨rfl, t⟩
    clear L
    have L := Lib.hid t
    clear t
    go_wp2_with (go_at_call 10; refine (num_any _ _).mono ?_; rintro e w' ⟨rfl, rfl⟩)
    refine (tk_udeliver_is (i := 0) (os' := [obU u 2 2 fT2 (udF 2 2 fT2 (uaF 2 2 fT1 noF 1 2 1) 1)]) 1 3 [] w5 L.out rfl (by kernel_rfl) rfl).mono ?_
    rintro e w6 ⟨y, rfl, t⟩
    obtain ⟨A, cp, rfl, -⟩ : ∃ A cp, y = .slice A 0 cp ∧ True := by obtain ⟨A, c, e, -⟩ := t.sl (i := 0) rfl; exact ⟨A, c, e, trivial⟩
    have BE := Lib.hid (Below.down BD.out t.below BD.out.size)
    clear t L BD
    go_wp2_with fail
    go_ret
    exact ⟨rfl, BE.out⟩
end Go.Proofs.Ytjmdgjpepogogaa
