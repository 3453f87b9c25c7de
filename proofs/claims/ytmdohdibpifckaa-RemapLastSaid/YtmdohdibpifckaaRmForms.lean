/-
  Layer 11's law RemapForms: it answers true for every input.
-/
import Derived.Test.YtmdohdibpifckaaRmAwake
namespace Go.Proofs.Ytmdohdibpifckaa
open Go.RowKit
set_option linter.unusedVariables false
set_option maxRecDepth 100000

/-- The law's table. -/
def rmF : List Ro := rsT 2 newT 1 2 3
theorem rsB_no (D : Nat) (d v p : Int) (h : ¬ (0 ≤ d ∧ d < D ∧ 0 ≤ v ∧ v < 8 ∧ 0 ≤ p ∧ p < 4)) : rsB D d v p = false := by
  simp only [rsB, inR, Bool.and_eq_false_iff, decide_eq_false_iff_not]; omega
theorem pmclear_no (g D : Nat) (T : List Ro) (d : Int) (w : World) (h : PR w g D T) (hb : ¬ (0 ≤ d ∧ d < D)) :
    Calls Try.prog 17 #[.pointer (some ⟨g, 0, none⟩), .int .i64 d] w fun e w' => e = .returned (.int .i64 1100) ∧ PR w' g D T ∧ w.grownBy w' (some g) := by
  have hb' : rcB D d = false := decide_eq_false hb
  exact pmclear_is g D T T d 1100 w h (by simp [rcT, hb']) (by simp [rcC, hb'])

set_option maxHeartbeats 4000000 in
theorem law_RemapForms (a x : Int) (w0 : (Lit.int .i64 a).wf = true) (w1 : (Lit.int .i64 x).wf = true) (w : World) :
    Calls Try.prog 5 #[.int .i64 a, .int .i64 x] w fun e w' => e = .returned (.bool true) ∧ Below w.heap.size w w' := by
  have hX := band x 1023 (by omega) (by omega)
  have hU := u64b a
  generalize hX' : bits BinOp.and IntKind.i64 x 1023 = X at hX
  generalize hU' : IntKind.u64.wrap a = U at hU
  obtain ⟨hX0, hX1⟩ := hX
  obtain ⟨hU0, hU1⟩ := hU
  have hI0 : 0 ≤ U % 6 := by omega
  have hI1 : U % 6 < 6 := by omega
  generalize hI' : U % 6 = I at hI0 hI1
  clear w0 w1
  go_enter Try.func5, Try.ntmps5
  go_wp2_with fail
  refine (rmawake_any _).mono ?_
  rintro e wa ⟨rfl, ba⟩
  have hsa := ba.size
  go_wp2_with fail
  refine (pmnew_no _ _ (by omega)).mono ?_
  rintro e w' ⟨rfl, rfl⟩
  go_wp2_with fail
  refine (pmnew_no _ _ (by omega)).mono ?_
  rintro e w' ⟨rfl, rfl⟩
  go_wp2_with fail
  refine (pmnew 2 _ (by omega) (by omega)).mono ?_
  rintro e w1 ⟨rfl, t1, b1⟩
  have b1' := Below.down ba b1 hsa
  generalize hg : wa.heap.size = g at *
  rw [show (2 : Int).toNat = 2 from rfl] at t1
  have s1 : RtS w g 2 newT w1 := ⟨t1, b1', by omega⟩
  clear t1 b1 b1' ba hsa hg
  go_wp2_with fail
  refine (num_any _ _).mono ?_
  rintro e w' ⟨rfl, rfl⟩
  go_wp2_with fail
  refine (pmset_is g 2 _ rmF 1 2 3 0 _ s1.t rfl rfl).mono ?_
  rintro e w2 ⟨rfl, t2, g2⟩
  have s2 := s1.put t2 g2
  clear s1 t2 g2 hX' hU'
  go_wp2_with fail
  all_goals
    refine (pmset_no g 2 _ _ _ _ _ s2.t (rsB_no _ _ _ _ (by omega))).mono ?_
    rintro e w' ⟨rfl, rfl⟩
    go_wp2_with fail
    refine (pmclear_no g 2 _ _ _ s2.t (by omega)).mono ?_
    rintro e w3 ⟨rfl, t3, g3⟩
    have s3 := s2.put t3 g3
    clear s2 t3 g3
    go_wp2_with fail
    refine (pmlook_is g 2 _ 1 2 3 0 false _ s3.t rfl rfl rfl).mono ?_
    rintro e w' ⟨rfl, q, rfl⟩
    replace s3 := s3.drewN q
    generalize w3.drewN q = w4 at *
    go_wp2_with (go_at_call 9; refine (num_any _ _).mono ?_; rintro e w' ⟨rfl, rfl⟩)
    go_ret
    exact ⟨rfl, s3.b⟩

end Go.Proofs.Ytmdohdibpifckaa
