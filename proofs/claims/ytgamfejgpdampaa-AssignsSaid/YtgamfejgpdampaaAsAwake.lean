/-
  The law package's own check of layer 15: it answers true.
-/
import Derived.Test.YtgamfejgpdampaaAs4
import Derived.Test.YtgamfejgpdampaaNum
import Derived.Test.YtgamfejgpdampaaInts
namespace Go.Proofs.Ytgamfejgpdampaa
open Go.RowKit Go.ChangeMaps
set_option linter.unusedVariables false
set_option maxRecDepth 100000

theorem anew_yes_is (q P n : Nat) (v : Value) (zs : List Int) (w : World) (hv : Sl w v n 1 (ints zs)) (h : (decide (1 ≤ q ∧ q ≤ 8 ∧ 1 ≤ P ∧ P ≤ 4 ∧ 1 ≤ n ∧ n ≤ 4) && (List.range n).all (fun j => adB P (zs.getD j 0))) = true) :
    Calls Try.prog 7 #[.int .i64 q, .int .i64 P, v] w fun e w' => ∃ g, e = .returned (.tuple #[.pointer (some ⟨g, 0, none⟩), .int .i64 0]) ∧ Tk nos w [obPA g q P n (zO zs n) noN] w' := by
  rw [Bool.and_eq_true, decide_eq_true_eq, List.all_eq_true] at h
  obtain ⟨⟨a, b, c, d, e, f⟩, hz⟩ := h
  exact anew_yes q P v n zs w hv a b c d e f (fun j hj => hz j (List.mem_range.2 hj))
/-- A slice of two, three, ints that a law writes out. -/
theorem lit_ints (w : World) (l : List Int) (n : Nat) (h : l.length = n) : Sl (w.alloc (.cells (ints l).toArray 3)) (.slice (some ⟨w.heap.size, 0, none⟩) n n) n 1 (ints l) := Sl.lit w _ _ _ _ (by rw [ints_len, h, Nat.mul_one])

def aw0 : Nat → Int := zO [0, 1] 2
def awO : Nat → Int := amO 2 3 aw0 noN 1 2
def awL : Nat → Nat := amL 2 3 2 noN 1 2
def awO1 : Nat → Int := amO 2 3 awO awL 1 0
def awL1 : Nat → Nat := amL 2 3 2 awL 1 0
def awO2 : Nat → Int := amO 2 3 awO1 awL1 2 0
def awL2 : Nat → Nat := amL 2 3 2 awL1 2 0
def awL3 : Nat → Nat := atL awL2 2
def awL4 : Nat → Nat := atL awL3 2

set_option maxHeartbeats 4000000 in
theorem asawake_any (w : World) :
    Calls Try.prog 10 #[] w fun e w' => e = .returned (.bool true) ∧ Below w.heap.size w w' := by
  have t0 := (Tk.empty w).alloc 3 (ints [0, 1])
  have hN : Calls Try.prog 7 #[.int .i64 2, .int .i64 3, .slice (some ⟨w.heap.size, 0, none⟩) 2 2] (w.alloc (.cells (ints [0, 1]).toArray 3)) fun e w' => ∃ g, e = .returned (.tuple #[.pointer (some ⟨g, 0, none⟩), .int .i64 0]) ∧ Tk nos (w.alloc (.cells (ints [0, 1]).toArray 3)) [obPA g 2 3 2 aw0 noN] w' := anew_yes_is 2 3 2 _ [0, 1] _ (lit_ints w [0, 1] 2 rfl) (by decide)
  have T0 := Lib.hid t0
  clear t0
  go_enter Try.func10, Try.ntmps10
  go_wp2_with fail
  change Calls _ _ _ (w.alloc (.cells (ints [0, 1]).toArray 3)) _
  refine hN.mono ?_
  clear hN
  rintro e w1 ⟨g, rfl, t⟩
  have T := Lib.hid (show Tk nos w [obPA g 2 3 2 aw0 noN] w1 from (T0.out.add t).drop 1)
  clear t T0
  go_wp2_with fail
  have cF := anew_form 0 3 _ 1 [0] _ (lit_ints w1 [0] 1 rfl) (by omega)
  change Calls _ _ _ (w1.alloc (.cells (ints [0]).toArray 3)) _
  refine cF.mono ?_
  rintro e w' ⟨rfl, rfl⟩
  have T2 := Lib.hid (show Tk nos w [obPA g 2 3 2 aw0 noN] (w1.alloc (.cells (ints [0]).toArray 3)) from (T.out.alloc 3 (ints [0])).tail)
  clear T cF
  generalize w1.alloc (.cells (ints [0]).toArray 3) = w2 at *
  go_wp2_with fail
  refine (num_any 0 w2).mono ?_
  rintro e w' ⟨rfl, rfl⟩
  go_wp2_with fail
  refine (tk_amove_is (i := 0) (os' := [obPA g 2 3 2 awO awL]) 1 2 0 w2 T2.out rfl (by decide) rfl).mono ?_
  rintro e w3 ⟨rfl, t⟩
  have T := Lib.hid t
  clear t T2
  go_wp2_with fail
  refine (tk_amove_is (i := 0) (os' := [obPA g 2 3 2 awO1 awL1]) 1 0 1501 w3 T.out rfl (by decide) rfl).mono ?_
  rintro e w4 ⟨rfl, t⟩
  have T2 := Lib.hid t
  clear t T
  go_wp2_with fail
  refine (tk_amove_is (i := 0) (os' := [obPA g 2 3 2 awO2 awL2]) 2 0 1500 w4 T2.out rfl (by decide) rfl).mono ?_
  rintro e w5 ⟨rfl, t⟩
  have T := Lib.hid t
  clear t T2
  go_wp2_with fail
  refine (tk_aowner_is (i := 0) 1 (-1) w5 T.out rfl (by decide)).mono ?_
  rintro e w6 ⟨rfl, t⟩
  have T2 := Lib.hid t
  clear t T
  go_wp2_with fail
  refine (tk_aphase_is (i := 0) 1 1 0 w6 T2.out rfl (by decide) (by decide)).mono ?_
  rintro e w' ⟨rfl, rfl⟩
  go_wp2_with fail
  refine (tk_atick_is (i := 0) (l := []) (os' := [obPA g 2 3 2 awO2 awL3]) w6 T2.out rfl (by decide) rfl).mono ?_
  rintro e w7 ⟨v1, rfl, t⟩
  obtain ⟨A1, c1, rfl, -⟩ := t.sl (i := 0) rfl
  have T := Lib.hid t
  clear t T2
  go_wp2_with fail
  refine (tk_atick_is (i := 1) (l := [1]) (os' := [obJ (.slice A1 ([] : List Int).length c1) [], obPA g 2 3 2 awO2 awL4]) w7 T.out rfl (by decide) rfl).mono ?_
  rintro e w8 ⟨v2, rfl, t⟩
  have T2 := Lib.hid t
  clear t T
  go_wp2_with fail
  refine (tk_aphase_is (i := 2) 1 0 0 w8 T2.out rfl (by decide) (by decide)).mono ?_
  rintro e w' ⟨rfl, rfl⟩
  go_wp2_with (go_at_call 9; refine (num_any _ _).mono ?_; rintro e w' ⟨rfl, rfl⟩)
  change Calls _ _ _ (w8.alloc (.cells (ints [1]).toArray 3)) _
  have t9 := T2.out.alloc 3 (ints [1])
  have cS := same_ints v2 (.slice (some ⟨w8.heap.size, 0, none⟩) 1 1) [1] _ (t9.sl (i := 1) rfl) (lit_ints w8 [1] 1 rfl) (by decide)
  have T9 := Lib.hid t9
  clear T2 t9
  generalize w8.alloc (.cells (ints [1]).toArray 3) = w9 at *
  generalize w8.heap.size = q9 at *
  refine cS.mono ?_
  clear cS
  rintro e w' ⟨rfl, nq, rfl⟩
  have T := Lib.hid (T9.out.drewN nq)
  clear T9
  generalize w9.drewN nq = wa at *
  go_wp2_with fail
  refine (tk_aowner_is (i := 3) 1 2 wa T.out rfl (by decide)).mono ?_
  rintro e wb ⟨rfl, t⟩
  have T2 := Lib.hid t
  clear t T
  go_wp2_with fail
  refine (tk_aowner_is (i := 3) 0 0 wb T2.out rfl (by decide)).mono ?_
  rintro e wc ⟨rfl, t⟩
  have T := Lib.hid t
  clear t T2
  go_wp2_with fail
  refine (tk_aowner_is (i := 3) 5 (-1) wc T.out rfl (by decide)).mono ?_
  rintro e wd ⟨rfl, t⟩
  have T2 := Lib.hid t
  clear t T
  go_wp2_with (go_at_call 9; refine (num_any _ _).mono ?_; rintro e w' ⟨rfl, rfl⟩)
  go_ret
  exact ⟨rfl, T2.out.below⟩
end Go.Proofs.Ytgamfejgpdampaa
