/-
  The law package's own check of layer 13: it answers true.
-/
import Derived.Test.YtjmdgjpepogogaaIr3
import Derived.Test.YtjmdgjpepogogaaPi1
import Derived.Test.YtjmdgjpepogogaaNum
namespace Go.Proofs.Ytjmdgjpepogogaa
open Go.RowKit Go.ChangeMaps
set_option linter.unusedVariables false
set_option maxRecDepth 100000

/-! What stands and waits in awake, call by call. -/
def aT0 : List Ro := newT
def aF0 : Nat → Bool := noF
def aT1 : List Ro := urT 2 2 aT0 1 3 1
def aF2 : Nat → Bool := uaF 2 2 aT1 aF0 1 3 1
def aF3 : Nat → Bool := uaF 2 2 aT1 aF2 1 3 0
def aF4 : Nat → Bool := uaF 2 2 aT1 aF3 1 4 1
def aT5 : List Ro := rmT 2 aT1 1 3 true
def aF6 : Nat → Bool := udF 2 2 aT5 aF4 1
def aT7 : List Ro := rmT 2 aT5 1 3 false
def aF8 : Nat → Bool := udF 2 2 aT7 aF6 1
def aT9 : List Ro := urT 2 2 aT7 1 3 2
def aF10 : Nat → Bool := uaF 2 2 aT9 aF8 1 3 1
def aT11 : List Ro := ruT 2 aT9 1 3
def aF11 : Nat → Bool := uuF 2 2 aT9 aF10 1 3
def aF12 : Nat → Bool := udF 2 2 aT11 aF11 1
def aT13 : List Ro := rcT 2 aT11 2
def aF13 : Nat → Bool := ucF 2 2 aF12 2

set_option maxHeartbeats 4000000 in
theorem irawake_any (w : World) :
    Calls Try.prog 11 #[] w fun e w' => e = .returned (.bool true) ∧ Below w.heap.size w w' := by
  have hN : Calls Try.prog 8 #[.int .i64 2, .int .i64 2] w fun e w' => ∃ u, e = .returned (.tuple #[.pointer (some ⟨u, 0, none⟩), .int .i64 0]) ∧ Tk nos w [obU u 2 2 aT0 aF0] w' := unew_yes 2 2 w (by decide) (by decide) (by decide) (by decide)
  go_enter Try.func11, Try.ntmps11
  go_wp2_with fail
  refine hN.mono ?_
  clear hN
  rintro e w0 ⟨u, rfl, t⟩
  have L := Lib.hid t
  clear t
  go_wp2_with fail
  refine (unew_no 0 2 w0 (by decide)).mono ?_
  rintro e w1 ⟨rfl, b⟩
  have L := Lib.hid (L.out.next b)
  clear b
  go_wp2_with fail
  refine (num_any 0 w1).mono ?_
  rintro e w' ⟨rfl, rfl⟩
  go_wp2_with fail
  refine (tk_uroute_is (i := 0) (os' := [obU u 2 2 aT1 aF0]) 1 3 1 0 w1 L.out rfl (by kernel_rfl) rfl).mono ?_
  rintro e w2 ⟨rfl, t⟩
  clear L
  have L := Lib.hid t
  clear t
  go_wp2_with fail
  refine (tk_uraise_is (i := 0) (os' := [obU u 2 2 aT1 aF2]) 1 3 1 0 w2 L.out rfl (by kernel_rfl) rfl).mono ?_
  rintro e w3 ⟨rfl, t⟩
  clear L
  have L := Lib.hid t
  clear t
  go_wp2_with fail
  refine (tk_uraise_is (i := 0) (os' := [obU u 2 2 aT1 aF3]) 1 3 0 1301 w3 L.out rfl (by kernel_rfl) rfl).mono ?_
  rintro e w4 ⟨rfl, t⟩
  clear L
  have L := Lib.hid t
  clear t
  go_wp2_with fail
  refine (tk_uraise_is (i := 0) (os' := [obU u 2 2 aT1 aF4]) 1 4 1 1301 w4 L.out rfl (by kernel_rfl) rfl).mono ?_
  rintro e w5 ⟨rfl, t⟩
  clear L
  have L := Lib.hid t
  clear t
  go_wp2_with fail
  refine (tk_umask_is (i := 0) (os' := [obU u 2 2 aT5 aF4]) 1 3 true 0 w5 L.out rfl (by kernel_rfl) rfl).mono ?_
  rintro e w6 ⟨rfl, t⟩
  clear L
  have L := Lib.hid t
  clear t
  go_wp2_with fail
  refine (tk_udeliver_is (i := 0) (os' := [obU u 2 2 aT5 aF6]) 1 5 [] w6 L.out rfl (by kernel_rfl) rfl).mono ?_
  rintro e w7 ⟨x6, rfl, t⟩
  obtain ⟨A6, cp6, rfl, -⟩ : ∃ A cp, x6 = .slice A 0 cp ∧ True := by obtain ⟨A, c, e, -⟩ := t.sl (i := 0) rfl; exact ⟨A, c, e, trivial⟩
  clear L
  have L := Lib.hid t.tail
  clear t
  go_wp2_with fail
  refine (tk_umask_is (i := 0) (os' := [obU u 2 2 aT7 aF6]) 1 3 false 0 w7 L.out rfl (by kernel_rfl) rfl).mono ?_
  rintro e w8 ⟨rfl, t⟩
  clear L
  have L := Lib.hid t
  clear t
  go_wp2_with fail
  refine (tk_udeliver_is (i := 0) (os' := [obU u 2 2 aT7 aF8]) 1 6 [⟨6, 1, 3⟩] w8 L.out rfl (by kernel_rfl) rfl).mono ?_
  rintro e w9 ⟨xs, rfl, t⟩
  clear L
  have L := Lib.hid t
  clear t
  go_wp2_with fail
  refine (tk_uroute_is (i := 1) (os' := [obI xs [⟨6, 1, 3⟩], obU u 2 2 aT9 aF8]) 1 3 2 1300 w9 L.out rfl (by kernel_rfl) rfl).mono ?_
  rintro e w10 ⟨rfl, t⟩
  clear L
  have L := Lib.hid t
  clear t
  go_wp2_with fail
  refine (tk_uraise_is (i := 1) (os' := [obI xs [⟨6, 1, 3⟩], obU u 2 2 aT9 aF10]) 1 3 1 0 w10 L.out rfl (by kernel_rfl) rfl).mono ?_
  rintro e w11 ⟨rfl, t⟩
  clear L
  have L := Lib.hid t
  clear t
  go_wp2_with fail
  refine (tk_uunroute_is (i := 1) (os' := [obI xs [⟨6, 1, 3⟩], obU u 2 2 aT11 aF11]) 1 3 0 w11 L.out rfl (by kernel_rfl) rfl).mono ?_
  rintro e w12 ⟨rfl, t⟩
  clear L
  have L := Lib.hid t
  clear t
  go_wp2_with fail
  refine (tk_udeliver_is (i := 1) (os' := [obI xs [⟨6, 1, 3⟩], obU u 2 2 aT11 aF12]) 1 7 [] w12 L.out rfl (by kernel_rfl) rfl).mono ?_
  rintro e w13 ⟨x12, rfl, t⟩
  obtain ⟨A12, cp12, rfl, -⟩ : ∃ A cp, x12 = .slice A 0 cp ∧ True := by obtain ⟨A, c, e, -⟩ := t.sl (i := 0) rfl; exact ⟨A, c, e, trivial⟩
  clear L
  have L := Lib.hid t.tail
  clear t
  go_wp2_with fail
  refine (tk_uclear_is (i := 1) (os' := [obI xs [⟨6, 1, 3⟩], obU u 2 2 aT13 aF13]) 2 1300 w13 L.out rfl (by kernel_rfl) rfl).mono ?_
  rintro e w14 ⟨rfl, t⟩
  clear L
  have L := Lib.hid t
  clear t
  go_wp2_with (go_at_call 10; refine (num_any _ _).mono ?_; rintro e w' ⟨rfl, rfl⟩)
  change Calls _ _ _ (w14.alloc (.cells (iqs [⟨6, 1, 3⟩]).toArray 46)) _
  have b10 : Below w14.heap.size w14 (w14.alloc (.cells (iqs [⟨6, 1, 3⟩]).toArray 46)) := (Below.refl _ _).alloc (Nat.le_refl _) _
  have s10 : Sl (w14.alloc (.cells (iqs [⟨6, 1, 3⟩]).toArray 46)) (.slice (some ⟨w14.heap.size, 0, none⟩) 1 1) 1 3 (iqs [⟨6, 1, 3⟩]) := Sl.lit w14 (iqs [⟨6, 1, 3⟩]) 1 3 46 rfl
  have l10 := L.out.next b10
  clear L b10
  generalize w14.alloc (.cells (iqs [⟨6, 1, 3⟩]).toArray 46) = wa at *
  have c10 := same_iqs xs _ 1 [⟨6, 1, 3⟩] wa (l10.sl (i := 0) rfl) s10 rfl (by decide)
  generalize w14.heap.size = g10 at *
  refine c10.mono ?_
  clear c10 s10
  rintro e w' ⟨rfl, q10, rfl⟩
  have L := Lib.hid (l10.drewN q10).below
  clear l10
  generalize wa.drewN q10 = wb at *
  go_wp2_with (go_at_call 10; refine (num_any _ _).mono ?_; rintro e w' ⟨rfl, rfl⟩)
  go_ret
  exact ⟨rfl, L.out⟩
end Go.Proofs.Ytjmdgjpepogogaa
