/-
  The law package's own check of layer 14: it answers true.
-/
import Derived.Test.YtocjkanhciohmaaRg0
import Derived.Test.YtocjkanhciohmaaNum
namespace Go.Proofs.Ytocjkanhciohmaa
open Go.RowKit
set_option linter.unusedVariables false
set_option maxRecDepth 100000

set_option maxHeartbeats 4000000 in
theorem rgawake_any (w : World) :
    Calls Try.prog 9 #[] w fun e w' => e = .returned (.bool true) ∧ Below w.heap.size w w' := by
  have hN : Calls Try.prog 6 #[.int .i64 2] w fun e w' => ∃ g, e = .returned (.tuple #[.pointer (some ⟨g, 0, none⟩), .int .i64 0]) ∧ Tk nos w [obPG g 2 noI] w' := gnew_yes 2 w (by decide) (by decide)
  go_enter Try.func9, Try.ntmps9
  go_wp2_with fail
  refine hN.mono ?_
  clear hN
  rintro e w1 ⟨g, rfl, t⟩
  have L := Lib.hid t
  clear t
  go_wp2_with fail
  refine (gnew_no 5 w1 (by decide)).mono ?_
  rintro e w' ⟨rfl, rfl⟩
  go_wp2_with fail
  refine (num_any 0 w1).mono ?_
  rintro e w' ⟨rfl, rfl⟩
  go_wp2_with fail
  refine (tk_gwrite_is (i := 0) (os' := [obPG g 2 (iF noI 11 77)]) 1 3 77 0 w1 L.out rfl (by decide) rfl).mono ?_
  rintro e w2 ⟨rfl, t⟩
  clear L
  have L := Lib.hid t
  clear t
  go_wp2_with fail
  refine (tk_gwrite_is (i := 0) (os' := [obPG g 2 (iF noI 11 77)]) 1 8 1 1400 w2 L.out rfl (by decide) rfl).mono ?_
  rintro e w3 ⟨rfl, t⟩
  clear L
  have L := Lib.hid t
  clear t
  go_wp2_with fail
  refine (tk_gwrite_is (i := 0) (os' := [obPG g 2 (iF noI 11 77)]) 1 3 65536 1400 w3 L.out rfl (by decide) rfl).mono ?_
  rintro e w4 ⟨rfl, t⟩
  clear L
  have L := Lib.hid t
  clear t
  go_wp2_with fail
  refine (tk_gread_is (i := 0) 1 3 77 0 w4 L.out rfl (by decide) (by decide)).mono ?_
  rintro e w' ⟨rfl, rfl⟩
  go_wp2_with fail
  refine (tk_gread_is (i := 0) 2 0 0 1400 w4 L.out rfl (by decide) (by decide)).mono ?_
  rintro e w' ⟨rfl, rfl⟩
  go_wp2_with fail
  refine (tk_greset_is (i := 0) (os' := [obPG g 2 (zF (iF noI 11 77) 1)]) 1 0 w4 L.out rfl (by decide) rfl).mono ?_
  rintro e w5 ⟨rfl, t⟩
  clear L
  have L := Lib.hid t
  clear t
  go_wp2_with fail
  refine (tk_gread_is (i := 0) 1 3 0 0 w5 L.out rfl (by decide) (by decide)).mono ?_
  rintro e w' ⟨rfl, rfl⟩
  go_wp2_with (go_at_call 8; refine (num_any _ _).mono ?_; rintro e w' ⟨rfl, rfl⟩)
  go_ret
  exact ⟨rfl, L.out.below⟩
end Go.Proofs.Ytocjkanhciohmaa
