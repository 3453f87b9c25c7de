/-
  The law package's own check of layer 12: it answers true.
-/
import Derived.Test.YtffdjdllnajfcaaPl
import Derived.Test.YtffdjdllnajfcaaPi1
import Derived.Test.YtffdjdllnajfcaaNum
namespace Go.Proofs.Ytffdjdllnajfcaa
open Go.RowKit Go.ChangeMaps
set_option linter.unusedVariables false
set_option maxRecDepth 100000

/-- What waits in awake, call by call. -/
def aF0 : Nat → Bool := fun _ => false
def aF1 := putF aF0 53
def aF2 := putF aF1 53
def aF3 := putF aF2 39
def aF4 := putF aF3 49
def aF5 := takF aF4 1 [⟨0, 2, 1⟩]
def aF6 := takF aF5 1 []
def aF7 := putF aF6 27
def aF8 := clF aF7 3 2

set_option maxHeartbeats 4000000 in
theorem pawake_any (w : World) :
    Calls Try.prog 11 #[] w fun e w' => e = .returned (.bool true) ∧ Below w.heap.size w w' := by
  have hN1 : Calls Try.prog 8 #[.int .i64 2] w fun e w' => ∃ s, e = .returned (.tuple #[.pointer (some ⟨s, 0, none⟩), .int .i64 0]) ∧ L1 w s 2 aF0 [] [] w' := l1new 2 w (by decide) (by decide)
  go_enter Try.func11, Try.ntmps11
  go_wp2_with fail
  refine hN1.mono ?_
  clear hN1
  rintro e w1 ⟨s, rfl, l1⟩
  have L := Lib.hid l1
  clear l1
  go_wp2_with fail
  refine (pnew_no 0 w1 (by decide)).mono ?_
  rintro e w' ⟨rfl, rfl⟩
  go_wp2_with fail
  refine (num_any 0 w1).mono ?_
  rintro e w' ⟨rfl, rfl⟩
  go_wp2_with fail
  have c2 : Calls Try.prog 12 #[.pointer (some ⟨s, 0, none⟩), .int .i64 1, .int .i64 2, .int .i64 5] w1 fun e w' => e = .returned (.tuple #[.bool true, .int .i64 0]) ∧ L1 w s 2 aF1 [] [] w' ∧ Ke [] w1 w' := l1raise 1 2 5 w1 L.out (by decide) (by decide) (by decide)
  refine c2.mono ?_
  clear c2
  rintro e w2 ⟨rfl, l2, -⟩
  clear L
  have L := Lib.hid l2
  clear l2
  go_wp2_with fail
  have c3 : Calls Try.prog 12 #[.pointer (some ⟨s, 0, none⟩), .int .i64 1, .int .i64 2, .int .i64 5] w2 fun e w' => e = .returned (.tuple #[.bool false, .int .i64 0]) ∧ L1 w s 2 aF2 [] [] w' ∧ Ke [] w2 w' := l1raise 1 2 5 w2 L.out (by decide) (by decide) (by decide)
  refine c3.mono ?_
  clear c3
  rintro e w3 ⟨rfl, l3, -⟩
  clear L
  have L := Lib.hid l3
  clear l3
  go_wp2_with fail
  have c4 : Calls Try.prog 12 #[.pointer (some ⟨s, 0, none⟩), .int .i64 1, .int .i64 0, .int .i64 7] w3 fun e w' => e = .returned (.tuple #[.bool true, .int .i64 0]) ∧ L1 w s 2 aF3 [] [] w' ∧ Ke [] w3 w' := l1raise 1 0 7 w3 L.out (by decide) (by decide) (by decide)
  refine c4.mono ?_
  clear c4
  rintro e w4 ⟨rfl, l4, -⟩
  clear L
  have L := Lib.hid l4
  clear l4
  go_wp2_with fail
  have c5 : Calls Try.prog 12 #[.pointer (some ⟨s, 0, none⟩), .int .i64 1, .int .i64 2, .int .i64 1] w4 fun e w' => e = .returned (.tuple #[.bool true, .int .i64 0]) ∧ L1 w s 2 aF4 [] [] w' ∧ Ke [] w4 w' := l1raise 1 2 1 w4 L.out (by decide) (by decide) (by decide)
  refine c5.mono ?_
  clear c5
  rintro e w5 ⟨rfl, l5, -⟩
  clear L
  have L := Lib.hid l5
  clear l5
  go_wp2_with fail
  have c6 : Calls Try.prog 12 #[.pointer (some ⟨s, 0, none⟩), .int .i64 2, .int .i64 0, .int .i64 0] w5 fun e w' => e = .returned (.tuple #[.bool false, .int .i64 1200]) ∧ w5 = w' := l1raise_no 2 0 0 w5 L.out (by decide)
  refine c6.mono ?_
  clear c6
  rintro e w' ⟨rfl, rfl⟩
  go_wp2_with fail
  change Calls _ _ _ (w5.alloc (.cells (iqs [⟨0, 2, 1⟩]).toArray 50)) _
  have b6 : Below w5.heap.size w5 (w5.alloc (.cells (iqs [⟨0, 2, 1⟩]).toArray 50)) := (Below.refl _ _).alloc (Nat.le_refl _) _
  have s6 : Sl (w5.alloc (.cells (iqs [⟨0, 2, 1⟩]).toArray 50)) (.slice (some ⟨w5.heap.size, 0, none⟩) 1 1) 1 3 (iqs [⟨0, 2, 1⟩]) := Sl.lit w5 (iqs [⟨0, 2, 1⟩]) 1 3 50 rfl
  have l6 := L.out.next b6
  clear L b6
  generalize w5.alloc (.cells (iqs [⟨0, 2, 1⟩]).toArray 50) = w6 at *
  have c7 : Calls Try.prog 15 #[.pointer (some ⟨s, 0, none⟩), .int .i64 1, .int .i64 9, .slice (some ⟨w5.heap.size, 0, none⟩) 1 1] w6 fun e w' => ∃ u, e = .returned u ∧ L1 w s 2 aF5 [(u, [⟨9, 0, 7⟩, ⟨9, 2, 5⟩])] [] w' ∧ Ke [] w6 w' := by
    have h := l1take 1 9 _ [⟨0, 2, 1⟩] 1 w6 l6 (by decide) s6 rfl (by decide)
    have e : tks 9 (tkL (fun k => aF4 (1 * 32 + k)) [⟨0, 2, 1⟩]) = [⟨9, 0, 7⟩, ⟨9, 2, 5⟩] := by kernel_rfl
    rw [e] at h
    exact h
  generalize w5.heap.size = g5 at *
  refine c7.mono ?_
  clear c7 s6 l6
  rintro e w7 ⟨ia, rfl, l7, -⟩
  have L := Lib.hid l7
  clear l7
  go_wp2_with fail
  have c8 : Calls Try.prog 15 #[.pointer (some ⟨s, 0, none⟩), .int .i64 1, .int .i64 10, .slice none 0 0] w7 fun e w' => ∃ u, e = .returned u ∧ L1 w s 2 aF6 [(u, [⟨10, 2, 1⟩]), (ia, [⟨9, 0, 7⟩, ⟨9, 2, 5⟩])] [] w' ∧ Ke [] w7 w' := by
    have h := l1take 1 10 _ [] 0 w7 L.out (by decide) (sl_nil w7) rfl (by decide)
    have e : tks 10 (tkL (fun k => aF5 (1 * 32 + k)) []) = [⟨10, 2, 1⟩] := by kernel_rfl
    rw [e] at h
    exact h
  refine c8.mono ?_
  clear c8 L
  rintro e w8 ⟨ja, rfl, l8, -⟩
  have L := Lib.hid l8
  clear l8
  go_wp2_with fail
  have c9 : Calls Try.prog 12 #[.pointer (some ⟨s, 0, none⟩), .int .i64 0, .int .i64 3, .int .i64 3] w8 fun e w' => e = .returned (.tuple #[.bool true, .int .i64 0]) ∧ L1 w s 2 aF7 [(ja, [⟨10, 2, 1⟩]), (ia, [⟨9, 0, 7⟩, ⟨9, 2, 5⟩])] [] w' ∧ Ke [] w8 w' := l1raise 0 3 3 w8 L.out (by decide) (by decide) (by decide)
  refine c9.mono ?_
  clear c9
  rintro e w9 ⟨rfl, l9, -⟩
  clear L
  have L := Lib.hid l9
  clear l9
  go_wp2_with fail
  refine (num_any 1200 w9).mono ?_
  rintro e w' ⟨rfl, rfl⟩
  go_wp2_with fail
  refine (num_any 0 w9).mono ?_
  rintro e w' ⟨rfl, rfl⟩
  go_wp2_with fail
  refine (num_any 0 w9).mono ?_
  rintro e w' ⟨rfl, rfl⟩
  go_wp2_with fail
  refine (num_any 1200 w9).mono ?_
  rintro e w' ⟨rfl, rfl⟩
  go_wp2_with fail
  change Calls _ _ _ (w9.alloc (.cells (iqs [⟨9, 0, 7⟩, ⟨9, 2, 5⟩]).toArray 50)) _
  have b10 : Below w9.heap.size w9 (w9.alloc (.cells (iqs [⟨9, 0, 7⟩, ⟨9, 2, 5⟩]).toArray 50)) := (Below.refl _ _).alloc (Nat.le_refl _) _
  have s10 : Sl (w9.alloc (.cells (iqs [⟨9, 0, 7⟩, ⟨9, 2, 5⟩]).toArray 50)) (.slice (some ⟨w9.heap.size, 0, none⟩) 2 2) 2 3 (iqs [⟨9, 0, 7⟩, ⟨9, 2, 5⟩]) := Sl.lit w9 (iqs [⟨9, 0, 7⟩, ⟨9, 2, 5⟩]) 2 3 50 rfl
  have l10 := L.out.next b10
  clear L b10
  generalize w9.alloc (.cells (iqs [⟨9, 0, 7⟩, ⟨9, 2, 5⟩]).toArray 50) = w10 at *
  have c10 := same_iqs ia _ 2 [⟨9, 0, 7⟩, ⟨9, 2, 5⟩] w10 (l10.sl (p := (ia, [⟨9, 0, 7⟩, ⟨9, 2, 5⟩])) (by simp)) s10 rfl (by decide)
  generalize w9.heap.size = g10 at *
  refine c10.mono ?_
  clear c10 s10
  rintro e w' ⟨rfl, q10, rfl⟩
  have L := Lib.hid (l10.drewN q10)
  clear l10
  generalize w10.drewN q10 = v10 at *
  go_wp2_with fail
  change Calls _ _ _ (v10.alloc (.cells (iqs [⟨10, 2, 1⟩]).toArray 50)) _
  have b11 : Below v10.heap.size v10 (v10.alloc (.cells (iqs [⟨10, 2, 1⟩]).toArray 50)) := (Below.refl _ _).alloc (Nat.le_refl _) _
  have s11 : Sl (v10.alloc (.cells (iqs [⟨10, 2, 1⟩]).toArray 50)) (.slice (some ⟨v10.heap.size, 0, none⟩) 1 1) 1 3 (iqs [⟨10, 2, 1⟩]) := Sl.lit v10 (iqs [⟨10, 2, 1⟩]) 1 3 50 rfl
  have l11 := L.out.next b11
  clear L b11
  generalize v10.alloc (.cells (iqs [⟨10, 2, 1⟩]).toArray 50) = w11 at *
  have c11 := same_iqs ja _ 1 [⟨10, 2, 1⟩] w11 (l11.sl (p := (ja, [⟨10, 2, 1⟩])) (by simp)) s11 rfl (by decide)
  generalize v10.heap.size = g11 at *
  refine c11.mono ?_
  clear c11 s11
  rintro e w' ⟨rfl, q11, rfl⟩
  have L := Lib.hid (l11.drewN q11)
  clear l11
  generalize w11.drewN q11 = v11 at *
  go_wp2_with fail
  have c12 : Calls Try.prog 20 #[.pointer (some ⟨s, 0, none⟩), .int .i64 3] v11 fun e w' => e = .returned (.int .i64 1) ∧ L1 w s 2 aF8 [(ja, [⟨10, 2, 1⟩]), (ia, [⟨9, 0, 7⟩, ⟨9, 2, 5⟩])] [] w' ∧ Ke [] v11 w' := by
    have h := l1clear 3 v11 L.out
    have e : cntA aF7 3 2 = 1 := by kernel_rfl
    rw [e] at h
    exact h
  refine c12.mono ?_
  clear c12 L
  rintro e w12 ⟨rfl, l12, -⟩
  have L := Lib.hid l12
  clear l12
  go_wp2_with fail
  have c13 : Calls Try.prog 15 #[.pointer (some ⟨s, 0, none⟩), .int .i64 0, .int .i64 1, .slice none 0 0] w12 fun e w' => ∃ A c, e = .returned (.slice A 0 c) ∧ Below w.heap.size w w' := by
    have h := l1take 0 1 _ [] 0 w12 L.out (by decide) (sl_nil w12) rfl (by decide)
    have e : tks 1 (tkL (fun k => aF8 (0 * 32 + k)) []) = [] := by kernel_rfl
    rw [e] at h
    refine h.mono ?_
    rintro e w' ⟨u, rfl, h1, -⟩
    obtain ⟨A, c, hu, -⟩ := h1.sl (p := (u, [])) List.mem_cons_self
    simp only at hu
    exact ⟨A, c, by rw [hu]; rfl, h1.below⟩
  refine c13.mono ?_
  clear c13 L
  rintro e w13 ⟨A13, cp13, rfl, hbel⟩
  have HB := Lib.hid hbel
  clear hbel
  go_wp2_with fail
  go_ret
  exact ⟨rfl, HB.out⟩
end Go.Proofs.Ytffdjdllnajfcaa
