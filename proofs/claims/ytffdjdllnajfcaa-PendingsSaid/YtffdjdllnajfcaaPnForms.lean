/-
  Layer 12's law PendingForms: it answers true for every input.
-/
import Derived.Test.YtffdjdllnajfcaaPAwake
import Derived.Test.YtffdjdllnajfcaaPr4
namespace Go.Proofs.Ytffdjdllnajfcaa
open Go.RowKit Go.ChangeMaps
set_option linter.unusedVariables false
set_option maxRecDepth 100000

theorem clF_none (F : Nat → Bool) (d : Int) (q : Nat) (hd : ¬ (0 ≤ d ∧ d < 4)) : clF F d q = F := by
  funext i
  unfold clF
  have h : dv d (i % 32) = false := by unfold dv; simp; omega
  rw [h]; simp
def fF0 : Nat → Bool := fun _ => false
def fF1 := putF fF0 19
def fF2 := putF fF1 51
def fF3 := putF fF2 43
def fF4 := clF fF3 2 2
def fF5 := takF fF4 0 []

set_option maxHeartbeats 4000000 in
theorem law_PendingForms (a x : Int) (w0 : (Lit.int .i64 a).wf = true) (w1 : (Lit.int .i64 x).wf = true) (w : World) :
    Calls Try.prog 6 #[.int .i64 a, .int .i64 x] w fun e w' => e = .returned (.bool true) ∧ Below w.heap.size w w' := by
  have hX := band x 1023 (by omega) (by omega)
  have hU := u64b a
  generalize hX' : bits BinOp.and IntKind.i64 x 1023 = X at hX
  generalize hU' : IntKind.u64.wrap a = U at hU
  obtain ⟨hX0, hX1⟩ := hX
  obtain ⟨hU0, hU1⟩ := hU
  have hI0 : 0 ≤ U % 6 := by omega
  have hI1 : U % 6 < 6 := by omega
  generalize hI' : U % 6 = I at hI0 hI1
  clear w0 w1
  go_enter Try.func6, Try.ntmps6
  go_wp2_with fail
  refine (pawake_any _).mono ?_
  rintro e wa ⟨rfl, ba⟩
  have BA := Lib.hid ba
  clear ba
  go_wp2_with fail
  refine (pnew_no _ _ (by omega)).mono ?_
  rintro e w' ⟨rfl, rfl⟩
  go_wp2_with fail
  refine (pnew_no _ _ (by omega)).mono ?_
  rintro e w' ⟨rfl, rfl⟩
  go_wp2_with fail
  have c1 : Calls Try.prog 8 #[.int .i64 2] wa fun e w' => ∃ s, e = .returned (.tuple #[.pointer (some ⟨s, 0, none⟩), .int .i64 0]) ∧ L1 wa s 2 fF0 [] [] w' := l1new 2 wa (by decide) (by decide)
  refine c1.mono ?_
  clear c1
  rintro e w1 ⟨s, rfl, l1⟩
  have L := Lib.hid l1
  clear l1
  go_wp2_with fail
  refine (num_any _ _).mono ?_
  rintro e w' ⟨rfl, rfl⟩
  go_wp2_with fail
  have c2 : Calls Try.prog 12 #[.pointer (some ⟨s, 0, none⟩), .int .i64 0, .int .i64 2, .int .i64 3] w1 fun e w' => e = .returned (.tuple #[.bool true, .int .i64 0]) ∧ L1 wa s 2 fF1 [] [] w' ∧ Ke [] w1 w' := l1raise 0 2 3 w1 L.out (by decide) (by decide) (by decide)
  refine c2.mono ?_
  clear c2 L
  rintro e w2 ⟨rfl, l2, -⟩
  have L := Lib.hid l2
  clear l2
  go_wp2_with fail
  have c3 : Calls Try.prog 12 #[.pointer (some ⟨s, 0, none⟩), .int .i64 1, .int .i64 2, .int .i64 3] w2 fun e w' => e = .returned (.tuple #[.bool true, .int .i64 0]) ∧ L1 wa s 2 fF2 [] [] w' ∧ Ke [] w2 w' := l1raise 1 2 3 w2 L.out (by decide) (by decide) (by decide)
  refine c3.mono ?_
  clear c3 L
  rintro e w3 ⟨rfl, l3, -⟩
  have L := Lib.hid l3
  clear l3
  go_wp2_with fail
  have c4 : Calls Try.prog 12 #[.pointer (some ⟨s, 0, none⟩), .int .i64 1, .int .i64 1, .int .i64 3] w3 fun e w' => e = .returned (.tuple #[.bool true, .int .i64 0]) ∧ L1 wa s 2 fF3 [] [] w' ∧ Ke [] w3 w' := l1raise 1 1 3 w3 L.out (by decide) (by decide) (by decide)
  refine c4.mono ?_
  clear c4 L
  rintro e w4 ⟨rfl, l4, -⟩
  have L := Lib.hid l4
  clear l4 hX' hU'
  go_wp2_with fail
  all_goals
    refine (l1raise_no _ _ _ w4 L.out (by unfold hP isP; simp; omega)).mono ?_
    rintro e w' ⟨rfl, rfl⟩
    go_wp2_with fail
    refine (l1take_no _ 3 _ w4 L.out (by unfold hP; simp; omega)).mono ?_
    rintro e w' ⟨rfl, rfl⟩
    go_wp2_with fail
    have c5 := fun (d : Int) (hd : ¬ (0 ≤ d ∧ d < 4)) => (by have h := l1clear d w4 L.out; rw [cntA_none fF3 d 2 hd, clF_none fF3 d 2 hd] at h; exact h : Calls Try.prog 20 #[.pointer (some ⟨s, 0, none⟩), .int .i64 d] w4 fun e w' => e = .returned (.int .i64 ((0 : Nat) : Int)) ∧ L1 wa s 2 fF3 [] [] w' ∧ Ke [] w4 w')
    refine (c5 _ (by omega)).mono ?_
    clear c5
    rintro e w5 ⟨rfl, l5, -⟩
    have L5 := Lib.hid l5
    clear l5
    go_wp2_with fail
    have c6 : Calls Try.prog 20 #[.pointer (some ⟨s, 0, none⟩), .int .i64 2] w5 fun e w' => e = .returned (.int .i64 2) ∧ L1 wa s 2 fF4 [] [] w' ∧ Ke [] w5 w' := by
      have h := l1clear 2 w5 L5.out
      have e : cntA fF3 2 2 = 2 := by kernel_rfl
      rw [e] at h
      exact h
    refine c6.mono ?_
    clear c6 L5
    rintro e w6 ⟨rfl, l6, -⟩
    have L6 := Lib.hid l6
    clear l6
    go_wp2_with (go_at_call 10; refine (num_any _ _).mono ?_; rintro e w' ⟨rfl, rfl⟩)
    have c7 : Calls Try.prog 15 #[.pointer (some ⟨s, 0, none⟩), .int .i64 0, .int .i64 1, .slice none 0 0] w6 fun e w' => ∃ A c, e = .returned (.slice A 0 c) ∧ L1 wa s 2 fF5 [] [] w' := by
      have h := l1take 0 1 _ [] 0 w6 L6.out (by decide) (sl_nil w6) rfl (by decide)
      have e : tks 1 (tkL (fun k => fF4 (0 * 32 + k)) []) = [] := by kernel_rfl
      rw [e] at h
      refine h.mono ?_
      rintro e w' ⟨u, rfl, h1, -⟩
      obtain ⟨A, c, hu, -⟩ := h1.sl (p := (u, [])) List.mem_cons_self
      simp only at hu
      exact ⟨A, c, by rw [hu]; rfl, h1.drop (by simp) (by simp)⟩
    refine c7.mono ?_
    clear c7 L6
    rintro e w7 ⟨A7, cp7, rfl, l7⟩
    have L7 := Lib.hid l7
    clear l7
    go_wp2_with fail
    have c8 : Calls Try.prog 15 #[.pointer (some ⟨s, 0, none⟩), .int .i64 1, .int .i64 1, .slice none 0 0] w7 fun e w' => ∃ u, e = .returned u ∧ Sl w' u 1 3 (iqs [⟨1, 1, 3⟩]) ∧ Below wa.heap.size wa w' := by
      have h := l1take 1 1 _ [] 0 w7 L7.out (by decide) (sl_nil w7) rfl (by decide)
      have e : tks 1 (tkL (fun k => fF5 (1 * 32 + k)) []) = [⟨1, 1, 3⟩] := by kernel_rfl
      rw [e] at h
      refine h.mono ?_
      rintro e w' ⟨u, rfl, h1, -⟩
      exact ⟨u, rfl, h1.sl (p := (u, [⟨1, 1, 3⟩])) List.mem_cons_self, h1.below⟩
    refine c8.mono ?_
    clear c8 L7
    rintro e w8 ⟨u8, rfl, s8, b8⟩
    have S8 := Lib.hid s8
    have B8 := Lib.hid b8
    clear s8 b8
    go_wp2_with fail
    change Calls _ _ _ (w8.alloc (.cells (iqs [⟨1, 1, 3⟩]).toArray 50)) _
    have b9 : Below w8.heap.size w8 (w8.alloc (.cells (iqs [⟨1, 1, 3⟩]).toArray 50)) := (Below.refl _ _).alloc (Nat.le_refl _) _
    have s9 : Sl (w8.alloc (.cells (iqs [⟨1, 1, 3⟩]).toArray 50)) (.slice (some ⟨w8.heap.size, 0, none⟩) 1 1) 1 3 (iqs [⟨1, 1, 3⟩]) := Sl.lit w8 (iqs [⟨1, 1, 3⟩]) 1 3 50 rfl
    refine (same_iqs u8 _ 1 [⟨1, 1, 3⟩] _ (S8.out.below b9) s9 rfl (by decide)).mono ?_
    rintro e w9 ⟨rfl, q9, rfl⟩
    have HB : Hid (Below w.heap.size w ((w8.alloc (.cells (iqs [⟨1, 1, 3⟩]).toArray 50)).drewN q9)) := Lib.hid (bdrewN ((Below.down BA.out B8.out BA.out.size).trans (b9.mono (by have := BA.out.size; have := B8.out.size; omega))) q9)
    clear s9 b9
    generalize (w8.alloc (.cells (iqs [⟨1, 1, 3⟩]).toArray 50)).drewN q9 = w10 at *
    go_wp2_with fail
    go_ret
    exact ⟨rfl, HB.out⟩

end Go.Proofs.Ytffdjdllnajfcaa
