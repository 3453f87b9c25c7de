/-
  Layer 1's law AddrForms: it answers true for every input.
-/
import Derived.Test.YtcdioceleiolaaaAddr
namespace Go.Proofs.Ytcdioceleiolaaa
open Go.RowKit
set_option linter.unusedVariables false

/-- The two rows of runs that are none, as they lie in memory: at each index a run that does not fit. -/
theorem forms_cells (wa : World) (X : Int) (i : Nat) (hi : i < 9) (h0 : 0 ≤ X) (h1 : X ≤ 1048575) :
    ∃ p q : Int, ((wa.alloc (.cells #[.int .i64 (-(1 + X)), .int .i64 0, .int .i64 (4096 + (1 + X)), .int .i64 1, .int .i64 4096, .int .i64 9223372036854775807, .int .i64 (9223372036854775807 - (1 + X)), .int .i64 (-9223372036854775807), .int .i64 0] 3)).alloc
        (.cells #[.int .i64 1, .int .i64 (-(1 + X)), .int .i64 0, .int .i64 4096, .int .i64 (1 + X), .int .i64 9223372036854775807, .int .i64 (1 + X + 5), .int .i64 1, .int .i64 (4096 + (1 + X))] 3)).cell? ⟨wa.heap.size, i, none⟩ = some (.int .i64 p) ∧
      ((wa.alloc (.cells #[.int .i64 (-(1 + X)), .int .i64 0, .int .i64 (4096 + (1 + X)), .int .i64 1, .int .i64 4096, .int .i64 9223372036854775807, .int .i64 (9223372036854775807 - (1 + X)), .int .i64 (-9223372036854775807), .int .i64 0] 3)).alloc
        (.cells #[.int .i64 1, .int .i64 (-(1 + X)), .int .i64 0, .int .i64 4096, .int .i64 (1 + X), .int .i64 9223372036854775807, .int .i64 (1 + X + 5), .int .i64 1, .int .i64 (4096 + (1 + X))] 3)).cell? ⟨wa.heap.size + 1, i, none⟩ = some (.int .i64 q) ∧
      ¬ (0 ≤ p ∧ 0 ≤ q ∧ p ≤ 4096 ∧ q ≤ 4096 - p) := by
  generalize hP : #[Value.int .i64 (-(1 + X)), .int .i64 0, .int .i64 (4096 + (1 + X)), .int .i64 1, .int .i64 4096, .int .i64 9223372036854775807, .int .i64 (9223372036854775807 - (1 + X)), .int .i64 (-9223372036854775807), .int .i64 0] = P
  generalize hQ : #[Value.int .i64 1, .int .i64 (-(1 + X)), .int .i64 0, .int .i64 4096, .int .i64 (1 + X), .int .i64 9223372036854775807, .int .i64 (1 + X + 5), .int .i64 1, .int .i64 (4096 + (1 + X))] = Q
  have b1 : ((wa.alloc (.cells P 3)).alloc (.cells Q 3)).heap[wa.heap.size]? = some (.cells P 3) := by
    rw [Below.heap_alloc _ _ _ (by simp)]; exact heap_alloc_new wa _
  have b2 : ((wa.alloc (.cells P 3)).alloc (.cells Q 3)).heap[wa.heap.size + 1]? = some (.cells Q 3) := by
    have h := heap_alloc_new (wa.alloc (.cells P 3)) (.cells Q 3)
    have e : (wa.alloc (.cells P 3)).heap.size = wa.heap.size + 1 := by simp
    rw [e] at h
    exact h
  rw [cell_of_row _ _ i P _ (0, 0) b1, cell_of_row _ _ i Q _ (0, 0) b2, ← hP, ← hQ]
  match i, hi with
  | 0, _ => exact ⟨_, _, rfl, rfl, by omega⟩
  | 1, _ => exact ⟨_, _, rfl, rfl, by omega⟩
  | 2, _ => exact ⟨_, _, rfl, rfl, by omega⟩
  | 3, _ => exact ⟨_, _, rfl, rfl, by omega⟩
  | 4, _ => exact ⟨_, _, rfl, rfl, by omega⟩
  | 5, _ => exact ⟨_, _, rfl, rfl, by omega⟩
  | 6, _ => exact ⟨_, _, rfl, rfl, by omega⟩
  | 7, _ => exact ⟨_, _, rfl, rfl, by omega⟩
  | 8, _ => exact ⟨_, _, rfl, rfl, by omega⟩

set_option maxHeartbeats 1000000 in
theorem law_AddrForms (a x : Int) (w0 : (Lit.int .i64 a).wf = true) (w1 : (Lit.int .i64 x).wf = true) (w : World) :
    Calls Try.prog 5 #[.int .i64 a, .int .i64 x] w fun e w' => e = .returned (.bool true) ∧ Below w.heap.size w w' := by
  have hX := band x 1048575 (by omega) (by omega)
  have hU := u64b a
  generalize hX' : bits BinOp.and IntKind.i64 x 1048575 = X at hX
  generalize hU' : IntKind.u64.wrap a = U at hU
  obtain ⟨hX0, hX1⟩ := hX
  obtain ⟨hU0, hU1⟩ := hU
  have hI0 : 0 ≤ U % 9 := by omega
  have hI1 : U % 9 < 9 := by omega
  generalize hI' : U % 9 = I at hI0 hI1
  clear w0 w1
  go_enter Try.func5, Try.ntmps5
  go_wp2_with fail
  refine (awake_any _).mono ?_
  rintro e wa ⟨rfl, ba⟩
  go_wp2_with fail
  clear hX' hU' hI' hU0 hU1
  obtain ⟨i, rfl⟩ := Int.eq_ofNat_of_zero_le hI0
  have hi : i < 9 := by omega
  obtain ⟨p, q, c1, c2, hno⟩ := forms_cells wa X i hi hX0 hX1
  have bb : Below w.heap.size w _ := ((ba.alloc ba.size (.cells #[.int .i64 (-(1 + X)), .int .i64 0, .int .i64 (4096 + (1 + X)), .int .i64 1, .int .i64 4096, .int .i64 9223372036854775807, .int .i64 (9223372036854775807 - (1 + X)), .int .i64 (-9223372036854775807), .int .i64 0] 3)).alloc (by have := ba.size; simp; omega)
    (.cells #[.int .i64 1, .int .i64 (-(1 + X)), .int .i64 0, .int .i64 4096, .int .i64 (1 + X), .int .i64 9223372036854775807, .int .i64 (1 + X + 5), .int .i64 1, .int .i64 (4096 + (1 + X))] 3))
  generalize ((wa.alloc (.cells #[.int .i64 (-(1 + X)), .int .i64 0, .int .i64 (4096 + (1 + X)), .int .i64 1, .int .i64 4096, .int .i64 9223372036854775807, .int .i64 (9223372036854775807 - (1 + X)), .int .i64 (-9223372036854775807), .int .i64 0] 3)).alloc
    (.cells #[.int .i64 1, .int .i64 (-(1 + X)), .int .i64 0, .int .i64 4096, .int .i64 (1 + X), .int .i64 9223372036854775807, .int .i64 (1 + X + 5), .int .i64 1, .int .i64 (4096 + (1 + X))] 3)) = wb at *
  have NO := Lib.hid hno; clear hno ba
  have m0 : Hid (∀ W, _) := Lib.hid (fun W => split_no p q W NO.out)
  go_quiet ((go_at_call 8; exact quiet_ m0.out))
  have m1 : Hid (∀ W, _) := Lib.hid (fun W => may_no p q 4096 W NO.out (by omega))
  have m2 : Hid (∀ W, _) := Lib.hid (fun W => may_yes 0 0 0 W (by omega) (by omega) (by omega) (by omega) (by omega))
  have m3 : Hid (∀ W, _) := Lib.hid (fun W => may_yes 4096 0 4096 W (by omega) (by omega) (by omega) (by omega) (by omega))
  have m4 : Hid (∀ W, _) := Lib.hid (fun W => may_no 0 0 (-(1 + X)) W (by omega) (by omega))
  have m5 : Hid (∀ W, _) := Lib.hid (fun W => may_yes (1 + X) (9223372036854775807 - (1 + X)) 9223372036854775807 W (by omega) (by omega) (by omega) (by omega) (by omega))
  have m6 : Hid (∀ W, _) := Lib.hid (fun W => may_no (1 + X) (9223372036854775807 - (1 + X) + 1) 9223372036854775807 W (by omega) (by omega))
  go_wp2
  go_quiet ((first
    | (go_at_call 11; exact quiet_a (fun W => num_any 100 W))
    | (go_at_call 12; first | with_reducible exact quiet_a m1.out | with_reducible exact quiet_a m2.out | with_reducible exact quiet_a m3.out | with_reducible exact quiet_a m4.out | with_reducible exact quiet_a m5.out | with_reducible exact quiet_a m6.out)))
  go_wp2
  go_ret
  refine ⟨rfl, ?_⟩
  first | exact bdrewN bb _ | exact bdrewN (bdrewN bb _) _

end Go.Proofs.Ytcdioceleiolaaa
