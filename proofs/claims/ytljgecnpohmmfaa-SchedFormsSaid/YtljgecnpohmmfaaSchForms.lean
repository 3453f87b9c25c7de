/-
  Layer 10's law SchedForms: it answers true for every input.
-/
import Derived.Test.YtljgecnpohmmfaaSchAwake
import Derived.Test.YtljgecnpohmmfaaSch7
namespace Go.Proofs.Ytljgecnpohmmfaa
open Go.RowKit
set_option linter.unusedVariables false
set_option linter.unusedSimpArgs false
set_option maxRecDepth 100000

/-- What the calls answer about windows that may not be. -/
theorem forms_no {l : List Win} {m p : Int} (h : mayW l m 4 = false) (h' : mayW l m p = false) : mayW l m p = false ∧ nxtN l m 1 3 = 0 ∧ nxtC l m 1 3 = 1000 ∧ dlvN l m 3 = -1 ∧ opnN l m 2 = -1 := by
  refine ⟨h', ?_, ?_, dlvN_no (ask_no h), opnN_no (ask_no h)⟩
  · unfold nxtN; rw [ask_no h]; rfl
  · unfold nxtC; rw [ask_no h]; rfl
theorem may_not {l : List Win} {m p : Int} (h : ¬ ((1 ≤ m ∧ m ≤ 64 ∧ 1 ≤ p ∧ p ≤ 4 ∧ 1 ≤ l.length ∧ l.length ≤ 8) ∧ (∀ x ∈ l, fitW x m p = true) ∧ l.Pairwise (fun x y => metB y x = false))) : mayW l m p = false := by
  cases e : mayW l m p with
  | false => rfl
  | true => exact absurd ((mayW_iff l m p).1 e) h

/-- The law's own windows, once they are as its switch has left them. -/
theorem forms_ws (w : World) (a b c d e f g h : Int) (h64 : W64 ⟨a, b, c, d⟩ ∧ W64 ⟨e, f, g, h⟩) : Ws (w.alloc (.cells #[.int .i64 a, .int .i64 b, .int .i64 c, .int .i64 d, .int .i64 e, .int .i64 f, .int .i64 g, .int .i64 h] 36)) (.slice (some ⟨w.heap.size, 0, none⟩) 2 2) 2 [⟨a, b, c, d⟩, ⟨e, f, g, h⟩] :=
  ⟨Sl.lit w (ints (wins [⟨a, b, c, d⟩, ⟨e, f, g, h⟩])) 2 4 _ rfl, rfl, by unfold maxLen; omega, fun x hx => by
    simp only [List.mem_cons, List.not_mem_nil, or_false] at hx
    rcases hx with rfl | rfl
    · exact h64.1
    · exact h64.2⟩
theorem forms_below {w w1 : World} {t : TypeId} {cs : Array Value} (hb : Below w.heap.size w w1) : Below w.heap.size w (w1.alloc (.cells cs t)) := hb.alloc hb.size _
theorem nil_ws (w : World) : Ws w (.slice none 0 0) 0 [] := ⟨⟨none, 0, rfl, Nat.le_refl _, rfl, fun h => absurd h (by omega)⟩, rfl, by unfold maxLen; omega, fun x hx => by cases hx⟩

set_option maxHeartbeats 8000000 in
theorem law_SchedForms (a x : Int) (w0 : (Lit.int .i64 a).wf = true) (w1 : (Lit.int .i64 x).wf = true) (w : World) :
    Calls Try.prog 5 #[.int .i64 a, .int .i64 x] w fun e w' => e = .returned (.bool true) ∧ Below w.heap.size w w' := by
  have hX := band x 1023 (by omega) (by omega)
  have hU := u64b a
  generalize hX' : bits BinOp.and IntKind.i64 x 1023 = X at hX
  generalize hU' : IntKind.u64.wrap a = U at hU
  obtain ⟨hX0, hX1⟩ := hX
  obtain ⟨hU0, hU1⟩ := hU
  obtain ⟨I, hI⟩ : ∃ I, U % 13 = I := ⟨_, rfl⟩
  have hI2 : I = 0 ∨ I = 1 ∨ I = 2 ∨ I = 3 ∨ I = 4 ∨ I = 5 ∨ I = 6 ∨ I = 7 ∨ I = 8 ∨ I = 9 ∨ I = 10 ∨ I = 11 ∨ I = 12 := by omega
  clear w0 w1
  go_enter Try.func5, Try.ntmps5
  go_wp2_with fail
  refine (sawake_any _).mono ?_
  rintro e w1 ⟨rfl, b0⟩
  rcases hI2 with rfl | rfl | rfl | rfl | rfl | rfl | rfl | rfl | rfl | rfl | rfl | rfl | rfl

  · -- 0
    have HN := Lib.hid (forms_no (l := [⟨1, 2, 3, 3⟩, ⟨0, 0, 2, 0⟩]) (m := 4) (p := 2) (by decide) (by decide))
    have hws := forms_ws w1 1 2 3 3 0 0 2 0 ⟨by unfold W64; simp only; omega, by unfold W64; simp only; omega⟩
    have hbel := forms_below (t := 36) (cs := #[.int .i64 1, .int .i64 2, .int .i64 3, .int .i64 3, .int .i64 0, .int .i64 0, .int .i64 2, .int .i64 0]) b0
    go_wp2_with fail
    generalize w1.alloc (.cells #[.int .i64 1, .int .i64 2, .int .i64 3, .int .i64 3, .int .i64 0, .int .i64 0, .int .i64 2, .int .i64 0] 36) = w2 at *
    refine (nxt_ws hws 4 1 3 0 1000 HN.out.2.1 HN.out.2.2.1).mono ?_
    rintro e w3 ⟨rfl, b⟩
    have hws := hws.below b
    have hbel := Below.down hbel b hbel.size
    clear b
    go_wp2_with fail
    refine (may_ws hws 4 2 false HN.out.1).mono ?_
    rintro e w3 ⟨rfl, b⟩
    have hws := hws.below b
    have hbel := Below.down hbel b hbel.size
    clear b
    go_wp2_with (go_at_call 11; refine (num_any _ _).mono ?_; rintro e w' ⟨rfl, rfl⟩)
    refine (dlv_ws hws 4 3 (-1) HN.out.2.2.2.1).mono ?_
    rintro e w3 ⟨rfl, b⟩
    have hws := hws.below b
    have hbel := Below.down hbel b hbel.size
    clear b
    go_wp2_with fail
    refine (opn_ws hws 4 2 (-1) HN.out.2.2.2.2).mono ?_
    rintro e w3 ⟨rfl, b⟩
    have hbel := Below.down hbel b hbel.size
    clear b
    go_wp2_with fail
    go_ret
    exact ⟨rfl, hbel⟩
  · -- 1
    have HN := Lib.hid (forms_no (l := [⟨1, 2, 3, 3⟩, ⟨0, 0, 2, 0⟩]) (m := (64 + (1 + X))) (p := 2) (may_not (fun h => by have h1 := h.1; omega)) (may_not (fun h => by have h1 := h.1; omega)))
    have hws := forms_ws w1 1 2 3 3 0 0 2 0 ⟨by unfold W64; simp only; omega, by unfold W64; simp only; omega⟩
    have hbel := forms_below (t := 36) (cs := #[.int .i64 1, .int .i64 2, .int .i64 3, .int .i64 3, .int .i64 0, .int .i64 0, .int .i64 2, .int .i64 0]) b0
    go_wp2_with fail
    generalize w1.alloc (.cells #[.int .i64 1, .int .i64 2, .int .i64 3, .int .i64 3, .int .i64 0, .int .i64 0, .int .i64 2, .int .i64 0] 36) = w2 at *
    refine (nxt_ws hws (64 + (1 + X)) 1 3 0 1000 HN.out.2.1 HN.out.2.2.1).mono ?_
    rintro e w3 ⟨rfl, b⟩
    have hws := hws.below b
    have hbel := Below.down hbel b hbel.size
    clear b
    go_wp2_with fail
    refine (may_ws hws (64 + (1 + X)) 2 false HN.out.1).mono ?_
    rintro e w3 ⟨rfl, b⟩
    have hws := hws.below b
    have hbel := Below.down hbel b hbel.size
    clear b
    go_wp2_with (go_at_call 11; refine (num_any _ _).mono ?_; rintro e w' ⟨rfl, rfl⟩)
    refine (dlv_ws hws (64 + (1 + X)) 3 (-1) HN.out.2.2.2.1).mono ?_
    rintro e w3 ⟨rfl, b⟩
    have hws := hws.below b
    have hbel := Below.down hbel b hbel.size
    clear b
    go_wp2_with fail
    refine (opn_ws hws (64 + (1 + X)) 2 (-1) HN.out.2.2.2.2).mono ?_
    rintro e w3 ⟨rfl, b⟩
    have hbel := Below.down hbel b hbel.size
    clear b
    go_wp2_with fail
    go_ret
    exact ⟨rfl, hbel⟩
  · -- 2
    have HN := Lib.hid (forms_no (l := [⟨1, 2, 3, 3⟩, ⟨0, 0, 2, 0⟩]) (m := (1 - (1 + X))) (p := 2) (may_not (fun h => by have h1 := h.1; omega)) (may_not (fun h => by have h1 := h.1; omega)))
    have hws := forms_ws w1 1 2 3 3 0 0 2 0 ⟨by unfold W64; simp only; omega, by unfold W64; simp only; omega⟩
    have hbel := forms_below (t := 36) (cs := #[.int .i64 1, .int .i64 2, .int .i64 3, .int .i64 3, .int .i64 0, .int .i64 0, .int .i64 2, .int .i64 0]) b0
    go_wp2_with fail
    generalize w1.alloc (.cells #[.int .i64 1, .int .i64 2, .int .i64 3, .int .i64 3, .int .i64 0, .int .i64 0, .int .i64 2, .int .i64 0] 36) = w2 at *
    refine (nxt_ws hws (1 - (1 + X)) 1 3 0 1000 HN.out.2.1 HN.out.2.2.1).mono ?_
    rintro e w3 ⟨rfl, b⟩
    have hws := hws.below b
    have hbel := Below.down hbel b hbel.size
    clear b
    go_wp2_with fail
    refine (may_ws hws (1 - (1 + X)) 2 false HN.out.1).mono ?_
    rintro e w3 ⟨rfl, b⟩
    have hws := hws.below b
    have hbel := Below.down hbel b hbel.size
    clear b
    go_wp2_with (go_at_call 11; refine (num_any _ _).mono ?_; rintro e w' ⟨rfl, rfl⟩)
    refine (dlv_ws hws (1 - (1 + X)) 3 (-1) HN.out.2.2.2.1).mono ?_
    rintro e w3 ⟨rfl, b⟩
    have hws := hws.below b
    have hbel := Below.down hbel b hbel.size
    clear b
    go_wp2_with fail
    refine (opn_ws hws (1 - (1 + X)) 2 (-1) HN.out.2.2.2.2).mono ?_
    rintro e w3 ⟨rfl, b⟩
    have hbel := Below.down hbel b hbel.size
    clear b
    go_wp2_with fail
    go_ret
    exact ⟨rfl, hbel⟩
  · -- 3
    have HN := Lib.hid (show mayW [⟨1, 2, 3, 3⟩, ⟨0, 0, 2, 0⟩] 6 1 = false ∧ nxtN [⟨1, 2, 3, 3⟩, ⟨0, 0, 2, 0⟩] 6 1 3 = 3 ∧ nxtC [⟨1, 2, 3, 3⟩, ⟨0, 0, 2, 0⟩] 6 1 3 = 0 ∧ dlvN [⟨1, 2, 3, 3⟩, ⟨0, 0, 2, 0⟩] 6 3 = 1 from ⟨by decide, by decide, by decide, by decide⟩)
    have hws := forms_ws w1 1 2 3 3 0 0 2 0 ⟨by unfold W64; simp only; omega, by unfold W64; simp only; omega⟩
    have hbel := forms_below (t := 36) (cs := #[.int .i64 1, .int .i64 2, .int .i64 3, .int .i64 3, .int .i64 0, .int .i64 0, .int .i64 2, .int .i64 0]) b0
    go_wp2_with fail
    generalize w1.alloc (.cells #[.int .i64 1, .int .i64 2, .int .i64 3, .int .i64 3, .int .i64 0, .int .i64 0, .int .i64 2, .int .i64 0] 36) = w2 at *
    refine (nxt_ws hws 6 1 3 3 0 HN.out.2.1 HN.out.2.2.1).mono ?_
    rintro e w3 ⟨rfl, b⟩
    have hws := hws.below b
    have hbel := Below.down hbel b hbel.size
    clear b
    go_wp2_with fail
    refine (may_ws hws 6 1 false HN.out.1).mono ?_
    rintro e w3 ⟨rfl, b⟩
    have hws := hws.below b
    have hbel := Below.down hbel b hbel.size
    clear b
    go_wp2_with (go_at_call 11; refine (num_any _ _).mono ?_; rintro e w' ⟨rfl, rfl⟩)
    refine (dlv_ws hws 6 3 1 HN.out.2.2.2).mono ?_
    rintro e w3 ⟨rfl, b⟩
    have hbel := Below.down hbel b hbel.size
    clear b
    go_wp2_with fail
    go_ret
    exact ⟨rfl, hbel⟩
  · -- 4
    have HN := Lib.hid (show mayW [⟨1, 2, 3, 3⟩, ⟨0, 0, 2, 0⟩] 6 (4 + (1 + X)) = false ∧ nxtN [⟨1, 2, 3, 3⟩, ⟨0, 0, 2, 0⟩] 6 1 3 = 3 ∧ nxtC [⟨1, 2, 3, 3⟩, ⟨0, 0, 2, 0⟩] 6 1 3 = 0 ∧ dlvN [⟨1, 2, 3, 3⟩, ⟨0, 0, 2, 0⟩] 6 3 = 1 from ⟨may_not (fun h => by have h1 := h.1; omega), by decide, by decide, by decide⟩)
    have hws := forms_ws w1 1 2 3 3 0 0 2 0 ⟨by unfold W64; simp only; omega, by unfold W64; simp only; omega⟩
    have hbel := forms_below (t := 36) (cs := #[.int .i64 1, .int .i64 2, .int .i64 3, .int .i64 3, .int .i64 0, .int .i64 0, .int .i64 2, .int .i64 0]) b0
    go_wp2_with fail
    generalize w1.alloc (.cells #[.int .i64 1, .int .i64 2, .int .i64 3, .int .i64 3, .int .i64 0, .int .i64 0, .int .i64 2, .int .i64 0] 36) = w2 at *
    refine (nxt_ws hws 6 1 3 3 0 HN.out.2.1 HN.out.2.2.1).mono ?_
    rintro e w3 ⟨rfl, b⟩
    have hws := hws.below b
    have hbel := Below.down hbel b hbel.size
    clear b
    go_wp2_with fail
    refine (may_ws hws 6 (4 + (1 + X)) false HN.out.1).mono ?_
    rintro e w3 ⟨rfl, b⟩
    have hws := hws.below b
    have hbel := Below.down hbel b hbel.size
    clear b
    go_wp2_with (go_at_call 11; refine (num_any _ _).mono ?_; rintro e w' ⟨rfl, rfl⟩)
    refine (dlv_ws hws 6 3 1 HN.out.2.2.2).mono ?_
    rintro e w3 ⟨rfl, b⟩
    have hbel := Below.down hbel b hbel.size
    clear b
    go_wp2_with fail
    go_ret
    exact ⟨rfl, hbel⟩
  · -- 5
    have HN := Lib.hid (forms_no (l := []) (m := 6) (p := 2) (may_not (fun h => by have h1 := h.1; simp only [List.length_nil] at h1; omega)) (may_not (fun h => by have h1 := h.1; simp only [List.length_nil] at h1; omega)))
    have hws := nil_ws (w1.alloc (.cells #[.int .i64 1, .int .i64 2, .int .i64 3, .int .i64 3, .int .i64 0, .int .i64 0, .int .i64 2, .int .i64 0] 36))
    have hbel := forms_below (t := 36) (cs := #[.int .i64 1, .int .i64 2, .int .i64 3, .int .i64 3, .int .i64 0, .int .i64 0, .int .i64 2, .int .i64 0]) b0
    go_wp2_with fail
    generalize w1.alloc (.cells #[.int .i64 1, .int .i64 2, .int .i64 3, .int .i64 3, .int .i64 0, .int .i64 0, .int .i64 2, .int .i64 0] 36) = w2 at *
    refine (nxt_ws hws 6 1 3 0 1000 HN.out.2.1 HN.out.2.2.1).mono ?_
    rintro e w3 ⟨rfl, b⟩
    have hws := hws.below b
    have hbel := Below.down hbel b hbel.size
    clear b
    go_wp2_with fail
    refine (may_ws hws 6 2 false HN.out.1).mono ?_
    rintro e w3 ⟨rfl, b⟩
    have hws := hws.below b
    have hbel := Below.down hbel b hbel.size
    clear b
    go_wp2_with (go_at_call 11; refine (num_any _ _).mono ?_; rintro e w' ⟨rfl, rfl⟩)
    refine (dlv_ws hws 6 3 (-1) HN.out.2.2.2.1).mono ?_
    rintro e w3 ⟨rfl, b⟩
    have hws := hws.below b
    have hbel := Below.down hbel b hbel.size
    clear b
    go_wp2_with fail
    refine (opn_ws hws 6 2 (-1) HN.out.2.2.2.2).mono ?_
    rintro e w3 ⟨rfl, b⟩
    have hbel := Below.down hbel b hbel.size
    clear b
    go_wp2_with fail
    go_ret
    exact ⟨rfl, hbel⟩
  · -- 6
    have HN := Lib.hid (forms_no (l := [⟨1, 1, 3, 3⟩, ⟨0, 0, 2, 0⟩]) (m := 6) (p := 2) (by decide) (by decide))
    have hws := forms_ws w1 1 1 3 3 0 0 2 0 ⟨by unfold W64; simp only; omega, by unfold W64; simp only; omega⟩
    have hbel := forms_below (t := 36) (cs := #[.int .i64 1, .int .i64 1, .int .i64 3, .int .i64 3, .int .i64 0, .int .i64 0, .int .i64 2, .int .i64 0]) b0
    go_wp2_with fail
    generalize w1.alloc (.cells #[.int .i64 1, .int .i64 1, .int .i64 3, .int .i64 3, .int .i64 0, .int .i64 0, .int .i64 2, .int .i64 0] 36) = w2 at *
    refine (nxt_ws hws 6 1 3 0 1000 HN.out.2.1 HN.out.2.2.1).mono ?_
    rintro e w3 ⟨rfl, b⟩
    have hws := hws.below b
    have hbel := Below.down hbel b hbel.size
    clear b
    go_wp2_with fail
    refine (may_ws hws 6 2 false HN.out.1).mono ?_
    rintro e w3 ⟨rfl, b⟩
    have hws := hws.below b
    have hbel := Below.down hbel b hbel.size
    clear b
    go_wp2_with (go_at_call 11; refine (num_any _ _).mono ?_; rintro e w' ⟨rfl, rfl⟩)
    refine (dlv_ws hws 6 3 (-1) HN.out.2.2.2.1).mono ?_
    rintro e w3 ⟨rfl, b⟩
    have hws := hws.below b
    have hbel := Below.down hbel b hbel.size
    clear b
    go_wp2_with fail
    refine (opn_ws hws 6 2 (-1) HN.out.2.2.2.2).mono ?_
    rintro e w3 ⟨rfl, b⟩
    have hbel := Below.down hbel b hbel.size
    clear b
    go_wp2_with fail
    go_ret
    exact ⟨rfl, hbel⟩
  · -- 7
    have HN := Lib.hid (forms_no (l := [⟨1, 2, (1 - (1 + X)), 3⟩, ⟨0, 0, 2, 0⟩]) (m := 6) (p := 2) (may_not (fun h => by have h1 := fit_of (h.2.1 [⟨1, 2, (1 - (1 + X)), 3⟩, ⟨0, 0, 2, 0⟩][0] (List.getElem_mem (by simp))); simp only [List.getElem_cons_zero, List.getElem_cons_succ] at h1; omega)) (may_not (fun h => by have h1 := fit_of (h.2.1 [⟨1, 2, (1 - (1 + X)), 3⟩, ⟨0, 0, 2, 0⟩][0] (List.getElem_mem (by simp))); simp only [List.getElem_cons_zero, List.getElem_cons_succ] at h1; omega)))
    have hws := forms_ws w1 1 2 (1 - (1 + X)) 3 0 0 2 0 ⟨by unfold W64; simp only; omega, by unfold W64; simp only; omega⟩
    have hbel := forms_below (t := 36) (cs := #[.int .i64 1, .int .i64 2, .int .i64 (1 - (1 + X)), .int .i64 3, .int .i64 0, .int .i64 0, .int .i64 2, .int .i64 0]) b0
    go_wp2_with fail
    generalize w1.alloc (.cells #[.int .i64 1, .int .i64 2, .int .i64 (1 - (1 + X)), .int .i64 3, .int .i64 0, .int .i64 0, .int .i64 2, .int .i64 0] 36) = w2 at *
    refine (nxt_ws hws 6 1 3 0 1000 HN.out.2.1 HN.out.2.2.1).mono ?_
    rintro e w3 ⟨rfl, b⟩
    have hws := hws.below b
    have hbel := Below.down hbel b hbel.size
    clear b
    go_wp2_with fail
    refine (may_ws hws 6 2 false HN.out.1).mono ?_
    rintro e w3 ⟨rfl, b⟩
    have hws := hws.below b
    have hbel := Below.down hbel b hbel.size
    clear b
    go_wp2_with (go_at_call 11; refine (num_any _ _).mono ?_; rintro e w' ⟨rfl, rfl⟩)
    refine (dlv_ws hws 6 3 (-1) HN.out.2.2.2.1).mono ?_
    rintro e w3 ⟨rfl, b⟩
    have hws := hws.below b
    have hbel := Below.down hbel b hbel.size
    clear b
    go_wp2_with fail
    refine (opn_ws hws 6 2 (-1) HN.out.2.2.2.2).mono ?_
    rintro e w3 ⟨rfl, b⟩
    have hbel := Below.down hbel b hbel.size
    clear b
    go_wp2_with fail
    go_ret
    exact ⟨rfl, hbel⟩
  · -- 8
    have HN := Lib.hid (forms_no (l := [⟨1, 2, 3, (5 + (1 + X))⟩, ⟨0, 0, 2, 0⟩]) (m := 6) (p := 2) (may_not (fun h => by have h1 := fit_of (h.2.1 [⟨1, 2, 3, (5 + (1 + X))⟩, ⟨0, 0, 2, 0⟩][0] (List.getElem_mem (by simp))); simp only [List.getElem_cons_zero, List.getElem_cons_succ] at h1; omega)) (may_not (fun h => by have h1 := fit_of (h.2.1 [⟨1, 2, 3, (5 + (1 + X))⟩, ⟨0, 0, 2, 0⟩][0] (List.getElem_mem (by simp))); simp only [List.getElem_cons_zero, List.getElem_cons_succ] at h1; omega)))
    have hws := forms_ws w1 1 2 3 (5 + (1 + X)) 0 0 2 0 ⟨by unfold W64; simp only; omega, by unfold W64; simp only; omega⟩
    have hbel := forms_below (t := 36) (cs := #[.int .i64 1, .int .i64 2, .int .i64 3, .int .i64 (5 + (1 + X)), .int .i64 0, .int .i64 0, .int .i64 2, .int .i64 0]) b0
    go_wp2_with fail
    generalize w1.alloc (.cells #[.int .i64 1, .int .i64 2, .int .i64 3, .int .i64 (5 + (1 + X)), .int .i64 0, .int .i64 0, .int .i64 2, .int .i64 0] 36) = w2 at *
    refine (nxt_ws hws 6 1 3 0 1000 HN.out.2.1 HN.out.2.2.1).mono ?_
    rintro e w3 ⟨rfl, b⟩
    have hws := hws.below b
    have hbel := Below.down hbel b hbel.size
    clear b
    go_wp2_with fail
    refine (may_ws hws 6 2 false HN.out.1).mono ?_
    rintro e w3 ⟨rfl, b⟩
    have hws := hws.below b
    have hbel := Below.down hbel b hbel.size
    clear b
    go_wp2_with (go_at_call 11; refine (num_any _ _).mono ?_; rintro e w' ⟨rfl, rfl⟩)
    refine (dlv_ws hws 6 3 (-1) HN.out.2.2.2.1).mono ?_
    rintro e w3 ⟨rfl, b⟩
    have hws := hws.below b
    have hbel := Below.down hbel b hbel.size
    clear b
    go_wp2_with fail
    refine (opn_ws hws 6 2 (-1) HN.out.2.2.2.2).mono ?_
    rintro e w3 ⟨rfl, b⟩
    have hbel := Below.down hbel b hbel.size
    clear b
    go_wp2_with fail
    go_ret
    exact ⟨rfl, hbel⟩
  · -- 9
    have HN := Lib.hid (forms_no (l := [⟨1, 2, 3, (2 - (1 + X))⟩, ⟨0, 0, 2, 0⟩]) (m := 6) (p := 2) (may_not (fun h => by have h1 := fit_of (h.2.1 [⟨1, 2, 3, (2 - (1 + X))⟩, ⟨0, 0, 2, 0⟩][0] (List.getElem_mem (by simp))); simp only [List.getElem_cons_zero, List.getElem_cons_succ] at h1; omega)) (may_not (fun h => by have h1 := fit_of (h.2.1 [⟨1, 2, 3, (2 - (1 + X))⟩, ⟨0, 0, 2, 0⟩][0] (List.getElem_mem (by simp))); simp only [List.getElem_cons_zero, List.getElem_cons_succ] at h1; omega)))
    have hws := forms_ws w1 1 2 3 (2 - (1 + X)) 0 0 2 0 ⟨by unfold W64; simp only; omega, by unfold W64; simp only; omega⟩
    have hbel := forms_below (t := 36) (cs := #[.int .i64 1, .int .i64 2, .int .i64 3, .int .i64 (2 - (1 + X)), .int .i64 0, .int .i64 0, .int .i64 2, .int .i64 0]) b0
    go_wp2_with fail
    generalize w1.alloc (.cells #[.int .i64 1, .int .i64 2, .int .i64 3, .int .i64 (2 - (1 + X)), .int .i64 0, .int .i64 0, .int .i64 2, .int .i64 0] 36) = w2 at *
    refine (nxt_ws hws 6 1 3 0 1000 HN.out.2.1 HN.out.2.2.1).mono ?_
    rintro e w3 ⟨rfl, b⟩
    have hws := hws.below b
    have hbel := Below.down hbel b hbel.size
    clear b
    go_wp2_with fail
    refine (may_ws hws 6 2 false HN.out.1).mono ?_
    rintro e w3 ⟨rfl, b⟩
    have hws := hws.below b
    have hbel := Below.down hbel b hbel.size
    clear b
    go_wp2_with (go_at_call 11; refine (num_any _ _).mono ?_; rintro e w' ⟨rfl, rfl⟩)
    refine (dlv_ws hws 6 3 (-1) HN.out.2.2.2.1).mono ?_
    rintro e w3 ⟨rfl, b⟩
    have hws := hws.below b
    have hbel := Below.down hbel b hbel.size
    clear b
    go_wp2_with fail
    refine (opn_ws hws 6 2 (-1) HN.out.2.2.2.2).mono ?_
    rintro e w3 ⟨rfl, b⟩
    have hbel := Below.down hbel b hbel.size
    clear b
    go_wp2_with fail
    go_ret
    exact ⟨rfl, hbel⟩
  · -- 10
    have HN := Lib.hid (forms_no (l := [⟨1, (-(1 + X)), 3, 3⟩, ⟨0, 0, 2, 0⟩]) (m := 6) (p := 2) (may_not (fun h => by have h1 := fit_of (h.2.1 [⟨1, (-(1 + X)), 3, 3⟩, ⟨0, 0, 2, 0⟩][0] (List.getElem_mem (by simp))); simp only [List.getElem_cons_zero, List.getElem_cons_succ] at h1; omega)) (may_not (fun h => by have h1 := fit_of (h.2.1 [⟨1, (-(1 + X)), 3, 3⟩, ⟨0, 0, 2, 0⟩][0] (List.getElem_mem (by simp))); simp only [List.getElem_cons_zero, List.getElem_cons_succ] at h1; omega)))
    have hws := forms_ws w1 1 (-(1 + X)) 3 3 0 0 2 0 ⟨by unfold W64; simp only; omega, by unfold W64; simp only; omega⟩
    have hbel := forms_below (t := 36) (cs := #[.int .i64 1, .int .i64 (-(1 + X)), .int .i64 3, .int .i64 3, .int .i64 0, .int .i64 0, .int .i64 2, .int .i64 0]) b0
    go_wp2_with fail
    generalize w1.alloc (.cells #[.int .i64 1, .int .i64 (-(1 + X)), .int .i64 3, .int .i64 3, .int .i64 0, .int .i64 0, .int .i64 2, .int .i64 0] 36) = w2 at *
    refine (nxt_ws hws 6 1 3 0 1000 HN.out.2.1 HN.out.2.2.1).mono ?_
    rintro e w3 ⟨rfl, b⟩
    have hws := hws.below b
    have hbel := Below.down hbel b hbel.size
    clear b
    go_wp2_with fail
    refine (may_ws hws 6 2 false HN.out.1).mono ?_
    rintro e w3 ⟨rfl, b⟩
    have hws := hws.below b
    have hbel := Below.down hbel b hbel.size
    clear b
    go_wp2_with (go_at_call 11; refine (num_any _ _).mono ?_; rintro e w' ⟨rfl, rfl⟩)
    refine (dlv_ws hws 6 3 (-1) HN.out.2.2.2.1).mono ?_
    rintro e w3 ⟨rfl, b⟩
    have hws := hws.below b
    have hbel := Below.down hbel b hbel.size
    clear b
    go_wp2_with fail
    refine (opn_ws hws 6 2 (-1) HN.out.2.2.2.2).mono ?_
    rintro e w3 ⟨rfl, b⟩
    have hbel := Below.down hbel b hbel.size
    clear b
    go_wp2_with fail
    go_ret
    exact ⟨rfl, hbel⟩
  · -- 11
    have HN := Lib.hid (forms_no (l := [⟨1, 2, 3, 3⟩, ⟨(3 + (1 + X)), 0, 2, 0⟩]) (m := 6) (p := 2) (may_not (fun h => by have h1 := fit_of (h.2.1 [⟨1, 2, 3, 3⟩, ⟨(3 + (1 + X)), 0, 2, 0⟩][1] (List.getElem_mem (by simp))); simp only [List.getElem_cons_zero, List.getElem_cons_succ] at h1; omega)) (may_not (fun h => by have h1 := fit_of (h.2.1 [⟨1, 2, 3, 3⟩, ⟨(3 + (1 + X)), 0, 2, 0⟩][1] (List.getElem_mem (by simp))); simp only [List.getElem_cons_zero, List.getElem_cons_succ] at h1; omega)))
    have hws := forms_ws w1 1 2 3 3 (3 + (1 + X)) 0 2 0 ⟨by unfold W64; simp only; omega, by unfold W64; simp only; omega⟩
    have hbel := forms_below (t := 36) (cs := #[.int .i64 1, .int .i64 2, .int .i64 3, .int .i64 3, .int .i64 (3 + (1 + X)), .int .i64 0, .int .i64 2, .int .i64 0]) b0
    go_wp2_with fail
    generalize w1.alloc (.cells #[.int .i64 1, .int .i64 2, .int .i64 3, .int .i64 3, .int .i64 (3 + (1 + X)), .int .i64 0, .int .i64 2, .int .i64 0] 36) = w2 at *
    refine (nxt_ws hws 6 1 3 0 1000 HN.out.2.1 HN.out.2.2.1).mono ?_
    rintro e w3 ⟨rfl, b⟩
    have hws := hws.below b
    have hbel := Below.down hbel b hbel.size
    clear b
    go_wp2_with fail
    refine (may_ws hws 6 2 false HN.out.1).mono ?_
    rintro e w3 ⟨rfl, b⟩
    have hws := hws.below b
    have hbel := Below.down hbel b hbel.size
    clear b
    go_wp2_with (go_at_call 11; refine (num_any _ _).mono ?_; rintro e w' ⟨rfl, rfl⟩)
    refine (dlv_ws hws 6 3 (-1) HN.out.2.2.2.1).mono ?_
    rintro e w3 ⟨rfl, b⟩
    have hws := hws.below b
    have hbel := Below.down hbel b hbel.size
    clear b
    go_wp2_with fail
    refine (opn_ws hws 6 2 (-1) HN.out.2.2.2.2).mono ?_
    rintro e w3 ⟨rfl, b⟩
    have hbel := Below.down hbel b hbel.size
    clear b
    go_wp2_with fail
    go_ret
    exact ⟨rfl, hbel⟩
  · -- 12
    have HN := Lib.hid (forms_no (l := [⟨1, 2, 3, 3⟩, ⟨(-(1 + X)), 0, 2, 0⟩]) (m := 6) (p := 2) (may_not (fun h => by have h1 := fit_of (h.2.1 [⟨1, 2, 3, 3⟩, ⟨(-(1 + X)), 0, 2, 0⟩][1] (List.getElem_mem (by simp))); simp only [List.getElem_cons_zero, List.getElem_cons_succ] at h1; omega)) (may_not (fun h => by have h1 := fit_of (h.2.1 [⟨1, 2, 3, 3⟩, ⟨(-(1 + X)), 0, 2, 0⟩][1] (List.getElem_mem (by simp))); simp only [List.getElem_cons_zero, List.getElem_cons_succ] at h1; omega)))
    have hws := forms_ws w1 1 2 3 3 (-(1 + X)) 0 2 0 ⟨by unfold W64; simp only; omega, by unfold W64; simp only; omega⟩
    have hbel := forms_below (t := 36) (cs := #[.int .i64 1, .int .i64 2, .int .i64 3, .int .i64 3, .int .i64 (-(1 + X)), .int .i64 0, .int .i64 2, .int .i64 0]) b0
    go_wp2_with fail
    generalize w1.alloc (.cells #[.int .i64 1, .int .i64 2, .int .i64 3, .int .i64 3, .int .i64 (-(1 + X)), .int .i64 0, .int .i64 2, .int .i64 0] 36) = w2 at *
    refine (nxt_ws hws 6 1 3 0 1000 HN.out.2.1 HN.out.2.2.1).mono ?_
    rintro e w3 ⟨rfl, b⟩
    have hws := hws.below b
    have hbel := Below.down hbel b hbel.size
    clear b
    go_wp2_with fail
    refine (may_ws hws 6 2 false HN.out.1).mono ?_
    rintro e w3 ⟨rfl, b⟩
    have hws := hws.below b
    have hbel := Below.down hbel b hbel.size
    clear b
    go_wp2_with (go_at_call 11; refine (num_any _ _).mono ?_; rintro e w' ⟨rfl, rfl⟩)
    refine (dlv_ws hws 6 3 (-1) HN.out.2.2.2.1).mono ?_
    rintro e w3 ⟨rfl, b⟩
    have hws := hws.below b
    have hbel := Below.down hbel b hbel.size
    clear b
    go_wp2_with fail
    refine (opn_ws hws 6 2 (-1) HN.out.2.2.2.2).mono ?_
    rintro e w3 ⟨rfl, b⟩
    have hbel := Below.down hbel b hbel.size
    clear b
    go_wp2_with fail
    go_ret
    exact ⟨rfl, hbel⟩

end Go.Proofs.Ytljgecnpohmmfaa
