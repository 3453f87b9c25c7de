/-
  Layer 4's law Entries: it answers true for every input.
-/
import Derived.Test.YthfcmhghjkmjbaaPteAwake
import Derived.Deep.RegionHeld3
import Derived.Deep.DeepCutAuto
namespace Go.Proofs.Ythfcmhghjkmjbaa
open Go.RowKit
set_option linter.unusedVariables false

/-- What the last statement needs of the world: three entries, and that nothing that was there has turned. -/
structure EntS (w : World) (g0 g1 g2 : Nat) (f p f' p' : Int) (w' : World) : Prop where
  a0 : w'.cell? ⟨g0, 0, none⟩ = some (.int .i64 f)
  a1 : w'.cell? ⟨g0, 1, none⟩ = some (.int .i64 p)
  b0 : w'.cell? ⟨g1, 0, none⟩ = some (.int .i64 f')
  b1 : w'.cell? ⟨g1, 1, none⟩ = some (.int .i64 p')
  c0 : w'.cell? ⟨g2, 0, none⟩ = some (.int .i64 f')
  c1 : w'.cell? ⟨g2, 1, none⟩ = some (.int .i64 p')
  l0 : g0 < w'.heap.size
  l1 : g1 < w'.heap.size
  l2 : g2 < w'.heap.size
  s : w.heap.size ≤ w'.heap.size
  b : Below w.heap.size w w'
theorem EntS.next {w w1 w2 : World} {g0 g1 g2 : Nat} {f p f' p' : Int} (h : EntS w g0 g1 g2 f p f' p' w1) (hb : Below w1.heap.size w1 w2) : EntS w g0 g1 g2 f p f' p' w2 := by
  obtain ⟨a0, a1, b0, b1, c0, c1, l0, l1, l2, s, b⟩ := h
  have hs := hb.size
  exact ⟨(hb.cell (p := ⟨g0, 0, none⟩) l0).trans a0, (hb.cell (p := ⟨g0, 1, none⟩) l0).trans a1, (hb.cell (p := ⟨g1, 0, none⟩) l1).trans b0, (hb.cell (p := ⟨g1, 1, none⟩) l1).trans b1,
    (hb.cell (p := ⟨g2, 0, none⟩) l2).trans c0, (hb.cell (p := ⟨g2, 1, none⟩) l2).trans c1, by omega, by omega, by omega, by omega, Below.down b hb s⟩

theorem EntS.drew {w w1 : World} {g0 g1 g2 : Nat} {f p f' p' : Int} (h : EntS w g0 g1 g2 f p f' p' w1) : EntS w g0 g1 g2 f p f' p' w1.drew :=
  ⟨h.a0, h.a1, h.b0, h.b1, h.c0, h.c1, h.l0, h.l1, h.l2, h.s, bdrewN h.b 1⟩
theorem EntS.all {w w' : World} {g0 g1 g2 : Nat} {f p f' p' : Int} (h : EntS w g0 g1 g2 f p f' p' w') : w'.cell? ⟨g0, 0, none⟩ = some (.int .i64 f) ∧ w'.cell? ⟨g0, 1, none⟩ = some (.int .i64 p) ∧ w'.cell? ⟨g1, 0, none⟩ = some (.int .i64 f') ∧ w'.cell? ⟨g1, 1, none⟩ = some (.int .i64 p') ∧
    w'.cell? ⟨g2, 0, none⟩ = some (.int .i64 f') ∧ w'.cell? ⟨g2, 1, none⟩ = some (.int .i64 p') ∧ EntS w g0 g1 g2 f p f' p' w' := ⟨h.a0, h.a1, h.b0, h.b1, h.c0, h.c1, h⟩

set_option maxRecDepth 100000 in
set_option maxHeartbeats 4000000 in
theorem law_Entries (f p x : Int) (w : World) :
    Calls Try.prog 3 #[.agg #[.int .i64 f, .int .i64 p], .int .i64 x] w fun e w' => e = .returned (.bool true) ∧ Below w.heap.size w w' := by
  have t0 := Blk.new w 23 [.int .i64 f, .int .i64 p]
  have b0 : Below w.heap.size w _ := (Below.refl _ _).alloc (Nat.le_refl _) (.cells #[.int .i64 f, .int .i64 p] 23)
  go_enter Try.func3, Try.ntmps3
  go_wp2_with fail
  generalize hw0 : w.alloc (.cells #[.int .i64 f, .int .i64 p] 23) = w0 at *
  generalize hg : w.heap.size = g at *
  have hs0 := b0.size
  have hgw : g ≤ w.heap.size := by omega
  have HG := Lib.hid hg
  clear hw0 hg
  generalize hN : eN f p = N
  generalize hC : e4 (eB f p) = C
  refine (eput_is f p N C _ hN hC).mono ?_
  rintro e w1 ⟨rfl, k1⟩
  have t1 := t0.below k1 t0.lt
  have b1 := Below.down b0 k1 (by omega)
  have hs1 := b1.size
  obtain ⟨c0, c1, _, _⟩ := two_at t1
  clear t0 b0 hs0 k1
  go_wp2_with fail
  refine (reput_any f p _).mono ?_
  rintro e w2 ⟨rfl, k2⟩
  rw [hN, hC]
  have t2 := t1.below k2 t1.lt
  have b2 := Below.down b1 k2 (by omega)
  have hs2 := b2.size
  clear t1 b1 hs1 k2 c0 c1
  clear hN hC
  go_wp2_with fail
  generalize hF' : gF x = F'
  generalize hP' : gP x = P'
  generalize hC' : e4 (gB x) = C'
  refine (eget_is x F' P' C' _ hF' hP' hC').mono ?_
  rintro e w3 ⟨rfl, k3⟩
  have t3 := (t2.below k3 t2.lt).alloc (.cells #[.int .i64 F', .int .i64 P'] 23)
  have u3 := Blk.new w3 23 [.int .i64 F', .int .i64 P']
  have b3 := (Below.down b2 k3 (by omega)).alloc (Nat.le_trans hgw (Below.down b2 k3 (by omega)).size) (.cells #[.int .i64 F', .int .i64 P'] 23)
  have hs3 := b3.size
  clear t2 b2 hs2 k3
  have HF := Lib.hid hF'; have HP := Lib.hid hP'; have HC := Lib.hid hC'
  clear hF' hP' hC'
  go_wp2_with fail
  generalize hw3 : w3.alloc (.cells #[.int .i64 F', .int .i64 P'] 23) = w4 at *
  generalize hg3 : w3.heap.size = g3 at *
  clear hw3 hg3
  refine (reget_any x _).mono ?_
  rintro e w5 ⟨rfl, k5⟩
  rw [show getV x = .tuple #[.agg #[.int .i64 F', .int .i64 P'], .int .i64 C'] from by unfold getV; rw [HF.out, HP.out, HC.out]]
  have t5 := (t3.below k5 t3.lt).alloc (.cells #[.int .i64 F', .int .i64 P'] 23)
  have u5 := (u3.below k5 u3.lt).alloc (.cells #[.int .i64 F', .int .i64 P'] 23)
  have v5 := Blk.new w5 23 [.int .i64 F', .int .i64 P']
  have b5 := (Below.down b3 k5 (by omega)).alloc (Nat.le_trans hgw (Below.down b3 k5 (by omega)).size) (.cells #[.int .i64 F', .int .i64 P'] 23)
  have hs5 := b5.size
  clear t3 u3 b3 hs3 k5
  go_wp2_with fail
  generalize hw5 : w5.alloc (.cells #[.int .i64 F', .int .i64 P'] 23) = w6 at *
  generalize hg5 : w5.heap.size = g5 at *
  clear hw5 hg5
  obtain ⟨a0, a1, _, _⟩ := two_at t5
  obtain ⟨a2, a3, _, _⟩ := two_at u5
  obtain ⟨a4, a5, _, _⟩ := two_at v5
  have b5 : Below w.heap.size w w6 := by rw [HG.out]; exact b5
  have hS : EntS w g g3 g5 f p F' P' w6 := ⟨a0, a1, a2, a3, a4, a5, t5.lt, u5.lt, v5.lt, hs5, b5⟩
  clear t5 u5 v5 b5 hs5 a0 a1 a2 a3 a4 a5 HF HP HC
  have hN : (N == N) = true := by simp
  generalize hE : eB f p = E
  have HE := Lib.hid hE
  clear hE
  obtain ⟨a0, a1, a2, a3, a4, a5, hS⟩ := hS.all
  go_region_held3 (fun w' => w'.cell? ⟨g, 0, none⟩ = some (.int .i64 f) ∧ w'.cell? ⟨g, 1, none⟩ = some (.int .i64 p) ∧ w'.cell? ⟨g3, 0, none⟩ = some (.int .i64 F') ∧ w'.cell? ⟨g3, 1, none⟩ = some (.int .i64 P') ∧
    w'.cell? ⟨g5, 0, none⟩ = some (.int .i64 F') ∧ w'.cell? ⟨g5, 1, none⟩ = some (.int .i64 P') ∧ EntS w g g3 g5 f p F' P' w')
    ((go_split_ands; refine EntS.all ?_; (first | assumption | (exact EntS.drew (by assumption)) | (refine EntS.next ?_ (by assumption); assumption))))
    (first
      | (go_at_call 12; refine (num_any _ _).mono ?_; rintro e w' ⟨rfl, rfl⟩)
      | (go_at_call 13; refine (emay_is f p E _ HE.out).mono ?_; rintro e w' ⟨rfl, hb⟩)
      | (go_at_call 14; refine (remay_any f p _).mono ?_; rintro e w' ⟨rfl, hb⟩; rw [HE.out])
      | (go_at_call 15; refine (eawake_any _).mono ?_; rintro e w' ⟨rfl, hb⟩))
  all_goals
    have hEnd : EntS w g g3 g5 f p F' P' w' := by go_split_ands; assumption
    have hB := hEnd.b
    clear hEnd
    go_wp2_with fail
    go_ret
    exact ⟨rfl, hB⟩

end Go.Proofs.Ythfcmhghjkmjbaa
