/-
  Layer 9's law Labels: it answers true for every input.
-/
import Derived.Test.YtllppgjddboelaaLatAwake
import Derived.Deep.RegionHeld3
import Derived.Deep.DeepCutAuto
namespace Go.Proofs.Ytllppgjddboelaa
open Go.RowKit
set_option linter.unusedVariables false
set_option maxRecDepth 100000

theorem Bks.four {t : TypeId} {w0 w : World} {g0 g1 g2 g3 : Nat} {x0 y0 x1 y1 x2 y2 x3 y3 : Value} (h : Bks t w0 w [(g3, [x3, y3]), (g2, [x2, y2]), (g1, [x1, y1]), (g0, [x0, y0])]) :
    w.cell? ⟨g0, 0, none⟩ = some x0 ∧ w.cell? ⟨g0, 1, none⟩ = some y0 ∧ w.cell? ⟨g1, 0, none⟩ = some x1 ∧ w.cell? ⟨g1, 1, none⟩ = some y1 ∧ w.cell? ⟨g2, 0, none⟩ = some x2 ∧ w.cell? ⟨g2, 1, none⟩ = some y2 ∧
    w.cell? ⟨g3, 0, none⟩ = some x3 ∧ w.cell? ⟨g3, 1, none⟩ = some y3 ∧ Bks t w0 w [(g3, [x3, y3]), (g2, [x2, y2]), (g1, [x1, y1]), (g0, [x0, y0])] :=
  ⟨h.cell 3 rfl 0, h.cell 3 rfl 1, h.cell 2 rfl 0, h.cell 2 rfl 1, h.cell 1 rfl 0, h.cell 1 rfl 1, h.cell 0 rfl 0, h.cell 0 rfl 1, h⟩

set_option maxHeartbeats 4000000 in
theorem law_Labels (l c l' c' : Int) (w : World) :
    Calls Try.prog 3 #[.agg #[.int .i64 l, .int .i64 c], .agg #[.int .i64 l', .int .i64 c']] w fun e w' => e = .returned (.bool true) ∧ Below w.heap.size w w' := by
  have s0 := ((Bks.start 23 w).push [.int .i64 l, .int .i64 c]).push [.int .i64 l', .int .i64 c']
  rw [World.size_alloc] at s0
  go_enter Try.func3, Try.ntmps3
  go_wp2_with fail
  generalize (w.alloc (.cells [Value.int .i64 l, .int .i64 c].toArray 23)).alloc (.cells [Value.int .i64 l', .int .i64 c'].toArray 23) = w1 at *
  generalize hJ : jL l c l' c' = J
  generalize hK : jC l c l' c' = K
  generalize hE : jE l c l' c' = E
  refine (ljoin_is l c l' c' J K E _ hJ hK hE).mono ?_
  rintro e w2 ⟨rfl, b2⟩
  have s2 := (s0.next b2).push [.int .i64 J, .int .i64 K]
  obtain ⟨a0, a1, _, _⟩ := s2.two 2 rfl
  obtain ⟨a2, a3, _, _⟩ := s2.two 1 rfl
  have HJ := Lib.hid hJ; have HK := Lib.hid hK; have HE := Lib.hid hE
  clear s0 b2 hJ hK hE
  go_wp2_with fail
  generalize w2.alloc (.cells [Value.int .i64 J, .int .i64 K].toArray 23) = w3 at *
  generalize w2.heap.size = g2 at *
  refine (rljoin_any l c l' c' _).mono ?_
  rintro e w4 ⟨rfl, b4⟩
  rw [HJ.out, HK.out, HE.out]
  have s4 := (s2.next b4).push [.int .i64 J, .int .i64 K]
  clear s2 b4 a0 a1 a2 a3 HJ HK HE
  obtain ⟨a0, a1, a2, a3, a4, a5, a6, a7, hS⟩ := s4.four
  clear s4
  go_wp2_with fail
  generalize hw5 : w4.alloc (.cells [Value.int .i64 J, .int .i64 K].toArray 23) = w5 at *
  generalize w4.heap.size = g3 at *
  have hE : (E == E) = true := by simp
  have hJ : (J == J) = true := by simp
  have hK : (K == K) = true := by simp
  generalize hD : lD l c l' c' = D
  generalize hB : lB l c = B
  have hD' : (D == D) = true := by simp
  have hB' : (B == B) = true := by simp
  have HD := Lib.hid hD; have HB := Lib.hid hB
  clear hD hB
  go_region_held3 (fun w' => w'.cell? ⟨w.heap.size, 0, none⟩ = some (.int .i64 l) ∧ w'.cell? ⟨w.heap.size, 1, none⟩ = some (.int .i64 c) ∧ w'.cell? ⟨w.heap.size + 1, 0, none⟩ = some (.int .i64 l') ∧ w'.cell? ⟨w.heap.size + 1, 1, none⟩ = some (.int .i64 c') ∧
    w'.cell? ⟨g2, 0, none⟩ = some (.int .i64 J) ∧ w'.cell? ⟨g2, 1, none⟩ = some (.int .i64 K) ∧ w'.cell? ⟨g3, 0, none⟩ = some (.int .i64 J) ∧ w'.cell? ⟨g3, 1, none⟩ = some (.int .i64 K) ∧
    Bks 23 w w' [(g3, [.int .i64 J, .int .i64 K]), (g2, [.int .i64 J, .int .i64 K]), (w.heap.size + 1, [.int .i64 l', .int .i64 c']), (w.heap.size, [.int .i64 l, .int .i64 c])])
    ((go_split_ands; refine Bks.four ?_; (first | assumption | (exact Bks.drew (by assumption)) | (refine Bks.next ?_ (by assumption); assumption))))
    (first
      | (go_at_call 9; refine (num_any _ _).mono ?_; rintro e w' ⟨rfl, rfl⟩)
      | (go_at_call 10; refine (ldom_is l c l' c' D _ HD.out).mono ?_; rintro e w' ⟨rfl, hb⟩)
      | (go_at_call 11; refine (rldom_is l c l' c' D _ HD.out).mono ?_; rintro e w' ⟨rfl, hb⟩)
      | (go_at_call 12; refine (lmay_is l c B _ HB.out).mono ?_; rintro e w' ⟨rfl, hb⟩)
      | (go_at_call 13; refine (rlmay_is l c B _ HB.out).mono ?_; rintro e w' ⟨rfl, hb⟩)
      | (go_at_call 14; refine (lawake_any _).mono ?_; rintro e w' ⟨rfl, hb⟩))
  all_goals
    have hEnd : Bks 23 w w' [(g3, [.int .i64 J, .int .i64 K]), (g2, [.int .i64 J, .int .i64 K]), (w.heap.size + 1, [.int .i64 l', .int .i64 c']), (w.heap.size, [.int .i64 l, .int .i64 c])] := by go_split_ands; assumption
    have hB := hEnd.below
    clear hEnd
    go_wp2_with fail
    go_ret
    exact ⟨rfl, hB⟩

end Go.Proofs.Ytllppgjddboelaa
