/-
  Contracts of layer 5: Walk of the program.
-/
import Derived.Test.YtfddmfdfimaddaaWalk1
namespace Go.Proofs.Ytfddmfdfimaddaa
open Go.RowKit
set_option linter.unusedVariables false

theorem walk_nil (r p : Int) (w : World) :
    Calls Try.prog 9 #[.pointer none, .int .i64 r, .int .i64 p] w fun e w' => e = .returned (.tuple #[.agg #[.int .i64 0, .int .i64 0], .int .i64 1]) ∧ Below w.heap.size w w' := by
  go_enter Try.func9, Try.ntmps9
  go_wp2_with fail
  exact bodyPost_ret (v := .tuple #[.agg #[.int .i64 0, .int .i64 0], .int .i64 1]) (by simp [results, Try.results9, go_sem]) rfl ⟨rfl, (((Below.refl _ _).alloc (Nat.le_refl _) _))⟩

set_option maxHeartbeats 2000000 in
theorem walk_form (g : Nat) (l : List UInt8) (m : Nat) (r p : Int) (w : World) (h : PM w g l) (hm : l.length = 64 * m) (hn : ¬ (0 ≤ p ∧ p < 256 ∧ 0 ≤ r ∧ r < m)) :
    Calls Try.prog 9 #[.pointer (some ⟨g, 0, none⟩), .int .i64 r, .int .i64 p] w fun e w' => e = .returned (.tuple #[.agg #[.int .i64 0, .int .i64 0], .int .i64 500]) ∧ Below w.heap.size w w' := by
  have hm64 : m ≤ 64 := by obtain ⟨_, _, h2, h3, _⟩ := h.size; omega
  have hM : ((l.length : Int)) / 64 = m := by omega
  have hc : p < 0 ∨ (0 ≤ p ∧ 256 ≤ p) ∨ (0 ≤ p ∧ p < 256 ∧ r < 0) ∨ (0 ≤ p ∧ p < 256 ∧ 0 ≤ r ∧ (m : Int) ≤ r) := by omega
  clear hn
  have H := Lib.hid h; clear h
  rcases hc with h1 | ⟨h1, h2⟩ | ⟨h1, h2, h3⟩ | ⟨h1, h2, h3, h4⟩
  all_goals
    go_enter Try.func9, Try.ntmps9
    go_wp2_with fail
    refine (psize_any g l _ (H.out.alloc _)).mono ?_
    rintro e w' ⟨rfl, rfl⟩
    go_wp2_with fail
    exact bodyPost_ret (v := .tuple #[.agg #[.int .i64 0, .int .i64 0], .int .i64 500]) (by simp [results, Try.results9, go_sem]) rfl ⟨rfl, (((Below.refl _ _).alloc (Nat.le_refl _) _))⟩

set_option maxHeartbeats 4000000 in
theorem walk_any (g : Nat) (l : List UInt8) (r p : Int) (w : World) (h : PM w g l) :
    Calls Try.prog 9 #[.pointer (some ⟨g, 0, none⟩), .int .i64 r, .int .i64 p] w fun e w' => e = .returned (.tuple #[.agg #[.int .i64 (wF l r p), .int .i64 (wP l r p)], .int .i64 (wC l r p)]) ∧ Below w.heap.size w w' := by
  obtain ⟨m, hm1, hm64, hm, _⟩ := h.size
  have hd : l.length / 64 = m := by omega
  rcases w_cases l r p with ⟨ho, e1, e2, e3⟩ | hc
  · rw [e1, e2, e3]
    refine walk_form g l m r p w h hm (fun hh => ?_)
    have := of_decide_eq_false ho
    rw [hd] at this
    exact this hh
  have ho : wOk l r p = true := by rcases hc with ⟨h, _⟩ | ⟨h, _⟩ | ⟨h, _⟩ <;> exact h
  have ho := of_decide_eq_true ho
  rw [hd] at ho
  obtain ⟨h1, h2, h3, h4⟩ := ho
  have hM : ((l.length : Int)) / 64 = m := by omega
  have HC := Lib.hid hc
  have HB := Lib.hid (s_bounds l r (p / 16) m hm)
  have t0 := Blk.new w 29 [.int .i64 0, .int .i64 0]
  have HM := Lib.hid hm
  have hg := h.lt
  clear hc ho hd hm
  go_enter Try.func9, Try.ntmps9
  go_wp2_with fail
  refine (psize_any g l _ (h.alloc _)).mono ?_
  rintro e w' ⟨rfl, rfl⟩
  go_wp2_with fail
  refine (step_any g l m _ _ _ (h.alloc _) HM.out h3 h4 (by omega) (by omega)).mono ?_
  rintro e w1 ⟨rfl, b1⟩
  have hs1 := b1.size
  generalize hC1 : sC l r (p / 16) = C1 at *
  generalize hF1 : sF l r (p / 16) = F1 at *
  generalize hP1 : sP l r (p / 16) = P1 at *
  clear hC1 hF1 hP1
  have t1 := ((t0.below b1 t0.lt)).alloc (.cells #[.int .i64 F1, .int .i64 P1] 29)
  have c1 := Blk.new w1 29 [.int .i64 F1, .int .i64 P1]
  have hb : Below w.heap.size w (w1.alloc (.cells #[.int .i64 F1, .int .i64 P1] 29)) := (below_alloc b1).alloc (below_alloc b1).size _
  have h' := ((h.alloc (.cells #[.int .i64 0, .int .i64 0] 29)).below b1 (by simp; omega)).alloc (.cells #[.int .i64 F1, .int .i64 P1] 29)
  have hne : w1.heap.size ≠ w.heap.size := by simp at hs1; omega
  obtain ⟨t10, t11, t1f, t1g⟩ := two_at t1
  obtain ⟨c10, c11, _, _⟩ := two_at c1
  rcases HC.out with ⟨_, hc, e1, e2, e3⟩ | ⟨_, hc, hp, e1, e2, e3⟩ | ⟨_, hc, hp, e1, e2, e3⟩
  · have hc' : (C1 != 0) = true := by simpa using hc
    have E1 := Lib.hid e1; have E2 := Lib.hid e2; have E3 := Lib.hid e3; clear e1 e2 e3 hc t0 t1 c1 h'
    go_wp2_with fail
    exact bodyPost_ret (v := .tuple #[.agg #[.int .i64 0, .int .i64 0], .int .i64 C1]) (by simp [results, Try.results9, go_sem, t10, t11]) rfl ⟨by rw [E1.out, E2.out, E3.out], (hb.setCell (Nat.le_refl _) _).setCell (Nat.le_refl _) _⟩
  · subst hc
    have hp' : (P1 != 3) = true := by simpa using hp
    have E1 := Lib.hid e1; have E2 := Lib.hid e2; have E3 := Lib.hid e3; clear e1 e2 e3 hp t0 t1 c1 h'
    go_wp2_with fail
    exact bodyPost_ret (v := .tuple #[.agg #[.int .i64 0, .int .i64 0], .int .i64 502]) (by simp [results, Try.results9, go_sem, t10, t11]) rfl ⟨by rw [E1.out, E2.out, E3.out], (hb.setCell (Nat.le_refl _) _).setCell (Nat.le_refl _) _⟩
  · subst hc hp
    have E1 := Lib.hid e1; have E2 := Lib.hid e2; have E3 := Lib.hid e3; clear e1 e2 e3 t0 t1f t1g t10 t11 hne
    have hF := HB.out rfl
    go_wp2_with fail
    generalize w1.alloc (.cells #[.int .i64 F1, .int .i64 3] 29) = w2 at *
    clear c10 c11
    refine (step_any g l m _ _ _ h' HM.out hF.1 hF.2 (by omega) (by omega)).mono ?_
    rintro e w3 ⟨rfl, b3⟩
    generalize sC l F1 (p % 16) = C2 at *
    generalize sF l F1 (p % 16) = F2 at *
    generalize sP l F1 (p % 16) = P2 at *
    obtain ⟨t10, t11, t1f, t1g⟩ := two_at (t1.below b3 t1.lt)
    have hb3 := Below.down hb b3 hb.size
    clear t1 b3 hb c1 h'
    go_wp2_with fail
    exact bodyPost_ret (v := .tuple #[.agg #[.int .i64 F2, .int .i64 P2], .int .i64 C2]) (by simp [results, Try.results9, go_sem, t10, t11]) rfl ⟨by rw [E1.out, E2.out, E3.out], (hb3.setCell (Nat.le_refl _) _).setCell (Nat.le_refl _) _⟩

end Go.Proofs.Ytfddmfdfimaddaa
