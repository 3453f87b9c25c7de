/-
  Contracts of layer 4's document: PutEntry, GetEntry.
-/
import Derived.Test.YtobpggpjboonfaaDoorPte2
namespace Go.Proofs.YtobpggpjboonfaaDoor
open Go.RowKit
set_option linter.unusedVariables false
set_option maxRecDepth 100000

theorem reput_any (f p : Int) (w : World) :
    Calls Tryd.prog 28 #[.agg #[.int .i64 f, .int .i64 p]] w fun e w' => e = .returned (.tuple #[.int .i64 (eN f p), .int .i64 (e4 (eB f p))]) ∧ Below w.heap.size w w' := by
  by_cases hb : eB f p = true
  · rw [hb]
    have HB := Lib.hid hb
    have hb := of_decide_eq_true hb
    by_cases hp : p = 0
    · subst hp
      rw [eN_zero]
      clear hb
      go_enter Tryd.func28, Tryd.ntmps28
      go_wp2_with fail
      refine (remay_any _ _ _).mono ?_
      rintro e w1 ⟨rfl, b1⟩
      rw [HB.out]
      have hc := b1.cell (p := ⟨w.heap.size, 0, none⟩) (by simp)
      have hc1 := b1.cell (p := ⟨w.heap.size, 1, none⟩) (by simp)
      go_wp2
      go_ret2
      exact ⟨rfl, below_alloc b1⟩
    · have h1 : 1 ≤ p := by omega
      have h2 : p ≤ 3 := by omega
      have h3 : 0 ≤ f := by omega
      have h4 : f < 64 := by omega
      have hp' : (p == 0) = false := by simpa using hp
      clear hb hp
      have HN := Lib.hid (eN_yes f p h1 h2 h3 h4)
      go_enter Tryd.func28, Tryd.ntmps28
      go_wp2_with fail
      refine (remay_any _ _ _).mono ?_
      rintro e w1 ⟨rfl, b1⟩
      rw [HB.out]
      have hc := b1.cell (p := ⟨w.heap.size, 0, none⟩) (by simp)
      have hc1 := b1.cell (p := ⟨w.heap.size, 1, none⟩) (by simp)
      go_wp2
      go_ret2
      exact ⟨by rw [HN.out]; rfl, below_alloc b1⟩
  · have hb : eB f p = false := by simpa using hb
    rw [eN_no f p hb, hb]
    have HB := Lib.hid hb; clear hb
    go_enter Tryd.func28, Tryd.ntmps28
    go_wp2_with fail
    refine (remay_any _ _ _).mono ?_
    rintro e w1 ⟨rfl, b1⟩
    rw [HB.out]
    go_wp2
    go_ret2
    exact ⟨rfl, below_alloc b1⟩

theorem regetz (w : World) :
    Calls Tryd.prog 30 #[.int .i64 0] w fun e w' => e = .returned (getV 0) ∧ Below w.heap.size w w' := by
  go_enter Tryd.func30, Tryd.ntmps30
  go_wp2
  exact bodyPost_ret (v := .tuple #[.agg #[.int .i64 0, .int .i64 0], .int .i64 0]) (by simp [results, Tryd.results30, go_sem]) rfl ⟨rfl, (Below.refl _ _).alloc (Nat.le_refl _) _⟩

set_option maxHeartbeats 1000000 in
theorem reget_any (x : Int) (w : World) :
    Calls Tryd.prog 30 #[.int .i64 x] w fun e w' => e = .returned (getV x) ∧ Below w.heap.size w w' := by
  by_cases hx : x = 0
  · subst hx; exact regetz w
  have hx0 : (x == 0) = false := by simpa using hx
  have hq := get_parts x
  have hm : bits BinOp.and IntKind.i64 (x / 2) 3 = x / 2 % 4 := maskB (x / 2) 2 (by omega)
  generalize hF : x / 4096 = F at *
  generalize hP : x / 2 % 4 = P at *
  have HF := Lib.hid hF; have HP := Lib.hid hP
  have t0 := Blk.new w 62 [.int .i64 0, .int .i64 0]
  have HX : Hid (gB x = true → 0 ≤ x) := Lib.hid (fun h => by have := of_decide_eq_true h; omega)
  have HV : Hid ((gB x = true ∧ getV x = .tuple #[.agg #[.int .i64 F, .int .i64 P], .int .i64 0]) ∨ (gB x = false ∧ getV x = .tuple #[.agg #[.int .i64 0, .int .i64 0], .int .i64 400])) := by
    apply Lib.hid
    unfold getV
    rcases hq with ⟨hg, _⟩ | ⟨hg, _⟩ | ⟨hg, _⟩
    · left; rw [gF_eq x hg, gP_eq x hg, hg, HF.out, HP.out]; exact ⟨rfl, rfl⟩
    · right; rw [gF_no x hg, gP_no x hg, hg]; exact ⟨rfl, rfl⟩
    · right; rw [gF_no x hg, gP_no x hg, hg]; exact ⟨rfl, rfl⟩
  have HQ := Lib.hid hq; clear hq hP hx
  go_enter Tryd.func30, Tryd.ntmps30
  go_wp2_with fail
  clear hm hF
  have c1 := Blk.new (w.alloc (.cells #[.int .i64 0, .int .i64 0] 62)) 62 [.int .i64 F, .int .i64 P]
  have t1 := t0.alloc (.cells #[.int .i64 F, .int .i64 P] 62)
  refine (reput_any _ _ _).mono ?_
  rintro e w2 ⟨rfl, b2⟩
  have t2 := two_at (t1.below b2 t1.lt)
  have c2 := two_at (c1.below b2 c1.lt)
  have hb : Below w.heap.size w w2 := (((Below.refl _ _).alloc (Nat.le_refl _) _).alloc (by simp) _).trans (b2.mono (by simp; omega))
  obtain ⟨t20, t21, t2f, t2g⟩ := t2
  obtain ⟨c20, c21, _, _⟩ := c2
  have hsz : (w.alloc (.cells #[.int .i64 0, .int .i64 0] 62)).heap.size = w.heap.size + 1 := by simp
  rw [hsz] at c20 c21
  clear t0 t1 c1 b2 hsz
  rcases HQ.out with ⟨hg, hb1, hn⟩ | ⟨hg, hb1⟩ | ⟨hg, hb1, hn⟩
  · rw [hb1, hn, show e4 true = 0 from rfl]
    have hx := HX.out hg
    have HV' : Hid (getV x = .tuple #[.agg #[.int .i64 F, .int .i64 P], .int .i64 0]) := by
      apply Lib.hid
      rcases HV.out with ⟨_, h⟩ | ⟨h, _⟩
      · exact h
      · rw [hg] at h; cases h
    clear hb1 hn hg
    go_wp2_with fail
    exact bodyPost_ret (v := .tuple #[.agg #[.int .i64 F, .int .i64 P], .int .i64 0]) (by simp [results, Tryd.results30, go_sem, t20, t21]) rfl ⟨by rw [HV'.out], (hb.setCell (Nat.le_refl _) _).setCell (Nat.le_refl _) _⟩
  all_goals
    have HV' : Hid (getV x = .tuple #[.agg #[.int .i64 0, .int .i64 0], .int .i64 400]) := by
      apply Lib.hid
      rcases HV.out with ⟨h, _⟩ | ⟨_, h⟩
      · rw [hg] at h; cases h
      · exact h
    rw [hb1]
    first | rw [show e4 true = 0 from rfl] | rw [show e4 false = 400 from rfl]
    clear hb1 hg
    by_cases hx : x < 0
    all_goals
      go_wp2_with fail
      exact bodyPost_ret (v := .tuple #[.agg #[.int .i64 0, .int .i64 0], .int .i64 400]) (by simp [results, Tryd.results30, go_sem, t20, t21]) rfl ⟨by rw [HV'.out], (hb.setCell (Nat.le_refl _) _).setCell (Nat.le_refl _) _⟩

end Go.Proofs.YtobpggpjboonfaaDoor
