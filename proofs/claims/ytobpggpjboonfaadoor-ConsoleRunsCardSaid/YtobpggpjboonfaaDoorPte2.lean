/-
  Contracts of layer 4: Put, fieldsOf, Get of package pte; those of the document.
-/
import Derived.Test.YtobpggpjboonfaaDoorPte1
import Derived.Test.YtobpggpjboonfaaDoorPlain2
import Derived.Test.YtobpggpjboonfaaDoorNum
import Derived.Test.YtobpggpjboonfaaDoorMem
namespace Go.Proofs.YtobpggpjboonfaaDoor
open Go.RowKit
set_option linter.unusedVariables false
set_option maxRecDepth 100000

theorem below_alloc {w w1 : World} {o : Obj} (h : Below (w.alloc o).heap.size (w.alloc o) w1) : Below w.heap.size w w1 := ((Below.refl _ _).alloc (Nat.le_refl _) o).trans (h.mono (by simp))
theorem errno_no (n : Int) (h : n ≠ 0) : (n != 0) = true := by simpa using h

theorem eput_any (f p : Int) (w : World) :
    Calls Tryd.prog 49 #[.agg #[.int .i64 f, .int .i64 p]] w fun e w' => e = .returned (.tuple #[.int .i64 (eN f p), .int .i64 (e4 (eB f p))]) ∧ Below w.heap.size w w' := by
  by_cases hb : eB f p = true
  · rw [hb]
    have HB := Lib.hid hb
    have hb := of_decide_eq_true hb
    by_cases hp : p = 0
    · subst hp
      rw [eN_zero]
      clear hb
      go_enter Tryd.func49, Tryd.ntmps49
      go_wp2_with fail
      refine (emay_any _ _ _).mono ?_
      rintro e w1 ⟨rfl, b1⟩
      rw [HB.out]
      have hc := b1.cell (p := ⟨w.heap.size, 0, none⟩) (by simp)
      have hc1 := b1.cell (p := ⟨w.heap.size, 1, none⟩) (by simp)
      go_wp2
      go_ret2
      exact ⟨rfl, below_alloc b1⟩
    · have h1 : 1 ≤ p := by omega
      have h2 : p ≤ 3 := by omega
      have h3 : 0 ≤ f := by omega
      have h4 : f < 64 := by omega
      have hp' : (p == 0) = false := by simpa using hp
      clear hb hp
      have HN := Lib.hid (eN_yes f p h1 h2 h3 h4)
      have HO := Lib.hid (e_or f p h1 h2 h3 h4)
      go_enter Tryd.func49, Tryd.ntmps49
      go_wp2_with fail
      refine (emay_any _ _ _).mono ?_
      rintro e w1 ⟨rfl, b1⟩
      rw [HB.out]
      have hc := b1.cell (p := ⟨w.heap.size, 0, none⟩) (by simp)
      have hc1 := b1.cell (p := ⟨w.heap.size, 1, none⟩) (by simp)
      go_wp2
      go_ret2
      exact ⟨by rw [HN.out, ← HO.out]; rfl, below_alloc b1⟩
  · have hb : eB f p = false := by simpa using hb
    rw [eN_no f p hb, hb]
    have HB := Lib.hid hb; clear hb
    go_enter Tryd.func49, Tryd.ntmps49
    go_wp2_with fail
    refine (emay_any _ _ _).mono ?_
    rintro e w1 ⟨rfl, b1⟩
    rw [HB.out]
    go_wp2
    go_ret2
    exact ⟨rfl, below_alloc b1⟩

theorem fields_any (x : Int) (w : World) :
    Calls Tryd.prog 66 #[.int .i64 x] w fun e w' => e = .returned (.agg #[.int .i64 (x / 4096), .int .i64 (x / 2 % 4)]) ∧ Below w.heap.size w w' := by
  have hm : bits BinOp.and IntKind.i64 (x / 2) 3 = x / 2 % 4 := maskB (x / 2) 2 (by omega)
  go_enter Tryd.func66, Tryd.ntmps66
  go_wp2
  exact bodyPost_ret (v := .agg #[.int .i64 (x / 4096), .int .i64 (x / 2 % 4)]) (by simp [results, Tryd.results66, go_sem]) rfl ⟨rfl, (Below.refl _ _).alloc (Nat.le_refl _) _⟩

/-- What Get answers of a word. -/
def getV (x : Int) : Value := .tuple #[.agg #[.int .i64 (gF x), .int .i64 (gP x)], .int .i64 (e4 (gB x))]

theorem get_parts (x : Int) : (gB x = true ∧ eB (x / 4096) (x / 2 % 4) = true ∧ eN (x / 4096) (x / 2 % 4) = x) ∨ (gB x = false ∧ eB (x / 4096) (x / 2 % 4) = false) ∨ (gB x = false ∧ eB (x / 4096) (x / 2 % 4) = true ∧ (eN (x / 4096) (x / 2 % 4) != x) = true) := by
  by_cases h : gB x = true
  · exact .inl ⟨h, (gB_fields x).1 h⟩
  · have h' : gB x = false := by simpa using h
    by_cases hb : eB (x / 4096) (x / 2 % 4) = true
    · refine .inr (.inr ⟨h', hb, ?_⟩)
      simp only [bne_iff_ne]
      intro he
      exact h ((gB_fields x).2 ⟨hb, he⟩)
    · exact .inr (.inl ⟨h', by simpa using hb⟩)

/-- A block of an entry's two numbers, as the walk asks for it. -/
theorem two_at {w : World} {g : Nat} {t : TypeId} {x y : Value} (h : Blk w g t [x, y]) : w.cell? ⟨g, 0, none⟩ = some x ∧ w.cell? ⟨g, 1, none⟩ = some y ∧ w.frozen? ⟨g, 0, none⟩ = false ∧ w.frozen? ⟨g, 1, none⟩ = false :=
  ⟨h.cell 0, h.cell 1, h.frozen 0, h.frozen 1⟩

set_option maxHeartbeats 1000000 in
theorem eget_any (x : Int) (w : World) :
    Calls Tryd.prog 50 #[.int .i64 x] w fun e w' => e = .returned (getV x) ∧ Below w.heap.size w w' := by
  have hq := get_parts x
  generalize hF : x / 4096 = F at *
  generalize hP : x / 2 % 4 = P at *
  have HF := Lib.hid hF; have HP := Lib.hid hP; clear hF hP
  have t0 := Blk.new w 62 [.int .i64 0, .int .i64 0]
  have HV : Hid ((gB x = true ∧ getV x = .tuple #[.agg #[.int .i64 F, .int .i64 P], .int .i64 0]) ∨ (gB x = false ∧ getV x = .tuple #[.agg #[.int .i64 0, .int .i64 0], .int .i64 400])) := by
    apply Lib.hid
    unfold getV
    rcases hq with ⟨hg, _⟩ | ⟨hg, _⟩ | ⟨hg, _⟩
    · left; rw [gF_eq x hg, gP_eq x hg, hg, HF.out, HP.out]; exact ⟨rfl, rfl⟩
    · right; rw [gF_no x hg, gP_no x hg, hg]; exact ⟨rfl, rfl⟩
    · right; rw [gF_no x hg, gP_no x hg, hg]; exact ⟨rfl, rfl⟩
  have HQ := Lib.hid hq; clear hq
  go_enter Tryd.func50, Tryd.ntmps50
  go_wp2_with fail
  refine (fields_any _ _).mono ?_
  rintro e w1 ⟨rfl, b1⟩
  rw [HF.out, HP.out]
  have hs1 := b1.size
  have t1 := (t0.below b1 t0.lt).alloc (.cells #[.int .i64 F, .int .i64 P] 62)
  have c1 := Blk.new w1 62 [.int .i64 F, .int .i64 P]
  go_wp2_with fail
  refine (eput_any _ _ _).mono ?_
  rintro e w2 ⟨rfl, b2⟩
  have t2 := two_at (t1.below b2 t1.lt)
  have c2 := two_at (c1.below b2 c1.lt)
  have hb : Below w.heap.size w w2 := (below_alloc b1).trans ((below_alloc b2).mono (by simp at hs1; omega))
  obtain ⟨t20, t21, t2f, t2g⟩ := t2
  obtain ⟨c20, c21, _, _⟩ := c2
  have hne : w1.heap.size ≠ w.heap.size := by simp at hs1; omega
  clear t0 t1 c1 b1 b2 hs1
  rcases HQ.out with ⟨hg, hb1, hn⟩ | ⟨hg, hb1⟩ | ⟨hg, hb1, hn⟩
  · rw [hb1, hn, show e4 true = 0 from rfl]
    have HV' : Hid (getV x = .tuple #[.agg #[.int .i64 F, .int .i64 P], .int .i64 0]) := by
      apply Lib.hid
      rcases HV.out with ⟨_, h⟩ | ⟨h, _⟩
      · exact h
      · rw [hg] at h; cases h
    clear hb1 hn hg
    go_wp2_with fail
    exact bodyPost_ret (v := .tuple #[.agg #[.int .i64 F, .int .i64 P], .int .i64 0]) (by simp [results, Tryd.results50, go_sem, t20, t21]) rfl ⟨by rw [HV'.out], (hb.setCell (Nat.le_refl _) _).setCell (Nat.le_refl _) _⟩
  · have HV' : Hid (getV x = .tuple #[.agg #[.int .i64 0, .int .i64 0], .int .i64 400]) := by
      apply Lib.hid
      rcases HV.out with ⟨h, _⟩ | ⟨_, h⟩
      · rw [hg] at h; cases h
      · exact h
    rw [hb1, show e4 false = 400 from rfl]
    clear hb1 hg
    go_wp2_with fail
    exact bodyPost_ret (v := .tuple #[.agg #[.int .i64 0, .int .i64 0], .int .i64 400]) (by simp [results, Tryd.results50, go_sem, t20, t21]) rfl ⟨by rw [HV'.out], (hb.setCell (Nat.le_refl _) _).setCell (Nat.le_refl _) _⟩
  · have HV' : Hid (getV x = .tuple #[.agg #[.int .i64 0, .int .i64 0], .int .i64 400]) := by
      apply Lib.hid
      rcases HV.out with ⟨h, _⟩ | ⟨_, h⟩
      · rw [hg] at h; cases h
      · exact h
    rw [hb1, show e4 true = 0 from rfl]
    clear hb1 hg
    go_wp2_with fail
    exact bodyPost_ret (v := .tuple #[.agg #[.int .i64 0, .int .i64 0], .int .i64 400]) (by simp [results, Tryd.results50, go_sem, t20, t21]) rfl ⟨by rw [HV'.out], (hb.setCell (Nat.le_refl _) _).setCell (Nat.le_refl _) _⟩

end Go.Proofs.YtobpggpjboonfaaDoor
