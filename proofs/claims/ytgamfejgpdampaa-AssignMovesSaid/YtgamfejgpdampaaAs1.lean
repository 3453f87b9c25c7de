/-
  Layer 15, the program: states, and steps from one to another.
-/
import Derived.Test.YtgamfejgpdampaaAs0
import Derived.Test.YtgamfejgpdampaaChecked
namespace Go.Proofs.Ytgamfejgpdampaa
open Go.RowKit
set_option linter.unusedVariables false
set_option maxRecDepth 100000

theorem asgd_any (p : Int) (w : World) :
    Calls Try.prog 22 #[.int .i64 p] w fun e w' => e = .returned (.agg #[.int .i64 0, .int .i64 p, .int .i64 0]) ∧ Below w.heap.size w w' := by
  go_enter Try.func22, Try.ntmps22
  go_wp2
  exact bodyPost_ret (v := .agg #[.int .i64 0, .int .i64 p, .int .i64 0]) (by simp [results, Try.results22, go_sem]) rfl ⟨rfl, (Below.refl _ _).alloc (Nat.le_refl _) _⟩

theorem aqui_any (p l : Int) (w : World) :
    Calls Try.prog 28 #[.int .i64 p, .int .i64 l] w fun e w' => e = .returned (.agg #[.int .i64 1, .int .i64 p, .int .i64 l]) ∧ Below w.heap.size w w' := by
  go_enter Try.func28, Try.ntmps28
  go_wp2
  exact bodyPost_ret (v := .agg #[.int .i64 1, .int .i64 p, .int .i64 l]) (by simp [results, Try.results28, go_sem]) rfl ⟨rfl, (Below.refl _ _).alloc (Nat.le_refl _) _⟩

theorem aown_0 (o l : Int) (w : World) :
    Calls Try.prog 27 #[.agg #[.int .i64 0, .int .i64 o, .int .i64 l]] w fun e w' => e = .returned (.int .i64 o) ∧ Below w.heap.size w w' := by
  go_enter Try.func27, Try.ntmps27
  go_wp2
  go_ret
  exact ⟨rfl, (Below.refl _ _).alloc (Nat.le_refl _) _⟩
theorem aown_1 (o l : Int) (w : World) :
    Calls Try.prog 27 #[.agg #[.int .i64 1, .int .i64 o, .int .i64 l]] w fun e w' => e = .returned (.int .i64 (-1)) ∧ Below w.heap.size w w' := by
  go_enter Try.func27, Try.ntmps27
  go_wp2
  go_ret
  exact ⟨rfl, (Below.refl _ _).alloc (Nat.le_refl _) _⟩

theorem amv_1 (o l t q : Int) (w : World) :
    Calls Try.prog 24 #[.agg #[.int .i64 1, .int .i64 o, .int .i64 l], .int .i64 t, .int .i64 q] w fun e w' => e = .returned (.tuple #[.agg #[.int .i64 1, .int .i64 o, .int .i64 l], .int .i64 1501]) ∧ Below w.heap.size w w' := by
  go_enter Try.func24, Try.ntmps24
  go_wp2
  exact bodyPost_ret (v := .tuple #[.agg #[.int .i64 1, .int .i64 o, .int .i64 l], .int .i64 1501]) (by simp [results, Try.results24, go_sem]) rfl ⟨rfl, ((Below.refl _ _).alloc (Nat.le_refl _) _).alloc (by simp) _⟩

/-- A block of three cells, as the walk asks for it. -/
theorem tri_at {w : World} {g : Nat} {t : TypeId} {x y z : Value} (h : Blk w g t [x, y, z]) : w.cell? ⟨g, 0, none⟩ = some x ∧ w.cell? ⟨g, 1, none⟩ = some y ∧ w.cell? ⟨g, 2, none⟩ = some z ∧ w.frozen? ⟨g, 0, none⟩ = false ∧ w.frozen? ⟨g, 1, none⟩ = false ∧ w.frozen? ⟨g, 2, none⟩ = false :=
  ⟨h.cell 0, h.cell 1, h.cell 2, h.frozen 0, h.frozen 1, h.frozen 2⟩
/-- The world with the receiver boxed, and room for a state that is answered. -/
def w2A (w : World) (a b c : Int) : World := (w.alloc (.cells #[.int .i64 a, .int .i64 b, .int .i64 c] 51)).alloc (.cells #[.int .i64 0, .int .i64 0, .int .i64 0] 51)
theorem w2A_below (w : World) (a b c : Int) : Below w.heap.size w (w2A w a b c) := ((Below.refl _ _).alloc (Nat.le_refl _) _).alloc (by simp) _
theorem w2A_blk (w : World) (a b c : Int) : Blk (w2A w a b c) w.heap.size 51 [.int .i64 a, .int .i64 b, .int .i64 c] := (Blk.new w 51 [.int .i64 a, .int .i64 b, .int .i64 c]).alloc _
theorem w2A_res (w : World) (a b c : Int) : Blk (w2A w a b c) (w.heap.size + 1) 51 [.int .i64 0, .int .i64 0, .int .i64 0] := by
  have := Blk.new (w.alloc (.cells #[.int .i64 a, .int .i64 b, .int .i64 c] 51)) 51 [.int .i64 0, .int .i64 0, .int .i64 0]
  rwa [World.size_alloc] at this

theorem amv_0 (o l t q : Int) (w : World) :
    Calls Try.prog 24 #[.agg #[.int .i64 0, .int .i64 o, .int .i64 l], .int .i64 t, .int .i64 q] w fun e w' => e = .returned (.tuple #[.agg #[.int .i64 1, .int .i64 t, .int .i64 q], .int .i64 0]) ∧ Below w.heap.size w w' := by
  have hb := w2A_below w 0 o l
  have hr := w2A_res w 0 o l
  have hl := hr.lt
  go_enter Try.func24, Try.ntmps24
  go_wp2_with fail
  change Calls _ _ _ (w2A w 0 o l) _
  generalize w2A w 0 o l = wa at *
  refine (aqui_any _ _ _).mono ?_
  rintro e w1 ⟨rfl, b1⟩
  replace hr := hr.below b1 hl
  have hb1 := Below.down hb b1 hb.size
  obtain ⟨c0, c1, c2, f0, f1, f2⟩ := tri_at hr
  clear hb b1 hl
  go_wp2
  have hr2 := ((hr.set 0 (.int .i64 1)).set 1 (.int .i64 t)).set 2 (.int .i64 q)
  obtain ⟨d0, d1, d2, _, _, _⟩ := tri_at hr2
  exact bodyPost_ret (v := .tuple #[.agg #[.int .i64 1, .int .i64 t, .int .i64 q], .int .i64 0]) (by simp [results, Try.results24, go_sem, d0, d1, d2]) rfl ⟨rfl, ((hb1.setCell (by show w.heap.size ≤ w.heap.size + 1; omega) _).setCell (by show w.heap.size ≤ w.heap.size + 1; omega) _).setCell (by show w.heap.size ≤ w.heap.size + 1; omega) _⟩

theorem atk_0 (o l : Int) (w : World) :
    Calls Try.prog 26 #[.agg #[.int .i64 0, .int .i64 o, .int .i64 l]] w fun e w' => e = .returned (.tuple #[.agg #[.int .i64 0, .int .i64 o, .int .i64 l], .bool false]) ∧ Below w.heap.size w w' := by
  go_enter Try.func26, Try.ntmps26
  go_wp2
  exact bodyPost_ret (v := .tuple #[.agg #[.int .i64 0, .int .i64 o, .int .i64 l], .bool false]) (by simp [results, Try.results26, go_sem]) rfl ⟨rfl, ((Below.refl _ _).alloc (Nat.le_refl _) _).alloc (by simp) _⟩

theorem atk_1 (o l : Int) (w : World) (h : l ≤ 1) :
    Calls Try.prog 26 #[.agg #[.int .i64 1, .int .i64 o, .int .i64 l]] w fun e w' => e = .returned (.tuple #[.agg #[.int .i64 0, .int .i64 o, .int .i64 0], .bool true]) ∧ Below w.heap.size w w' := by
  have hb := w2A_below w 1 o l
  have hr := w2A_res w 1 o l
  have hl := hr.lt
  have h1 : ¬ (1 < l) := by omega
  go_enter Try.func26, Try.ntmps26
  go_wp2_with fail
  change Calls _ _ _ (w2A w 1 o l) _
  generalize w2A w 1 o l = wa at *
  refine (asgd_any _ _).mono ?_
  rintro e w1 ⟨rfl, b1⟩
  replace hr := hr.below b1 hl
  have hb1 := Below.down hb b1 hb.size
  obtain ⟨c0, c1, c2, f0, f1, f2⟩ := tri_at hr
  clear hb b1 hl
  go_wp2
  have hr2 := ((hr.set 0 (.int .i64 0)).set 1 (.int .i64 o)).set 2 (.int .i64 0)
  obtain ⟨d0, d1, d2, _, _, _⟩ := tri_at hr2
  exact bodyPost_ret (v := .tuple #[.agg #[.int .i64 0, .int .i64 o, .int .i64 0], .bool true]) (by simp [results, Try.results26, go_sem, d0, d1, d2]) rfl ⟨rfl, ((hb1.setCell (by show w.heap.size ≤ w.heap.size + 1; omega) _).setCell (by show w.heap.size ≤ w.heap.size + 1; omega) _).setCell (by show w.heap.size ≤ w.heap.size + 1; omega) _⟩

theorem atk_2 (o l : Int) (w : World) (h : 1 < l) (h8 : l ≤ 8) :
    Calls Try.prog 26 #[.agg #[.int .i64 1, .int .i64 o, .int .i64 l]] w fun e w' => e = .returned (.tuple #[.agg #[.int .i64 1, .int .i64 o, .int .i64 (l - 1)], .bool false]) ∧ Below w.heap.size w w' := by
  have hb := w2A_below w 1 o l
  have hr := w2A_res w 1 o l
  have hl := hr.lt
  go_enter Try.func26, Try.ntmps26
  go_wp2_with fail
  change Calls _ _ _ (w2A w 1 o l) _
  generalize w2A w 1 o l = wa at *
  refine (aqui_any _ _ _).mono ?_
  rintro e w1 ⟨rfl, b1⟩
  replace hr := hr.below b1 hl
  have hb1 := Below.down hb b1 hb.size
  obtain ⟨c0, c1, c2, f0, f1, f2⟩ := tri_at hr
  clear hb b1 hl
  go_wp2
  have hr2 := ((hr.set 0 (.int .i64 1)).set 1 (.int .i64 o)).set 2 (.int .i64 (l - 1))
  obtain ⟨d0, d1, d2, _, _, _⟩ := tri_at hr2
  exact bodyPost_ret (v := .tuple #[.agg #[.int .i64 1, .int .i64 o, .int .i64 (l - 1)], .bool false]) (by simp [results, Try.results26, go_sem, d0, d1, d2]) rfl ⟨rfl, ((hb1.setCell (by show w.heap.size ≤ w.heap.size + 1; omega) _).setCell (by show w.heap.size ≤ w.heap.size + 1; omega) _).setCell (by show w.heap.size ≤ w.heap.size + 1; omega) _⟩
end Go.Proofs.Ytgamfejgpdampaa
