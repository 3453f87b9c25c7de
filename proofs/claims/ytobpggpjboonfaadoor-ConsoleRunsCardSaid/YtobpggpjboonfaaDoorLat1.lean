/-
  Contracts of layer 9: May, Dominates, Join of package lattice; those of the document.
-/
import Derived.Test.YtobpggpjboonfaaDoorLat0
import Derived.Test.YtobpggpjboonfaaDoorPlain2
import Derived.Test.YtobpggpjboonfaaDoorNum
import Derived.Test.YtobpggpjboonfaaDoorMem
namespace Go.Proofs.YtobpggpjboonfaaDoor
open Go.RowKit
set_option linter.unusedVariables false
set_option maxRecDepth 100000

/-- A block of two cells, as the walk asks for it. -/
theorem pair_at {w : World} {g : Nat} {t : TypeId} {x y : Value} (h : Blk w g t [x, y]) : w.cell? ⟨g, 0, none⟩ = some x ∧ w.cell? ⟨g, 1, none⟩ = some y ∧ w.frozen? ⟨g, 0, none⟩ = false ∧ w.frozen? ⟨g, 1, none⟩ = false :=
  ⟨h.cell 0, h.cell 1, h.frozen 0, h.frozen 1⟩

theorem may_parts (l c : Int) : lB l c = true ∧ 0 ≤ l ∧ l ≤ 3 ∧ 0 ≤ c ∧ c ≤ 15 ∨ lB l c = false ∧ (l < 0 ∨ 0 ≤ l ∧ 3 < l ∨ 0 ≤ l ∧ l ≤ 3 ∧ c < 0 ∨ 0 ≤ l ∧ l ≤ 3 ∧ 0 ≤ c ∧ decide (c ≤ 15) = false) := by
  by_cases h : 0 ≤ l ∧ l ≤ 3 ∧ 0 ≤ c ∧ c ≤ 15
  · exact .inl ⟨decide_eq_true h, h⟩
  · refine .inr ⟨decide_eq_false h, ?_⟩
    rw [decide_eq_false_iff_not]
    omega

theorem lmay_any (l c : Int) (w : World) :
    Calls Tryd.prog 67 #[.agg #[.int .i64 l, .int .i64 c]] w fun e w' => e = .returned (.bool (lB l c)) ∧ Below w.heap.size w w' := by
  rcases may_parts l c with ⟨h, h0, h1, h2, h3⟩ | ⟨h, h0 | ⟨h0, h1⟩ | ⟨h0, h1, h2⟩ | ⟨h0, h1, h2, h3⟩⟩
  all_goals
    rw [h]; clear h
    go_enter Tryd.func67, Tryd.ntmps67
    go_wp2
    go_ret
    exact ⟨rfl, (Below.refl _ _).alloc (Nat.le_refl _) _⟩

theorem rlmay_any (l c : Int) (w : World) :
    Calls Tryd.prog 45 #[.agg #[.int .i64 l, .int .i64 c]] w fun e w' => e = .returned (.bool (lB l c)) ∧ Below w.heap.size w w' := by
  rcases may_parts l c with ⟨h, h0, h1, h2, h3⟩ | ⟨h, h0 | ⟨h0, h1⟩ | ⟨h0, h1, h2⟩ | ⟨h0, h1, h2, h3⟩⟩
  all_goals
    rw [h]; clear h
    go_enter Tryd.func45, Tryd.ntmps45
    go_wp2
    go_ret
    exact ⟨rfl, (Below.refl _ _).alloc (Nat.le_refl _) _⟩

theorem lmay_is (l c : Int) (b : Bool) (w : World) (h : lB l c = b) :
    Calls Tryd.prog 67 #[.agg #[.int .i64 l, .int .i64 c]] w fun e w' => e = .returned (.bool b) ∧ Below w.heap.size w w' := by subst h; exact lmay_any l c w
theorem rlmay_is (l c : Int) (b : Bool) (w : World) (h : lB l c = b) :
    Calls Tryd.prog 45 #[.agg #[.int .i64 l, .int .i64 c]] w fun e w' => e = .returned (.bool b) ∧ Below w.heap.size w w' := by subst h; exact rlmay_any l c w

/-- The ways of a call of Dominates: Q is what its last test makes of the categories. -/
theorem dom_parts (l c l' c' : Int) (Q : Bool) (hQ : 0 ≤ c → c ≤ 15 → 0 ≤ c' → c' ≤ 15 → Q = hasB c c') :
    lB l c = false ∧ lD l c l' c' = false ∨ lB l c = true ∧ lB l' c' = false ∧ lD l c l' c' = false ∨ lB l c = true ∧ lB l' c' = true ∧ l < l' ∧ lD l c l' c' = false ∨ lB l c = true ∧ lB l' c' = true ∧ l' ≤ l ∧ Q = lD l c l' c' := by
  by_cases h : lB l c = true
  · by_cases h' : lB l' c' = true
    · have a := lB_of h
      have b := lB_of h'
      by_cases hl : l' ≤ l
      · refine .inr (.inr (.inr ⟨h, h', hl, ?_⟩))
        rw [hQ (by omega) (by omega) (by omega) (by omega)]
        unfold lD; rw [h, h', decide_eq_true hl]; simp
      · refine .inr (.inr (.inl ⟨h, h', by omega, ?_⟩))
        unfold lD; rw [decide_eq_false hl]; simp
    · exact .inr (.inl ⟨h, by simpa using h', lD_no _ _ _ _ (.inr (by simpa using h'))⟩)
  · exact .inl ⟨by simpa using h, lD_no _ _ _ _ (.inl (by simpa using h))⟩

set_option maxHeartbeats 1000000 in
theorem ldom_any (l c l' c' : Int) (w : World) :
    Calls Tryd.prog 52 #[.agg #[.int .i64 l, .int .i64 c], .agg #[.int .i64 l', .int .i64 c']] w fun e w' => e = .returned (.bool (lD l c l' c')) ∧ Below w.heap.size w w' := by
  have hp := dom_parts l c l' c' _ (fun h0 h1 h2 h3 => (bits_has c c' h0 h1 h2 h3).1)
  generalize hQ : bits BinOp.andNot IntKind.i64 c' c = Q at hp
  generalize hD : lD l c l' c' = D at *
  clear hD
  have t0 := (Blk.new w 68 [.int .i64 l, .int .i64 c]).alloc (.cells #[.int .i64 l', .int .i64 c'] 68)
  have u0 := Blk.new (w.alloc (.cells #[.int .i64 l, .int .i64 c] 68)) 68 [.int .i64 l', .int .i64 c']
  rw [World.size_alloc] at u0
  have b0 : Below w.heap.size w ((w.alloc (.cells #[.int .i64 l, .int .i64 c] 68)).alloc (.cells #[.int .i64 l', .int .i64 c'] 68)) := ((Below.refl _ _).alloc (Nat.le_refl _) _).alloc (by simp) _
  have HP := Lib.hid hp
  clear hp
  go_enter Tryd.func52, Tryd.ntmps52
  go_wp2_with fail
  generalize hw0 : (w.alloc (.cells #[.int .i64 l, .int .i64 c] 68)).alloc (.cells #[.int .i64 l', .int .i64 c'] 68) = w0 at *
  have hs0 := b0.size
  clear hw0
  refine (lmay_any _ _ _).mono ?_
  rintro e w1 ⟨rfl, b1⟩
  have t1 := t0.below b1 t0.lt
  have u1 := u0.below b1 u0.lt
  have k1 := Below.down b0 b1 hs0
  have hs1 := k1.size
  clear t0 u0 b0 hs0 b1
  obtain ⟨x0, x1, _, _⟩ := pair_at t1
  obtain ⟨x2, x3, _, _⟩ := pair_at u1
  rcases HP.out with ⟨h1, rfl⟩ | ⟨h1, h2, rfl⟩ | ⟨h1, h2, h3, rfl⟩ | ⟨h1, h2, h3, rfl⟩
  · rw [h1]; clear h1 HP
    go_wp2_with fail
    go_ret
    exact ⟨rfl, k1⟩
  all_goals
    rw [h1]; clear h1 HP
    go_wp2_with fail
    refine (lmay_any _ _ _).mono ?_
    rintro e w2 ⟨rfl, b2⟩
    have t2 := t1.below b2 t1.lt
    have u2 := u1.below b2 u1.lt
    have k2 := Below.down k1 b2 hs1
    rw [h2]; clear h2 t1 u1 b2 x0 x1 x2 x3
    obtain ⟨x0, x1, _, _⟩ := pair_at t2
    obtain ⟨x2, x3, _, _⟩ := pair_at u2
    clear t2 u2
    go_wp2_with fail
    go_ret
    exact ⟨rfl, k2⟩

set_option maxHeartbeats 1000000 in
theorem rldom_any (l c l' c' : Int) (w : World) :
    Calls Tryd.prog 31 #[.agg #[.int .i64 l, .int .i64 c], .agg #[.int .i64 l', .int .i64 c']] w fun e w' => e = .returned (.bool (lD l c l' c')) ∧ Below w.heap.size w w' := by
  have hp := dom_parts l c l' c' _ (fun h0 h1 h2 h3 => (bits_has c c' h0 h1 h2 h3).2.1)
  generalize hQ : bits BinOp.and IntKind.i64 c c' = Q at hp
  generalize hD : lD l c l' c' = D at *
  clear hD
  have t0 := (Blk.new w 68 [.int .i64 l, .int .i64 c]).alloc (.cells #[.int .i64 l', .int .i64 c'] 68)
  have u0 := Blk.new (w.alloc (.cells #[.int .i64 l, .int .i64 c] 68)) 68 [.int .i64 l', .int .i64 c']
  rw [World.size_alloc] at u0
  have b0 : Below w.heap.size w ((w.alloc (.cells #[.int .i64 l, .int .i64 c] 68)).alloc (.cells #[.int .i64 l', .int .i64 c'] 68)) := ((Below.refl _ _).alloc (Nat.le_refl _) _).alloc (by simp) _
  have HP := Lib.hid hp
  clear hp
  go_enter Tryd.func31, Tryd.ntmps31
  go_wp2_with fail
  generalize hw0 : (w.alloc (.cells #[.int .i64 l, .int .i64 c] 68)).alloc (.cells #[.int .i64 l', .int .i64 c'] 68) = w0 at *
  have hs0 := b0.size
  clear hw0
  refine (rlmay_any _ _ _).mono ?_
  rintro e w1 ⟨rfl, b1⟩
  have t1 := t0.below b1 t0.lt
  have u1 := u0.below b1 u0.lt
  have k1 := Below.down b0 b1 hs0
  have hs1 := k1.size
  clear t0 u0 b0 hs0 b1
  obtain ⟨x0, x1, _, _⟩ := pair_at t1
  obtain ⟨x2, x3, _, _⟩ := pair_at u1
  rcases HP.out with ⟨h1, rfl⟩ | ⟨h1, h2, rfl⟩ | ⟨h1, h2, h3, rfl⟩ | ⟨h1, h2, h3, rfl⟩
  · rw [h1]; clear h1 HP
    go_wp2_with fail
    go_ret
    exact ⟨rfl, k1⟩
  all_goals
    rw [h1]; clear h1 HP
    go_wp2_with fail
    refine (rlmay_any _ _ _).mono ?_
    rintro e w2 ⟨rfl, b2⟩
    have t2 := t1.below b2 t1.lt
    have u2 := u1.below b2 u1.lt
    have k2 := Below.down k1 b2 hs1
    rw [h2]; clear h2 t1 u1 b2 x0 x1 x2 x3
    obtain ⟨x0, x1, _, _⟩ := pair_at t2
    obtain ⟨x2, x3, _, _⟩ := pair_at u2
    clear t2 u2
    go_wp2_with fail
    go_ret
    exact ⟨rfl, k2⟩

/-- The ways of a call of Join: Q is the bits of both. -/
theorem join_parts (l c l' c' : Int) (Q : Int) (hQ : 0 ≤ c → c ≤ 15 → 0 ≤ c' → c' ≤ 15 → Q = orC c c') :
    lB l c = false ∧ jL l c l' c' = 0 ∧ jC l c l' c' = 0 ∧ jE l c l' c' = 900 ∨ lB l c = true ∧ lB l' c' = false ∧ jL l c l' c' = 0 ∧ jC l c l' c' = 0 ∧ jE l c l' c' = 900 ∨
    lB l c = true ∧ lB l' c' = true ∧ l < l' ∧ l' = jL l c l' c' ∧ Q = jC l c l' c' ∧ jE l c l' c' = 0 ∨ lB l c = true ∧ lB l' c' = true ∧ l' ≤ l ∧ l = jL l c l' c' ∧ Q = jC l c l' c' ∧ jE l c l' c' = 0 := by
  by_cases h : lB l c = true
  · by_cases h' : lB l' c' = true
    · have a := lB_of h
      have b := lB_of h'
      obtain ⟨j1, j2, j3⟩ := join_yes l c l' c' h h'
      rw [j1, j2, j3, hQ (by omega) (by omega) (by omega) (by omega)]
      by_cases hl : l' ≤ l
      · refine .inr (.inr (.inr ⟨h, h', hl, ?_, rfl, rfl⟩)); unfold mxL; rw [if_neg (by omega)]
      · refine .inr (.inr (.inl ⟨h, h', by omega, ?_, rfl, rfl⟩)); unfold mxL; rw [if_pos (by omega)]
    · exact .inr (.inl ⟨h, by simpa using h', join_no _ _ _ _ (.inr (by simpa using h'))⟩)
  · exact .inl ⟨by simpa using h, join_no _ _ _ _ (.inl (by simpa using h))⟩

end Go.Proofs.YtobpggpjboonfaaDoor
