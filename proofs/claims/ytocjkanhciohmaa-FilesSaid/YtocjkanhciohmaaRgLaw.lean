/-
  Layer 14's law Files: it answers true for every input.
-/
import Derived.Test.YtocjkanhciohmaaRgAwake
import Derived.Test.YtocjkanhciohmaaRg1
import Derived.Test.YtocjkanhciohmaaArgs
import Derived.StillTailTactics
namespace Go.Proofs.Ytocjkanhciohmaa
open Go.RowKit Go.Deep
set_option linter.unusedVariables false
set_option maxRecDepth 100000

/-- The i-th act. -/
def ActG (xs : List Value) (i : Nat) : Prop := ∃ (K X R Y : Int), xs[i * 4]? = some (.int .i64 K) ∧ xs[i * 4 + 1]? = some (.int .i64 X) ∧ xs[i * 4 + 2]? = some (.int .i64 R) ∧ xs[i * 4 + 3]? = some (.int .i64 Y)
theorem actsg_ints {n : Nat} {zs : List Int} (hl : zs.length = n * 4) : ∀ i, i < n → ActG (ints zs) i := fun i hi =>
  ⟨zs.getD (i * 4) 0, zs.getD (i * 4 + 1) 0, zs.getD (i * 4 + 2) 0, zs.getD (i * 4 + 3) 0, ints_get zs _ (by omega), ints_get zs _ (by omega), ints_get zs _ (by omega), ints_get zs _ (by omega)⟩
/-- The cells of a slice's k-th act. -/
theorem rec4g {w : World} {A : Option Addr} {n c : Nat} {xs : List Value} (h : Sl w (.slice A n c) n 4 xs) (ha : ∀ i, i < n → ActG xs i) (k : Nat) (hk : k < n) :
    ∃ b o, A = some ⟨b, o, none⟩ ∧ b < w.heap.size ∧ ∃ (K X R Y : Int), w.cell? ⟨b, o + k * 4, none⟩ = some (.int .i64 K) ∧ w.cell? ⟨b, o + k * 4 + 1, none⟩ = some (.int .i64 X) ∧ w.cell? ⟨b, o + k * 4 + 2, none⟩ = some (.int .i64 R) ∧ w.cell? ⟨b, o + k * 4 + 3, none⟩ = some (.int .i64 Y) := by
  obtain ⟨A', c', e, _, hl, hA⟩ := h
  simp only [Value.slice.injEq] at e
  obtain ⟨rfl, _, rfl⟩ := e
  obtain ⟨b, o, rfl, hb, hc⟩ := hA (by omega)
  obtain ⟨K, X, R, Y, h0, h1, h2, h3⟩ := ha k hk
  refine ⟨b, o, rfl, hb, K, X, R, Y, hc _ _ h0, ?_, ?_, ?_⟩
  · have := hc _ _ h1; rwa [← Nat.add_assoc] at this
  · have := hc _ _ h2; rwa [← Nat.add_assoc] at this
  · have := hc _ _ h3; rwa [← Nat.add_assoc] at this
/-- An act's cells. -/
def actG (K X R Y : Int) : List Value := [.int .i64 K, .int .i64 X, .int .i64 R, .int .i64 Y]
theorem actG_at {w : World} {k : Nat} {K X R Y : Int} (h : Blk w k 33 (actG K X R Y)) : w.cell? ⟨k, 0, none⟩ = some (.int .i64 K) ∧ w.cell? ⟨k, 1, none⟩ = some (.int .i64 X) ∧ w.cell? ⟨k, 2, none⟩ = some (.int .i64 R) ∧ w.cell? ⟨k, 3, none⟩ = some (.int .i64 Y) := by
  refine ⟨?_, ?_, ?_, ?_⟩ <;> (rw [h.cell]; rfl)
theorem num_stg (n : Int) (w : World) : Calls Try.prog 8 #[.int .i64 n] w fun e w' => e = .returned (.int .i64 n) ∧ w' = w := (num_any n w).mono fun _ _ ⟨he, hw⟩ => ⟨he, hw.symm⟩

/-- Both say the same. -/
def Bg (W0 : World) (g y D : Nat) (w : World) : Prop := ∃ F, Tk nos W0 [obDG y D F, obPG g D F] w

set_option maxHeartbeats 2000000 in
theorem files_no (c : Int) (v : Value) (w : World) (hc : ¬ (1 ≤ c ∧ c ≤ 4)) :
    Calls Try.prog 3 #[.int .i64 c, v] w fun e w' => e = .returned (.bool true) ∧ Below w.heap.size w w' := by
  have HC := Lib.hid hc; clear hc
  go_enter Try.func3, Try.ntmps3
  go_wp2_with fail
  refine (gnew_no _ _ HC.out).mono ?_
  rintro e w' ⟨rfl, rfl⟩
  go_wp2_with fail
  refine (dgnew_no _ _ HC.out).mono ?_
  rintro e w' ⟨rfl, rfl⟩
  go_wp2_with fail
  refine (num_any _ _).mono ?_
  rintro e w' ⟨rfl, rfl⟩
  go_wp2_with fail
  refine (rgawake_any _).mono ?_
  rintro e wa ⟨rfl, ba⟩
  go_wp2_with fail
  go_ret
  exact ⟨rfl, ba⟩

set_option maxHeartbeats 16000000 in
theorem files_yes (D : Nat) (v : Value) (n : Nat) (xs : List Value) (w : World) (hv : Sl w v n 4 xs) (ha : ∀ i, i < n → ActG xs i) (hn : n ≤ maxLen) (h1 : 1 ≤ D) (h2 : D ≤ 4) :
    Calls Try.prog 3 #[.int .i64 D, v] w fun e w' => e = .returned (.bool true) ∧ Below w.heap.size w w' := by
  obtain ⟨A, cap, rfl⟩ : ∃ A cap, v = .slice A n cap := by obtain ⟨A, c, e, _⟩ := hv; exact ⟨A, c, e⟩
  unfold maxLen at hn
  have HV := Lib.hid hv; have HA := Lib.hid ha; clear hv ha
  go_enter Try.func3, Try.ntmps3
  go_wp2_with fail
  refine (gnew_yes D w h1 h2).mono ?_
  rintro e w1 ⟨g, rfl, t1⟩
  have T1 := Lib.hid t1
  clear t1
  go_wp2_with fail
  refine (dgnew_yes D w1 h1 h2).mono ?_
  rintro e w2 ⟨y, rfl, t2⟩
  have B0 : Hid (Bg w g y D w2) := Lib.hid ⟨noI, T1.out.add t2⟩
  clear t2 T1
  go_wp2_with fail
  refine (num_any _ _).mono ?_
  rintro e w' ⟨rfl, rfl⟩
  go_wp2_with fail
  go_loopw [9] (fun i wr => ∃ (k : Nat), k ≤ n ∧ k ≤ 60 ∧ i = .int .i64 k ∧ Hid (Bg w g y D wr)) (fun i _ => 60 - (intOf i).toNat)
  case atStart => exact ⟨0, by omega, by omega, rfl, B0⟩
  case round =>
    clear B0
    obtain ⟨k, hkn, hk60, rfl, HB⟩ := hrel
    by_cases hgo : k < n ∧ k < 60
    · obtain ⟨hlt, h60⟩ := hgo
      obtain ⟨F, tk⟩ := HB.out
      have hsl := HV.out.below tk.below
      obtain ⟨b, o, rfl, hbw, K, X, R, Y, c0, c1, c2, c3⟩ := rec4g hsl HA.out k hlt
      have hltI : (k : Int) < n := by omega
      have h60I : (k : Int) < 60 := by omega
      have t1 := tk.alloc 33 (actG K X R Y)
      have T1 := Lib.hid t1
      have hk1 := t1.blk (i := 0) rfl
      clear hsl tk HB t1
      rcases (show K < 6 ∨ K = 6 ∨ 6 < K by omega) with hK | hK | hK
      · as_aux_lemma =>
          go_wp2_with fail
          change Calls _ _ _ (wr.alloc (.cells (actG K X R Y).toArray 33)) _
          generalize wr.alloc (.cells (actG K X R Y).toArray 33) = wa at *
          generalize wr.heap.size = q at *
          clear hk1 c0 c1 c2 c3 hbw
          refine (tk_gwrite (i := 2) X R Y wa T1.out rfl).mono ?_
          rintro e w2 ⟨rfl, t2⟩
          obtain ⟨d0, d1, d2, d3⟩ := actG_at (t2.blk (i := 0) rfl)
          have cD := tk_dgwrite (i := 1) X R Y w2.drew (t2.drewN 1) rfl
          obtain ⟨F', hF⟩ : ∃ F', gwF D F X R Y = F' := ⟨_, rfl⟩
          obtain ⟨c, hc⟩ : ∃ c, gwC D X R Y = c := ⟨_, rfl⟩
          rw [hF, hc] at cD
          rw [hc]
          clear t2 T1 hF hc
          have hcc : (c != c) = false := by simp
          go_wp2_with fail
          go_still_tail 9, (by kernel_rfl)
          still_call (num_stg _ _)
          repeat still_step
          refine wpStill_nil ?_
          change wpList _ _ _ _ _ w2.drew
          clear d0 d1 d2 d3
          generalize w2.drew = w3 at *
          go_wp2_with fail
          refine cD.mono ?_
          rintro e w4 ⟨rfl, t4⟩
          have L4 := Lib.hid (show Tk nos w [obB q 33 (actG K X R Y), obDG y D F', obPG g D F'] w4 from t4)
          clear t4 cD
          go_wp2_with fail
          go_loop [13] (fun i => ∃ (a : Nat), a ≤ D ∧ i = .int .i64 a) (fun i => 4 - (intOf i).toNat)
          case atStart => exact ⟨0, by omega, rfl⟩
          case round =>
            obtain ⟨a, haD, rfl⟩ := hrel
            by_cases hla : a < D
            · have hlaI : (a : Int) < D := by omega
              go_wp2_with fail
              go_loop [14] (fun i => ∃ (j : Nat), j ≤ 10 ∧ i = .int .i64 ((j : Int) - 1)) (fun i => 10 - (intOf i + 1).toNat)
              case atStart => exact ⟨0, by omega, rfl⟩
              case round =>
                obtain ⟨j, hj, rfl⟩ := hrel
                by_cases hlj : j < 10
                · have hjI : (j : Int) - 1 ≤ 8 := by omega
                  have c1 := tk_gread (i := 2) a ((j : Int) - 1) w4 L4.out rfl
                  have c2 := tk_dgread (i := 1) a ((j : Int) - 1) w4 L4.out rfl
                  generalize gxX D F' a ((j : Int) - 1) = X9 at *
                  generalize gxC D a ((j : Int) - 1) = C9 at *
                  have e9 : (X9 != X9) = false := by simp
                  have e8 : (C9 != C9) = false := by simp
                  go_wp2_with fail
                  refine c1.mono ?_
                  rintro e w' ⟨rfl, rfl⟩
                  go_wp2_with fail
                  refine c2.mono ?_
                  rintro e w' ⟨rfl, rfl⟩
                  go_wp2_with fail
                  refine (num_any _ _).mono ?_
                  rintro e w' ⟨rfl, rfl⟩
                  go_wp2_with fail
                  go_round
                  case rel => exact ⟨j + 1, by omega, by go_num⟩
                  case measure => simp [intOf]; omega
                · have hjI : ¬ ((j : Int) - 1 ≤ 8) := by omega
                  go_wp2_with fail
                  go_round
                  case rel => exact ⟨a + 1, by omega, by go_num⟩
                  case measure => simp [intOf]; omega
            · have hlaI : ¬ ((a : Int) < D) := by omega
              go_wp2_with fail
              go_roundw
              case rel => exact ⟨k + 1, by omega, by omega, by go_num, Lib.hid ⟨_, L4.out.tail⟩⟩
              case measure => simp [intOf]; omega
      · as_aux_lemma =>
          subst hK
          go_wp2_with fail
          change Calls _ _ _ (wr.alloc (.cells (actG 6 X R Y).toArray 33)) _
          generalize wr.alloc (.cells (actG 6 X R Y).toArray 33) = wa at *
          generalize wr.heap.size = q at *
          clear hk1 c0 c1 c2 c3 hbw
          refine (tk_greset (i := 2) X wa T1.out rfl).mono ?_
          rintro e w2 ⟨rfl, t2⟩
          obtain ⟨d0, d1, d2, d3⟩ := actG_at (t2.blk (i := 0) rfl)
          have cD := tk_dgreset (i := 1) X w2.drew (t2.drewN 1) rfl
          obtain ⟨F', hF⟩ : ∃ F', grF D F X = F' := ⟨_, rfl⟩
          obtain ⟨c, hc⟩ : ∃ c, grC D X = c := ⟨_, rfl⟩
          rw [hF, hc] at cD
          rw [hc]
          clear t2 T1 hF hc
          have hcc : (c != c) = false := by simp
          go_wp2_with fail
          go_still_tail 5, (by kernel_rfl)
          still_call (num_stg _ _)
          repeat still_step
          refine wpStill_nil ?_
          change wpList _ _ _ _ _ w2.drew
          clear d0 d1 d2 d3
          generalize w2.drew = w3 at *
          go_wp2_with fail
          refine cD.mono ?_
          rintro e w4 ⟨rfl, t4⟩
          have L4 := Lib.hid (show Tk nos w [obB q 33 (actG 6 X R Y), obDG y D F', obPG g D F'] w4 from t4)
          clear t4 cD
          go_wp2_with fail
          go_loop [13] (fun i => ∃ (a : Nat), a ≤ D ∧ i = .int .i64 a) (fun i => 4 - (intOf i).toNat)
          case atStart => exact ⟨0, by omega, rfl⟩
          case round =>
            obtain ⟨a, haD, rfl⟩ := hrel
            by_cases hla : a < D
            · have hlaI : (a : Int) < D := by omega
              go_wp2_with fail
              go_loop [14] (fun i => ∃ (j : Nat), j ≤ 10 ∧ i = .int .i64 ((j : Int) - 1)) (fun i => 10 - (intOf i + 1).toNat)
              case atStart => exact ⟨0, by omega, rfl⟩
              case round =>
                obtain ⟨j, hj, rfl⟩ := hrel
                by_cases hlj : j < 10
                · have hjI : (j : Int) - 1 ≤ 8 := by omega
                  have c1 := tk_gread (i := 2) a ((j : Int) - 1) w4 L4.out rfl
                  have c2 := tk_dgread (i := 1) a ((j : Int) - 1) w4 L4.out rfl
                  generalize gxX D F' a ((j : Int) - 1) = X9 at *
                  generalize gxC D a ((j : Int) - 1) = C9 at *
                  have e9 : (X9 != X9) = false := by simp
                  have e8 : (C9 != C9) = false := by simp
                  go_wp2_with fail
                  refine c1.mono ?_
                  rintro e w' ⟨rfl, rfl⟩
                  go_wp2_with fail
                  refine c2.mono ?_
                  rintro e w' ⟨rfl, rfl⟩
                  go_wp2_with fail
                  refine (num_any _ _).mono ?_
                  rintro e w' ⟨rfl, rfl⟩
                  go_wp2_with fail
                  go_round
                  case rel => exact ⟨j + 1, by omega, by go_num⟩
                  case measure => simp [intOf]; omega
                · have hjI : ¬ ((j : Int) - 1 ≤ 8) := by omega
                  go_wp2_with fail
                  go_round
                  case rel => exact ⟨a + 1, by omega, by go_num⟩
                  case measure => simp [intOf]; omega
            · have hlaI : ¬ ((a : Int) < D) := by omega
              go_wp2_with fail
              go_roundw
              case rel => exact ⟨k + 1, by omega, by omega, by go_num, Lib.hid ⟨_, L4.out.tail⟩⟩
              case measure => simp [intOf]; omega
      · as_aux_lemma =>
          have hK1 : ¬ (K < 6) := by omega
          have hK2 : (K == 6) = false := by simp; omega
          obtain ⟨d0, d1, d2, d3⟩ := actG_at hk1
          have hql := hk1.lt
          go_wp2_with fail
          have L4 := T1
          clear T1 d0 d1 d2 d3 hk1 c0 c1 c2 c3 hbw hql
          change Code.wp _ _ _ _ (wr.alloc (.cells (actG K X R Y).toArray 33))
          generalize wr.alloc (.cells (actG K X R Y).toArray 33) = w4 at *
          generalize wr.heap.size = q at *
          go_loop [13] (fun i => ∃ (a : Nat), a ≤ D ∧ i = .int .i64 a) (fun i => 4 - (intOf i).toNat)
          case atStart => exact ⟨0, by omega, rfl⟩
          case round =>
            obtain ⟨a, haD, rfl⟩ := hrel
            by_cases hla : a < D
            · have hlaI : (a : Int) < D := by omega
              go_wp2_with fail
              go_loop [14] (fun i => ∃ (j : Nat), j ≤ 10 ∧ i = .int .i64 ((j : Int) - 1)) (fun i => 10 - (intOf i + 1).toNat)
              case atStart => exact ⟨0, by omega, rfl⟩
              case round =>
                obtain ⟨j, hj, rfl⟩ := hrel
                by_cases hlj : j < 10
                · have hjI : (j : Int) - 1 ≤ 8 := by omega
                  have c1 := tk_gread (i := 2) a ((j : Int) - 1) w4 L4.out rfl
                  have c2 := tk_dgread (i := 1) a ((j : Int) - 1) w4 L4.out rfl
                  generalize gxX D F a ((j : Int) - 1) = X9 at *
                  generalize gxC D a ((j : Int) - 1) = C9 at *
                  have e9 : (X9 != X9) = false := by simp
                  have e8 : (C9 != C9) = false := by simp
                  go_wp2_with fail
                  refine c1.mono ?_
                  rintro e w' ⟨rfl, rfl⟩
                  go_wp2_with fail
                  refine c2.mono ?_
                  rintro e w' ⟨rfl, rfl⟩
                  go_wp2_with fail
                  refine (num_any _ _).mono ?_
                  rintro e w' ⟨rfl, rfl⟩
                  go_wp2_with fail
                  go_round
                  case rel => exact ⟨j + 1, by omega, by go_num⟩
                  case measure => simp [intOf]; omega
                · have hjI : ¬ ((j : Int) - 1 ≤ 8) := by omega
                  go_wp2_with fail
                  go_round
                  case rel => exact ⟨a + 1, by omega, by go_num⟩
                  case measure => simp [intOf]; omega
            · have hlaI : ¬ ((a : Int) < D) := by omega
              go_wp2_with fail
              go_roundw
              case rel => exact ⟨k + 1, by omega, by omega, by go_num, Lib.hid ⟨_, L4.out.tail⟩⟩
              case measure => simp [intOf]; omega
    · have hx : (k : Int) ≥ n ∨ ((k : Int) < n ∧ decide ((k : Int) < 60) = false) := by
        by_cases h1 : k < n
        · exact .inr ⟨by omega, by simp; omega⟩
        · exact .inl (by omega)
      have HB2 : Hid (Below w.heap.size w wr) := by
        obtain ⟨F, tk⟩ := HB.out
        exact Lib.hid tk.below
      clear hgo HB
      rcases hx with hx | ⟨hx, hx2⟩
      all_goals
        go_wp2_with fail
        refine (rgawake_any _).mono ?_
        rintro e wa ⟨rfl, ba⟩
        have BA := Lib.hid ba
        clear ba
        go_wp2_with fail
        go_ret
        exact ⟨rfl, Below.down HB2.out BA.out HB2.out.size⟩

theorem law_Files (c : Int) (v : Value) (n : Nat) (xs : List Value) (w : World) (hv : Sl w v n 4 xs) (ha : ∀ i, i < n → ActG xs i) (hn : n ≤ maxLen) :
    Calls Try.prog 3 #[.int .i64 c, v] w fun e w' => e = .returned (.bool true) ∧ Below w.heap.size w w' := by
  by_cases hc : 1 ≤ c ∧ c ≤ 4
  · obtain ⟨D, rfl⟩ : ∃ D : Nat, c = (D : Int) := ⟨c.toNat, by omega⟩
    exact files_yes D v n xs w hv ha hn (by omega) (by omega)
  · exact files_no c v w hc
end Go.Proofs.Ytocjkanhciohmaa
