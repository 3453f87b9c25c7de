/-
  Layer 15's law Assigns: it answers true for every input.
-/
import Derived.Test.YtgamfejgpdampaaAsAwake
import Derived.Test.YtgamfejgpdampaaAd2
import Derived.Test.YtgamfejgpdampaaArgs
import Derived.StillTailTactics
namespace Go.Proofs.Ytgamfejgpdampaa
open Go.RowKit Go.Deep
set_option linter.unusedVariables false
set_option maxRecDepth 100000

/-- The i-th act. -/
def ActA (xs : List Value) (i : Nat) : Prop := ∃ (K X Y : Int), xs[i * 3]? = some (.int .i64 K) ∧ xs[i * 3 + 1]? = some (.int .i64 X) ∧ xs[i * 3 + 2]? = some (.int .i64 Y)
theorem actsa_ints {n : Nat} {zs : List Int} (hl : zs.length = n * 3) : ∀ i, i < n → ActA (ints zs) i := fun i hi =>
  ⟨zs.getD (i * 3) 0, zs.getD (i * 3 + 1) 0, zs.getD (i * 3 + 2) 0, ints_get zs _ (by omega), ints_get zs _ (by omega), ints_get zs _ (by omega)⟩
/-- The cells of a slice's k-th act. -/
theorem rec3a {w : World} {A : Option Addr} {n c : Nat} {xs : List Value} (h : Sl w (.slice A n c) n 3 xs) (ha : ∀ i, i < n → ActA xs i) (k : Nat) (hk : k < n) :
    ∃ b o, A = some ⟨b, o, none⟩ ∧ b < w.heap.size ∧ ∃ (K X Y : Int), w.cell? ⟨b, o + k * 3, none⟩ = some (.int .i64 K) ∧ w.cell? ⟨b, o + k * 3 + 1, none⟩ = some (.int .i64 X) ∧ w.cell? ⟨b, o + k * 3 + 2, none⟩ = some (.int .i64 Y) := by
  obtain ⟨A', c', e, _, hl, hA⟩ := h
  simp only [Value.slice.injEq] at e
  obtain ⟨rfl, _, rfl⟩ := e
  obtain ⟨b, o, rfl, hb, hc⟩ := hA (by omega)
  obtain ⟨K, X, Y, h0, h1, h2⟩ := ha k hk
  refine ⟨b, o, rfl, hb, K, X, Y, hc _ _ h0, ?_, ?_⟩
  · have := hc _ _ h1; rwa [← Nat.add_assoc] at this
  · have := hc _ _ h2; rwa [← Nat.add_assoc] at this
/-- An act's cells. -/
def actA (K X Y : Int) : List Value := [.int .i64 K, .int .i64 X, .int .i64 Y]
theorem num_sta (n : Int) (w : World) : Calls Try.prog 9 #[.int .i64 n] w fun e w' => e = .returned (.int .i64 n) ∧ w' = w := (num_any n w).mono fun _ _ ⟨he, hw⟩ => ⟨he, hw.symm⟩

/-- Both say the same. -/
def Ba (W0 : World) (g y q P D : Nat) (w : World) : Prop := ∃ O L, Tk nos W0 [obDA y q P D O L, obPA g q P D O L] w

set_option maxHeartbeats 2000000 in
theorem assigns_no (q P : Int) (v v' : Value) (w : World)
    (hA : ∀ W, Below w.heap.size w W → Calls Try.prog 7 #[.int .i64 q, .int .i64 P, v] W fun e w' => e = .returned (.tuple #[.pointer none, .int .i64 1500]) ∧ Below W.heap.size W w')
    (hD : ∀ W, Below w.heap.size w W → Calls Try.prog 8 #[.int .i64 q, .int .i64 P, v] W fun e w' => e = .returned (.tuple #[.pointer none, .int .i64 1500]) ∧ Below W.heap.size W w') :
    Calls Try.prog 3 #[.int .i64 q, .int .i64 P, v, v'] w fun e w' => e = .returned (.bool true) ∧ Below w.heap.size w w' := by
  have HA := Lib.hid hA; have HD := Lib.hid hD; clear hA hD
  go_enter Try.func3, Try.ntmps3
  go_wp2_with fail
  refine (HA.out _ (Below.refl _ _)).mono ?_
  rintro e w1 ⟨rfl, b1⟩
  have B1 := Lib.hid b1
  clear b1
  go_wp2_with fail
  refine (HD.out _ B1.out).mono ?_
  rintro e w2 ⟨rfl, b2⟩
  have B2 := Lib.hid (Below.down B1.out b2 B1.out.size)
  clear b2 B1
  go_wp2_with fail
  refine (num_any _ _).mono ?_
  rintro e w' ⟨rfl, rfl⟩
  go_wp2_with fail
  refine (asawake_any _).mono ?_
  rintro e wa ⟨rfl, ba⟩
  go_wp2_with fail
  go_ret
  exact ⟨rfl, Below.down B2.out ba B2.out.size⟩

set_option maxHeartbeats 16000000 in
theorem assigns_yes (q P D : Nat) (v : Value) (zs : List Int) (v' : Value) (n : Nat) (xs : List Value) (w : World) (hv : Sl w v D 1 (ints zs)) (hv' : Sl w v' n 3 xs) (ha : ∀ i, i < n → ActA xs i) (hn : n ≤ maxLen)
    (q1 : 1 ≤ q) (q8 : q ≤ 8) (p1 : 1 ≤ P) (p4 : P ≤ 4) (n1 : 1 ≤ D) (n4 : D ≤ 4) (hz : ∀ j, j < D → adB P (zs.getD j 0) = true) :
    Calls Try.prog 3 #[.int .i64 q, .int .i64 P, v, v'] w fun e w' => e = .returned (.bool true) ∧ Below w.heap.size w w' := by
  obtain ⟨A0, cap0, rfl⟩ : ∃ A cap, v = .slice A D cap := by obtain ⟨A, c, e, _⟩ := hv; exact ⟨A, c, e⟩
  obtain ⟨A, cap, rfl⟩ : ∃ A cap, v' = .slice A n cap := by obtain ⟨A, c, e, _⟩ := hv'; exact ⟨A, c, e⟩
  unfold maxLen at hn
  have HV := Lib.hid hv; have HW := Lib.hid hv'; have HA := Lib.hid ha; have HZ := Lib.hid hz; clear hv hv' ha hz
  go_enter Try.func3, Try.ntmps3
  go_wp2_with fail
  refine (anew_yes q P _ D zs w HV.out q1 q8 p1 p4 n1 n4 HZ.out).mono ?_
  rintro e w1 ⟨g, rfl, t1⟩
  have T1 := Lib.hid t1
  clear t1
  go_wp2_with fail
  refine (danew_any q P _ D zs w1 (HV.out.below T1.out.below) q1 q8 p1 p4 n1 n4).mono ?_
  rintro e w2 hd
  obtain ⟨y, rfl, t2⟩ : ∃ y, e = .returned (.tuple #[.pointer (some ⟨y, 0, none⟩), .int .i64 0]) ∧ Tk nos w1 [obDA y q P D (zO zs D) noN] w2 := by
    rcases hd with ⟨y, he, t, _⟩ | ⟨_, _, j, hj, hb⟩
    · exact ⟨y, he, t⟩
    · rw [HZ.out j hj] at hb; cases hb
  have B0 : Hid (Ba w g y q P D w2) := Lib.hid ⟨_, _, T1.out.add t2⟩
  clear t2 T1 hd
  go_wp2_with fail
  refine (num_any _ _).mono ?_
  rintro e w' ⟨rfl, rfl⟩
  go_wp2_with fail
  go_loopw [13] (fun i wr => ∃ (k : Nat), k ≤ n ∧ k ≤ 60 ∧ i = .int .i64 k ∧ Hid (Ba w g y q P D wr)) (fun i _ => 60 - (intOf i).toNat)
  case atStart => exact ⟨0, by omega, by omega, rfl, B0⟩
  case round =>
    clear B0
    obtain ⟨k, hkn, hk60, rfl, HB⟩ := hrel
    by_cases hgo : k < n ∧ k < 60
    · obtain ⟨hlt, h60⟩ := hgo
      obtain ⟨O, L, tk⟩ := HB.out
      have hsl := HW.out.below tk.below
      obtain ⟨b, o, rfl, hbw, K, X, Y, c0, c1, c2⟩ := rec3a hsl HA.out k hlt
      have hltI : (k : Int) < n := by omega
      have h60I : (k : Int) < 60 := by omega
      have t1 := tk.alloc 34 (actA K X Y)
      have T1 := Lib.hid t1
      have hk1 := t1.blk (i := 0) rfl
      clear hsl tk HB t1
      rcases (show K < 4 ∨ 4 ≤ K by omega) with hK | hK
      · as_aux_lemma =>
          go_wp2_with fail
          change Calls _ _ _ (wr.alloc (.cells (actA K X Y).toArray 34)) _
          generalize wr.alloc (.cells (actA K X Y).toArray 34) = wa at *
          generalize wr.heap.size = p at *
          clear hk1 c0 c1 c2 hbw
          refine (tk_amove (i := 2) X Y wa T1.out rfl).mono ?_
          rintro e w2 ⟨rfl, t2⟩
          obtain ⟨d0, d1, d2, _, _, _⟩ := tri_at (t2.blk (i := 0) rfl)
          have cD := tk_damove (i := 1) X Y w2.drew (t2.drewN 1) rfl
          obtain ⟨O', hO⟩ : ∃ O', amO D P O L X Y = O' := ⟨_, rfl⟩
          obtain ⟨L', hL⟩ : ∃ L', amL D P q L X Y = L' := ⟨_, rfl⟩
          obtain ⟨c, hc⟩ : ∃ c, amC D P L X Y = c := ⟨_, rfl⟩
          rw [hO, hL, hc] at cD
          rw [hO, hL] at t2
          rw [hc]
          clear t2 T1 hO hL hc
          have hcc : (c != c) = false := by simp
          go_wp2_with fail
          go_still_tail 7, (by kernel_rfl)
          still_call (num_sta _ _)
          repeat still_step
          refine wpStill_nil ?_
          change wpList _ _ _ _ _ w2.drew
          clear d0 d1 d2
          generalize w2.drew = w3 at *
          go_wp2_with fail
          refine cD.mono ?_
          rintro e w4 ⟨rfl, t4⟩
          have L4 := Lib.hid (show Tk nos w [obDA y q P D O' L', obPA g q P D O' L'] w4 from t4.tail)
          clear t4 cD
          go_wp2_with fail
          go_loopw [17] (fun i wr => ∃ (j : Nat), j ≤ D + 2 ∧ i = .int .i64 ((j : Int) - 1) ∧ Hid (Tk nos w [obDA y q P D O' L', obPA g q P D O' L'] wr)) (fun i _ => 6 - (intOf i + 1).toNat)
          case atStart => exact ⟨0, by omega, rfl, L4⟩
          case round =>
            clear L4
            obtain ⟨j, hj, rfl, HJ⟩ := hrel
            by_cases hlj : j < D + 2
            · have hjI : (j : Int) - 1 ≤ D := by omega
              have c1 := tk_aphase (i := 1) ((j : Int) - 1) _ HJ.out rfl
              have c2 := tk_daphase (i := 0) ((j : Int) - 1) _ HJ.out rfl
              have c3 := tk_aowner (i := 1) ((j : Int) - 1) _ HJ.out rfl
              have c4 := fun W (hW : Tk nos w [obDA y q P D O' L', obPA g q P D O' L'] W) => tk_daowner (i := 0) ((j : Int) - 1) W hW rfl
              generalize apX D L' ((j : Int) - 1) = X9 at *
              generalize apC D ((j : Int) - 1) = C9 at *
              generalize aoX D O' L' ((j : Int) - 1) = Y9 at *
              have C4 := Lib.hid c4
              have e9 : (X9 != X9) = false := by simp
              have e8 : (C9 != C9) = false := by simp
              have e7 : (Y9 != Y9) = false := by simp
              clear c4
              go_wp2_with fail
              refine c1.mono ?_
              rintro e w' ⟨rfl, rfl⟩
              go_wp2_with fail
              refine c2.mono ?_
              rintro e w' ⟨rfl, rfl⟩
              go_wp2_with fail
              refine c3.mono ?_
              rintro e w6 ⟨rfl, t6⟩
              have T6 := Lib.hid t6
              clear t6 c1 c2 c3
              go_wp2_with fail
              refine (C4.out _ T6.out).mono ?_
              rintro e w' ⟨rfl, rfl⟩
              go_wp2_with fail
              refine (num_any _ _).mono ?_
              rintro e w' ⟨rfl, rfl⟩
              go_wp2_with fail
              go_roundw
              case rel => exact ⟨j + 1, by omega, by go_num, T6⟩
              case measure => simp [intOf]; omega
            · have hjI : ¬ ((j : Int) - 1 ≤ D) := by omega
              go_wp2_with fail
              go_roundw
              case rel => exact ⟨k + 1, by omega, by omega, by go_num, Lib.hid ⟨_, _, HJ.out⟩⟩
              case measure => simp [intOf]; omega
      · as_aux_lemma =>
          have hK1 : ¬ (K < 4) := by omega
          go_wp2_with fail
          change Calls _ _ _ (wr.alloc (.cells (actA K X Y).toArray 34)) _
          have T2 := Lib.hid (show Tk nos w [obDA y q P D O L, obPA g q P D O L] (wr.alloc (.cells (actA K X Y).toArray 34)) from T1.out.tail)
          generalize wr.alloc (.cells (actA K X Y).toArray 34) = wa at *
          generalize wr.heap.size = p at *
          clear hk1 c0 c1 c2 hbw T1
          refine (tk_atick (i := 1) wa T2.out rfl).mono ?_
          rintro e w2 ⟨x1, rfl, t2⟩
          have T3 := Lib.hid t2
          clear t2 T2
          go_wp2_with fail
          refine (tk_datick (i := 1) w2 T3.out rfl).mono ?_
          rintro e w3 ⟨x2, rfl, t3⟩
          have hlen := atE_len L D
          have cS := same_ints x1 x2 (atE L D) w3 (t3.sl (i := 1) rfl) (t3.sl (i := 0) rfl) (by omega)
          have T4 := Lib.hid t3
          clear t3 T3
          go_wp2_with fail
          refine cS.mono ?_
          clear cS
          rintro e w' ⟨rfl, q6, rfl⟩
          have T5 := Lib.hid (T4.out.drewN q6)
          clear T4
          generalize w3.drewN q6 = w5 at *
          go_wp2_with fail
          refine (spoil_ints x1 0 (atE L D).length (ints (atE L D)) w5 (T5.out.row (i := 1) rfl) (AllInts.ints _) (by omega)).mono ?_
          rintro e w4 ⟨rfl, g6⟩
          have t6 := T5.out.spoilR (i := 1) rfl g6
          obtain ⟨O', hO⟩ : ∃ O', O = O' := ⟨_, rfl⟩
          obtain ⟨L', hL⟩ : ∃ L', atL L D = L' := ⟨_, rfl⟩
          have L4 := Lib.hid (show Tk nos w [obDA y q P D O' L', obPA g q P D O' L'] w4 from (by rw [← hO, ← hL]; exact t6.tail))
          clear t6 T5 g6 hO hL
          go_wp2_with fail
          go_loopw [17] (fun i wr => ∃ (j : Nat), j ≤ D + 2 ∧ i = .int .i64 ((j : Int) - 1) ∧ Hid (Tk nos w [obDA y q P D O' L', obPA g q P D O' L'] wr)) (fun i _ => 6 - (intOf i + 1).toNat)
          case atStart => exact ⟨0, by omega, rfl, L4⟩
          case round =>
            clear L4
            obtain ⟨j, hj, rfl, HJ⟩ := hrel
            by_cases hlj : j < D + 2
            · have hjI : (j : Int) - 1 ≤ D := by omega
              have c1 := tk_aphase (i := 1) ((j : Int) - 1) _ HJ.out rfl
              have c2 := tk_daphase (i := 0) ((j : Int) - 1) _ HJ.out rfl
              have c3 := tk_aowner (i := 1) ((j : Int) - 1) _ HJ.out rfl
              have c4 := fun W (hW : Tk nos w [obDA y q P D O' L', obPA g q P D O' L'] W) => tk_daowner (i := 0) ((j : Int) - 1) W hW rfl
              generalize apX D L' ((j : Int) - 1) = X9 at *
              generalize apC D ((j : Int) - 1) = C9 at *
              generalize aoX D O' L' ((j : Int) - 1) = Y9 at *
              have C4 := Lib.hid c4
              have e9 : (X9 != X9) = false := by simp
              have e8 : (C9 != C9) = false := by simp
              have e7 : (Y9 != Y9) = false := by simp
              clear c4
              go_wp2_with fail
              refine c1.mono ?_
              rintro e w' ⟨rfl, rfl⟩
              go_wp2_with fail
              refine c2.mono ?_
              rintro e w' ⟨rfl, rfl⟩
              go_wp2_with fail
              refine c3.mono ?_
              rintro e w6 ⟨rfl, t6⟩
              have T6 := Lib.hid t6
              clear t6 c1 c2 c3
              go_wp2_with fail
              refine (C4.out _ T6.out).mono ?_
              rintro e w' ⟨rfl, rfl⟩
              go_wp2_with fail
              refine (num_any _ _).mono ?_
              rintro e w' ⟨rfl, rfl⟩
              go_wp2_with fail
              go_roundw
              case rel => exact ⟨j + 1, by omega, by go_num, T6⟩
              case measure => simp [intOf]; omega
            · have hjI : ¬ ((j : Int) - 1 ≤ D) := by omega
              go_wp2_with fail
              go_roundw
              case rel => exact ⟨k + 1, by omega, by omega, by go_num, Lib.hid ⟨_, _, HJ.out⟩⟩
              case measure => simp [intOf]; omega
    · have hx : (k : Int) ≥ n ∨ ((k : Int) < n ∧ decide ((k : Int) < 60) = false) := by
        by_cases h1 : k < n
        · exact .inr ⟨by omega, by simp; omega⟩
        · exact .inl (by omega)
      have HB2 : Hid (Below w.heap.size w wr) := by
        obtain ⟨O, L, tk⟩ := HB.out
        exact Lib.hid tk.below
      clear hgo HB
      rcases hx with hx | ⟨hx, hx2⟩
      all_goals
        go_wp2_with fail
        refine (asawake_any _).mono ?_
        rintro e wa ⟨rfl, ba⟩
        have BA := Lib.hid ba
        clear ba
        go_wp2_with fail
        go_ret
        exact ⟨rfl, Below.down HB2.out BA.out HB2.out.size⟩

theorem law_Assigns (q P : Int) (v : Value) (D : Nat) (zs : List Int) (v' : Value) (n : Nat) (xs : List Value) (w : World) (hv : Sl w v D 1 (ints zs)) (hv' : Sl w v' n 3 xs) (ha : ∀ i, i < n → ActA xs i) (hn : n ≤ maxLen) :
    Calls Try.prog 3 #[.int .i64 q, .int .i64 P, v, v'] w fun e w' => e = .returned (.bool true) ∧ Below w.heap.size w w' := by
  by_cases h : (1 ≤ q ∧ q ≤ 8) ∧ (1 ≤ P ∧ P ≤ 4) ∧ 1 ≤ D ∧ D ≤ 4
  · obtain ⟨⟨a1, a2⟩, ⟨a3, a4⟩, a5, a6⟩ := h
    obtain ⟨Q, rfl⟩ : ∃ Q : Nat, q = (Q : Int) := ⟨q.toNat, by omega⟩
    obtain ⟨R, rfl⟩ : ∃ R : Nat, P = (R : Int) := ⟨P.toNat, by omega⟩
    by_cases hz : ∀ j, j < D → adB R (zs.getD j 0) = true
    · exact assigns_yes Q R D v zs v' n xs w hv hv' ha hn (by omega) (by omega) (by omega) (by omega) a5 a6 hz
    · have hz2 : ∃ j, j < D ∧ adB R (zs.getD j 0) = false := by
        apply Classical.byContradiction
        intro hne
        refine hz (fun j hj => ?_)
        cases hb : adB R (zs.getD j 0) with
        | true => rfl
        | false => exact absurd ⟨j, hj, hb⟩ hne
      refine assigns_no Q R v v' w (fun W hW => anew_bad Q R v D zs W (hv.below hW) (by omega) (by omega) (by omega) (by omega) a5 a6 hz2) (fun W hW => (danew_any Q R v D zs W (hv.below hW) (by omega) (by omega) (by omega) (by omega) a5 a6).mono fun e w' hh => ?_)
      rcases hh with ⟨_, _, _, hg⟩ | ⟨he, hb, _⟩
      · obtain ⟨j, hj, hb⟩ := hz2
        rw [hg j hj] at hb; cases hb
      · exact ⟨he, hb⟩
  · exact assigns_no q P v v' w (fun W hW => (anew_form q P v D zs W (hv.below hW) h).mono fun e w' ⟨he, hw⟩ => ⟨he, hw ▸ Below.refl _ _⟩) (fun W hW => (danew_form q P v D zs W (hv.below hW) h).mono fun e w' ⟨he, hw⟩ => ⟨he, hw ▸ Below.refl _ _⟩)
end Go.Proofs.Ytgamfejgpdampaa
