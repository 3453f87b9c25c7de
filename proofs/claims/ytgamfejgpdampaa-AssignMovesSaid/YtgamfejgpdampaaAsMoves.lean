/-
  Layer 15's law AssignMoves: it answers true for every input.
-/
import Derived.Test.YtgamfejgpdampaaAsApart
import Derived.Test.YtgamfejgpdampaaAd0
import Derived.Deep.RegionHeld3
namespace Go.Proofs.Ytgamfejgpdampaa
open Go.RowKit Go.ChangeMaps
set_option linter.unusedVariables false
set_option maxRecDepth 100000

/-- The law's rows: how many ticks are left, whose each device is. -/
def lF (L : Nat → Nat) : Nat → Int := fun i => (L i : Int)
def oF (O : Nat → Int) (L : Nat → Nat) : Nat → Int := fun i => if L i = 0 then O i else -1
theorem lF_put (L : Nat → Nat) (i x : Nat) : iF (lF L) i x = lF (uN L i x) := by
  funext j
  by_cases h : j = i
  · rw [iF_at h]; unfold lF; rw [uN_at h]
  · rw [iF_off h]; unfold lF; rw [uN_off h]
theorem oF_move (O : Nat → Int) (L : Nat → Nat) (i q : Nat) (t : Int) (hq : q ≠ 0) : iF (oF O L) i (-1) = oF (iF O i t) (uN L i q) := by
  funext j
  unfold oF
  by_cases h : j = i
  · rw [iF_at h, uN_at h, if_neg hq]
  · rw [iF_off h, uN_off h, iF_off h]
theorem oF_less (O : Nat → Int) (L : Nat → Nat) (i : Nat) (h0 : L i ≠ 0) (h1 : L i - 1 ≠ 0) : oF O L = oF O (uN L i (L i - 1)) := by
  funext j
  unfold oF
  by_cases h : j = i
  · rw [uN_at h, h, if_neg h0, if_neg h1]
  · rw [uN_off h]
theorem oF_last (O : Nat → Int) (L : Nat → Nat) (i : Nat) : iF (oF O L) i (O i) = oF O (uN L i 0) := by
  funext j
  unfold oF
  by_cases h : j = i
  · rw [iF_at h, uN_at h, if_pos rfl, h]
  · rw [iF_off h, uN_off h]
theorem am_yes {D P q : Nat} (O : Nat → Int) (L : Nat → Nat) {i : Nat} {t : Int} (hi : i < D) (ht : adB P t = true) :
    (L i = 0 → amC D P L i t = 0 ∧ amO D P O L i t = iF O i t ∧ amL D P q L i t = uN L i q) ∧ (L i ≠ 0 → amC D P L i t = 1501 ∧ amO D P O L i t = O ∧ amL D P q L i t = L) := by
  have hb : amB D P (i : Int) t = true := by unfold amB; rw [adB_nat hi, ht]; rfl
  constructor <;> intro hl
  · simp [amC, amO, amL, amG, hb, hl]
  · simp [amC, amO, amL, amG, hb, hl]

/-- The law's rows and the table. -/
def mvG (g a b c q : Nat) (O : Nat → Int) (L : Nat → Nat) (T : Nat → Int) (O' : Nat → Int) (L' : Nat → Nat) : List Ob :=
  [obB c 3 (itc (lF L) 3), obB b 3 (itc T 3), obB a 3 (itc (oF O L) 3), obPA g q 4 3 O' L']
/-- They are alike. -/
def Mv (wa : World) (g a b c q : Nat) (w : World) : Prop := ∃ O L T, Tk nos wa (mvG g a b c q O L T O L) w ∧ ∀ i, L i ≠ 0 → T i = O i

/-- .. while only the last test asks. -/
def MvS (wa : World) (g a b c q : Nat) (O : Nat → Int) (L : Nat → Nat) (T : Nat → Int) (w : World) : Prop := Tk nos wa (mvG g a b c q O L T O L) w
section
variable {wa w : World} {g a b c q : Nat} {O : Nat → Int} {L : Nat → Nat} {T : Nat → Int}
theorem MvS.drew (h : MvS wa g a b c q O L T w) : MvS wa g a b c q O L T w.drew := Tk.drewN h 1
theorem MvS.all (h : MvS wa g a b c q O L T w) {j : Nat} (hj : j < 3) {Y Z : Int} (hY : oF O L j = Y) (hZ : (L j : Int) = Z) : w.cell? ⟨a, j, none⟩ = some (.int .i64 Y) ∧ w.cell? ⟨c, j, none⟩ = some (.int .i64 Z) ∧ MvS wa g a b c q O L T w :=
  ⟨by rw [(Tk.blk h (i := 2) rfl).cell, itc_get _ _ _ hj, hY], by rw [(Tk.blk h (i := 0) rfl).cell, itc_get _ _ _ hj]; unfold lF; rw [hZ], h⟩
theorem MvS.owner (h : MvS wa g a b c q O L T w) {j : Nat} {Y : Int} (hY : aoX 3 O L j = Y) :
    Calls Try.prog 19 #[.pointer (some ⟨g, 0, none⟩), .int .i64 (j : Int)] w fun e w' => e = .returned (.int .i64 Y) ∧ MvS wa g a b c q O L T w' := tk_aowner_is (i := 3) j Y w h rfl hY
theorem MvS.phase (h : MvS wa g a b c q O L T w) {j : Nat} {X : Int} (hX : apX 3 L j = X) (hC : apC 3 j = 0) :
    Calls Try.prog 17 #[.pointer (some ⟨g, 0, none⟩), .int .i64 (j : Int)] w fun e w' => e = .returned (.tuple #[.int .i64 X, .int .i64 0]) ∧ w = w' := tk_aphase_is (i := 3) j X 0 w h rfl hX hC
end

theorem mv_tt {O T : Nat → Int} {L : Nat → Nat} {d q : Nat} {p : Int} (h : ∀ i, L i ≠ 0 → T i = O i) : ∀ i, uN L d q i ≠ 0 → iF T d p i = iF O d p i := by
  intro i hi
  by_cases e : i = d
  · rw [iF_at e, iF_at e]
  · rw [uN_off e] at hi
    rw [iF_off e, iF_off e]
    exact h i hi

set_option maxHeartbeats 16000000 in
theorem law_AssignMoves (x : Int) (v : Value) (n : Nat) (zs : List Int) (v' : Value) (n' : Nat) (zs' : List Int) (w : World) (w0 : (Lit.int .i64 x).wf = true) (hv : Sl w v n 1 (ints zs)) (hv' : Sl w v' n' 1 (ints zs')) (hn : n ≤ maxLen) (hn' : n' ≤ maxLen) :
    Calls Try.prog 4 #[.int .i64 x, v, v'] w fun e w' => e = .returned (.bool true) ∧ Below w.heap.size w w' := by
  obtain ⟨A, cap, rfl⟩ : ∃ A cap, v = .slice A n cap := by obtain ⟨A, c, e, _⟩ := hv; exact ⟨A, c, e⟩
  obtain ⟨A', cap', rfl⟩ : ∃ A cap, v' = .slice A n' cap := by obtain ⟨A, c, e, _⟩ := hv'; exact ⟨A, c, e⟩
  unfold maxLen at hn hn'
  have HV := Lib.hid hv; have HV' := Lib.hid hv'; clear hv hv'
  obtain ⟨i0, hi, hz0, hz1, hz2⟩ := info_parts infoIntA
  have HI := Lib.hid hi; have HZ0 := Lib.hid hz0; have HZ1 := Lib.hid hz1; have HZ2 := Lib.hid hz2
  clear hi hz0 hz1 hz2
  have hU := u64b x
  generalize hU' : IntKind.u64.wrap x = U at hU
  obtain ⟨hU0, hU1⟩ := hU
  have hI0 : 0 ≤ U % 8 := by omega
  have hI1 : U % 8 < 8 := by omega
  generalize hI' : U % 8 = I at hI0 hI1
  clear w0
  obtain ⟨Q, hQ⟩ : ∃ Q : Nat, (Q : Int) = 1 + I := ⟨(1 + I).toNat, by omega⟩
  have hQ1 : 1 ≤ Q := by omega
  have hQ8 : Q ≤ 8 := by omega
  have cN := fun W => anew_yes Q 4 (.slice (some ⟨W.heap.size, 0, none⟩) 3 3) 3 [0, 1, 2] (W.alloc (.cells (ints [0, 1, 2]).toArray 3)) (lit_ints W [0, 1, 2] 3 rfl) (by omega) (by omega) (by decide) (by decide) (by decide) (by decide) (by intro j hj; rcases (show j = 0 ∨ j = 1 ∨ j = 2 by omega) with rfl | rfl | rfl <;> decide)
  rw [hQ] at cN
  have CN := Lib.hid cN
  have HQ := Lib.hid hQ
  clear cN hQ
  go_enter Try.func4, Try.ntmps4
  go_wp2_with fail
  refine (asawake_any _).mono ?_
  rintro e wa ⟨rfl, ba⟩
  have BA := Lib.hid ba
  have T0 := Lib.hid ((Tk.empty wa).alloc 3 (ints [0, 1, 2]))
  clear ba
  go_wp2_with fail
  change Calls _ _ _ (wa.alloc (.cells (ints [0, 1, 2]).toArray 3)) _
  refine (CN.out wa).mono ?_
  rintro e wb ⟨g, rfl, t⟩
  have T1 := Lib.hid (show Tk nos wa [obPA g Q 4 3 (zO [0, 1, 2] 3) noN] wb from (T0.out.add t).drop 1)
  clear t T0 CN
  go_wp2_with fail
  refine (num_any _ _).mono ?_
  rintro e w' ⟨rfl, rfl⟩
  have t2 := T1.out.alloc 3 [.int .i64 0, .int .i64 1, .int .i64 2]
  go_upto_region 8 with fail
  change Code.wp _ _ _ _ (wb.alloc (.cells #[.int .i64 0, .int .i64 1, .int .i64 2] 3))
  have T2 := Lib.hid (show Tk nos wa [obB wb.heap.size 3 [.int .i64 0, .int .i64 1, .int .i64 2], obPA g Q 4 3 (zO [0, 1, 2] 3) noN] (wb.alloc (.cells #[.int .i64 0, .int .i64 1, .int .i64 2] 3)) from t2)
  clear T1 t2
  generalize wb.alloc (.cells #[.int .i64 0, .int .i64 1, .int .i64 2] 3) = wc at *
  generalize wb.heap.size = a at *
  have t3 := T2.out.alloc 3 [.int .i64 0, .int .i64 0, .int .i64 0]
  go_upto_region 9 with fail
  change Code.wp _ _ _ _ (wc.alloc (.cells #[.int .i64 0, .int .i64 0, .int .i64 0] 3))
  have T3 := Lib.hid (show Tk nos wa [obB wc.heap.size 3 [.int .i64 0, .int .i64 0, .int .i64 0], obB a 3 [.int .i64 0, .int .i64 1, .int .i64 2], obPA g Q 4 3 (zO [0, 1, 2] 3) noN] (wc.alloc (.cells #[.int .i64 0, .int .i64 0, .int .i64 0] 3)) from t3)
  clear T2 t3
  generalize wc.alloc (.cells #[.int .i64 0, .int .i64 0, .int .i64 0] 3) = wd at *
  generalize wc.heap.size = b at *
  have t4 := T3.out.alloc 3 [.int .i64 0, .int .i64 0, .int .i64 0]
  go_upto_region 10 with fail
  change Code.wp _ _ _ _ (wd.alloc (.cells #[.int .i64 0, .int .i64 0, .int .i64 0] 3))
  have S0 : Hid (Mv wa g a b wd.heap.size Q (wd.alloc (.cells #[.int .i64 0, .int .i64 0, .int .i64 0] 3))) := Lib.hid ⟨zO [0, 1, 2] 3, noN, noI, show Tk nos wa (mvG g a b wd.heap.size Q (zO [0, 1, 2] 3) noN noI (zO [0, 1, 2] 3) noN) _ from t4, fun i hi => absurd rfl hi⟩
  clear T3 t4
  generalize wd.alloc (.cells #[.int .i64 0, .int .i64 0, .int .i64 0] 3) = we at *
  generalize wd.heap.size = c at *
  clear hU' hI'
  go_wp2_with fail
  go_loopw [13] (fun i wr => ∃ (k : Nat), k ≤ n ∧ k ≤ 40 ∧ i = .int .i64 k ∧ Hid (Mv wa g a b c Q wr)) (fun i _ => 40 - (intOf i).toNat)
  case atStart => exact ⟨0, by omega, by omega, rfl, S0⟩
  case round =>
    clear S0
    obtain ⟨k, hkn, hk40, rfl, HS⟩ := hrel
    by_cases hgo : k < n ∧ k < 40
    · obtain ⟨hlt, h40⟩ := hgo
      obtain ⟨O, L, T, tk, htt⟩ := HS.out
      have hbw0 := Below.down BA.out tk.below BA.out.size
      obtain ⟨b1, o1, cp1, e, hbw, hcell⟩ := sli_at (HV.out.below hbw0) k hlt
      simp only [Value.slice.injEq] at e
      obtain ⟨rfl, -, -⟩ := e
      generalize zs.getD k 0 = z at hcell
      have hltI : (k : Int) < n := by omega
      have h40I : (k : Int) < 40 := by omega
      have hM := band z 1023 (by omega) (by omega)
      have hB := band (z / 1024) 1 (by omega) (by omega)
      generalize hM' : bits BinOp.and IntKind.i64 z 1023 = M at hM
      generalize hB' : bits BinOp.and IntKind.i64 (z / 1024) 1 = B at hB
      obtain ⟨hm0, hm1, hm2, hm3⟩ := tmodA (t := M) (m := 3) hM.1 (by omega) (by omega)
      generalize M % 3 = dI at hm0 hm1 hm2 hm3
      obtain ⟨d, rfl⟩ := Int.eq_ofNat_of_zero_le hm1
      have hd3 : d < 3 := by omega
      obtain ⟨hb0, hb1⟩ := hB
      have hl8 := (tk.pa (i := 3) rfl).l8
      have TT := Lib.hid htt
      have L8 := Lib.hid hl8
      have L1 := Lib.hid tk
      have hp : (∃ p : Int, k < n' ∧ (0 ≤ p ∧ p ≤ 3) ∧ ∃ b2 o2 y, A' = some ⟨b2, o2, none⟩ ∧ wr.cell? ⟨b2, o2 + k, none⟩ = some (.int .i64 y) ∧ bits BinOp.and IntKind.i64 y 3 = p) ∨ ¬ (k < n') := by
        by_cases h : k < n'
        · obtain ⟨b2, o2, cp2, e, _, hc2⟩ := sli_at (HV'.out.below hbw0) k h
          simp only [Value.slice.injEq] at e
          exact .inl ⟨_, h, band _ 3 (by omega) (by omega), b2, o2, _, e.1, hc2, rfl⟩
        · exact .inr h
      clear tk hM HS htt hl8 hbw0
      rcases hp with ⟨p, hk2, hp03, b2, o2, y, rfl, hc2, hpy⟩ | hk2
      · have hk2I : (k : Int) < n' := by omega
        obtain ⟨hp0, hp3⟩ := hp03
        rcases (show B = 0 ∨ B = 1 by omega) with rfl | rfl
        · obtain ⟨hy, hnn⟩ := am_yes (q := Q) O L (t := p) hd3 (show adB 4 p = true by unfold adB; simp only [decide_eq_true_eq]; omega)
          have cM := tk_amove (i := 3) d p wr L1.out rfl
          rcases (show L d = 0 ∨ L d ≠ 0 by omega) with hl | hl
          · as_aux_lemma =>
              obtain ⟨e1, e2, e3⟩ := hy hl
              rw [e1, e2, e3] at cM
              have CM := Lib.hid cM
              clear cM e1 e2 e3 hy hnn L1
              go_wp2_with fail
              refine CM.out.mono ?_
              rintro e w2 ⟨rfl, t2⟩
              have T2 := Lib.hid (show Tk nos wa (mvG g a b c Q O L T (iF O d p) (uN L d Q)) w2 from t2)
              clear CM t2
              have cl : w2.cell? ⟨c, d, none⟩ = some (.int .i64 0) := by
                rw [(T2.out.blk (i := 0) rfl).cell, itc_get _ _ _ hd3]; unfold lF; rw [hl]; rfl
              have cb : w2.cell? ⟨b, d, none⟩ = some (.int .i64 (T d)) := by rw [(T2.out.blk (i := 1) rfl).cell, itc_get _ _ _ hd3]
              have fb := (T2.out.blk (i := 1) rfl).frozen d
              go_upto_region 22 with fail
              change Code.wp _ _ _ _ (w2.setCell ⟨b, d, none⟩ (.int .i64 p))
              have t3 := T2.out.store (i := 1) rfl d (.int .i64 p)
              rw [itc_set] at t3
              have T3 := Lib.hid (show Tk nos wa [obB c 3 (itc (lF L) 3), obB b 3 (itc (iF T d p) 3), obB a 3 (itc (oF O L) 3), obPA g Q 4 3 (iF O d p) (uN L d Q)] (w2.setCell ⟨b, d, none⟩ (.int .i64 p)) from t3)
              clear T2 t3 cl cb fb
              generalize w2.setCell ⟨b, d, none⟩ (.int .i64 p) = w3 at *
              have cl : w3.cell? ⟨c, d, none⟩ = some (.int .i64 (lF L d)) := by rw [(T3.out.blk (i := 0) rfl).cell, itc_get _ _ _ hd3]
              have fl := (T3.out.blk (i := 0) rfl).frozen d
              go_upto_region 23 with fail
              have t4 := T3.out.store (i := 0) rfl d (.int .i64 Q)
              rw [itc_set, lF_put] at t4
              have T4 := Lib.hid (show Tk nos wa [obB c 3 (itc (lF (uN L d Q)) 3), obB b 3 (itc (iF T d p) 3), obB a 3 (itc (oF O L) 3), obPA g Q 4 3 (iF O d p) (uN L d Q)] (w3.setCell ⟨c, d, none⟩ (.int .i64 (1 + I))) from (by rw [← HQ.out]; exact t4))
              change Code.wp _ _ _ _ (w3.setCell ⟨c, d, none⟩ (.int .i64 (1 + I)))
              clear T3 t4 cl fl
              generalize w3.setCell ⟨c, d, none⟩ (.int .i64 (1 + I)) = w4 at *
              have ca : w4.cell? ⟨a, d, none⟩ = some (.int .i64 (oF O L d)) := by rw [(T4.out.blk (i := 2) rfl).cell, itc_get _ _ _ hd3]
              have fa := (T4.out.blk (i := 2) rfl).frozen d
              go_upto_region 24 with fail
              have t5 := T4.out.store (i := 2) rfl d (.int .i64 (-1))
              rw [itc_set, oF_move O L d Q p (by omega)] at t5
              have T5 := Lib.hid (show Tk nos wa (mvG g a b c Q (iF O d p) (uN L d Q) (iF T d p) (iF O d p) (uN L d Q)) (w4.setCell ⟨a, d, none⟩ (.int .i64 (-1))) from t5)
              change Code.wp _ _ _ _ (w4.setCell ⟨a, d, none⟩ (.int .i64 (-1)))
              clear T4 t5 ca fa
              generalize w4.setCell ⟨a, d, none⟩ (.int .i64 (-1)) = w5 at *
              go_wp2_with fail
              refine (num_any _ _).mono ?_
              rintro e w' ⟨rfl, rfl⟩
              go_wp2_with fail
              have T9 : Hid (MvS wa g a b c Q (iF O d p) (uN L d Q) (iF T d p) w5) := T5
              have TT9 : Hid (∀ i, (uN L d Q) i ≠ 0 → (iF T d p) i = (iF O d p) i) := Lib.hid (mv_tt TT.out)
              clear T5
              generalize (iF O d p) = O9 at *
              generalize (uN L d Q) = L9 at *
              generalize (iF T d p) = T9f at *
              go_loopw [20] (fun i wr => ∃ (j : Nat), j ≤ 3 ∧ i = .int .i64 j ∧ Hid (MvS wa g a b c Q O9 L9 T9f wr)) (fun i _ => 3 - (intOf i).toNat)
              case atStart => exact ⟨0, by omega, rfl, T9⟩
              case round =>
                clear T9
                obtain ⟨j, hj, rfl, HJ⟩ := hrel
                by_cases hlj : j < 3
                · obtain ⟨p1, p2, p3⟩ := a_yes 3 O9 L9 j hlj
                  have hjI : (j : Int) < 3 := by omega
                  have hX : ∃ X Y Z : Int, ph (L9 j) = X ∧ oF O9 L9 j = Y ∧ (L9 j : Int) = Z ∧ ((X = 0 ∧ Z = 0) ∨ (X = 1 ∧ 0 < Z)) := ⟨_, _, _, rfl, rfl, rfl, by
                    unfold ph
                    by_cases h : L9 j = 0
                    · rw [if_pos h]; exact .inl ⟨rfl, by omega⟩
                    · rw [if_neg h]; exact .inr ⟨rfl, by omega⟩⟩
                  obtain ⟨X, Y, Z, hX, hY, hZ, hXZ⟩ := hX
                  rw [hX] at p2
                  have p4 : aoX 3 O9 L9 (j : Int) = Y := p3.trans hY
                  have P1 := Lib.hid p1; have P2 := Lib.hid p2; have P3 := Lib.hid p4
                  have HY := Lib.hid hY; have HZ := Lib.hid hZ; have HLJ := Lib.hid hlj
                  have e6 : (Y != Y) = false := by simp
                  clear hX hY hZ p1 p2 p3 p4
                  rcases hXZ with ⟨rfl, rfl⟩ | ⟨rfl, hZ⟩
                  · go_wp2_with fail
                    refine (HJ.out.phase P2.out P1.out).mono ?_
                    rintro e w' ⟨rfl, rfl⟩
                    have hM := HJ.out
                    obtain ⟨ca, cc, -⟩ := hM.all HLJ.out HY.out HZ.out
                    go_wp2_with fail
                    go_region_held3 (fun w' => w'.cell? ⟨a, j, none⟩ = some (.int .i64 Y) ∧ w'.cell? ⟨c, j, none⟩ = some (.int .i64 0) ∧ MvS wa g a b c Q O9 L9 T9f w')
                      ((go_split_ands; refine MvS.all ?_ HLJ.out HY.out HZ.out; (first | assumption | (exact MvS.drew (by assumption)))))
                      (first
                        | (go_at_call 19; (with_reducible refine (MvS.owner (MvS.drew hM) P3.out).mono ?_); rintro e w6 ⟨rfl, t6⟩)
                        | (go_at_call 9; (with_reducible refine (num_any _ _).mono ?_); rintro e w7 ⟨rfl, rfl⟩))
                    clear ca cc
                    go_wp2_with fail
                    go_roundw
                    case rel => exact ⟨j + 1, by omega, by go_num, Lib.hid t6⟩
                    case measure => simp [intOf]; omega
                  · go_wp2_with fail
                    refine (HJ.out.phase P2.out P1.out).mono ?_
                    rintro e w' ⟨rfl, rfl⟩
                    have hM := HJ.out
                    obtain ⟨ca, cc, -⟩ := hM.all HLJ.out HY.out HZ.out
                    go_wp2_with fail
                    go_region_held3 (fun w' => w'.cell? ⟨a, j, none⟩ = some (.int .i64 Y) ∧ w'.cell? ⟨c, j, none⟩ = some (.int .i64 Z) ∧ MvS wa g a b c Q O9 L9 T9f w')
                      ((go_split_ands; refine MvS.all ?_ HLJ.out HY.out HZ.out; (first | assumption | (exact MvS.drew (by assumption)))))
                      (first
                        | (go_at_call 19; (with_reducible refine (MvS.owner (MvS.drew hM) P3.out).mono ?_); rintro e w6 ⟨rfl, t6⟩)
                        | (go_at_call 9; (with_reducible refine (num_any _ _).mono ?_); rintro e w7 ⟨rfl, rfl⟩))
                    clear ca cc
                    go_wp2_with fail
                    go_roundw
                    case rel => exact ⟨j + 1, by omega, by go_num, Lib.hid t6⟩
                    case measure => simp [intOf]; omega
                · have e : j = 3 := by omega
                  subst e
                  rw [show ((3 : Nat) : Int) = 3 from rfl]
                  go_wp2_with fail
                  go_roundw
                  case rel => exact ⟨k + 1, by omega, by omega, by go_num, Lib.hid ⟨O9, L9, T9f, HJ.out, TT9.out⟩⟩
                  case measure => simp [intOf]; omega
          · as_aux_lemma =>
              obtain ⟨e1, e2, e3⟩ := hnn hl
              rw [e1, e2, e3] at cM
              have CM := Lib.hid cM
              have hlI : 0 < (L d : Int) := by omega
              clear cM e1 e2 e3 hy hnn L1
              go_wp2_with fail
              refine CM.out.mono ?_
              rintro e w2 ⟨rfl, t2⟩
              have T2 := Lib.hid (show Tk nos wa (mvG g a b c Q O L T O L) w2 from t2)
              clear CM t2
              have cl : w2.cell? ⟨c, d, none⟩ = some (.int .i64 (L d : Int)) := by
                rw [(T2.out.blk (i := 0) rfl).cell, itc_get _ _ _ hd3]; unfold lF; rfl
              generalize (L d : Int) = l at *
              go_wp2_with fail
              refine (num_any _ _).mono ?_
              rintro e w' ⟨rfl, rfl⟩
              clear cl
              go_wp2_with fail
              have T9 : Hid (MvS wa g a b c Q O L T w2) := T2
              have TT9 : Hid (∀ i, L i ≠ 0 → T i = O i) := Lib.hid (TT.out)
              clear T2
              generalize O = O9 at *
              generalize L = L9 at *
              generalize T = T9f at *
              go_loopw [20] (fun i wr => ∃ (j : Nat), j ≤ 3 ∧ i = .int .i64 j ∧ Hid (MvS wa g a b c Q O9 L9 T9f wr)) (fun i _ => 3 - (intOf i).toNat)
              case atStart => exact ⟨0, by omega, rfl, T9⟩
              case round =>
                clear T9
                obtain ⟨j, hj, rfl, HJ⟩ := hrel
                by_cases hlj : j < 3
                · obtain ⟨p1, p2, p3⟩ := a_yes 3 O9 L9 j hlj
                  have hjI : (j : Int) < 3 := by omega
                  have hX : ∃ X Y Z : Int, ph (L9 j) = X ∧ oF O9 L9 j = Y ∧ (L9 j : Int) = Z ∧ ((X = 0 ∧ Z = 0) ∨ (X = 1 ∧ 0 < Z)) := ⟨_, _, _, rfl, rfl, rfl, by
                    unfold ph
                    by_cases h : L9 j = 0
                    · rw [if_pos h]; exact .inl ⟨rfl, by omega⟩
                    · rw [if_neg h]; exact .inr ⟨rfl, by omega⟩⟩
                  obtain ⟨X, Y, Z, hX, hY, hZ, hXZ⟩ := hX
                  rw [hX] at p2
                  have p4 : aoX 3 O9 L9 (j : Int) = Y := p3.trans hY
                  have P1 := Lib.hid p1; have P2 := Lib.hid p2; have P3 := Lib.hid p4
                  have HY := Lib.hid hY; have HZ := Lib.hid hZ; have HLJ := Lib.hid hlj
                  have e6 : (Y != Y) = false := by simp
                  clear hX hY hZ p1 p2 p3 p4
                  rcases hXZ with ⟨rfl, rfl⟩ | ⟨rfl, hZ⟩
                  · go_wp2_with fail
                    refine (HJ.out.phase P2.out P1.out).mono ?_
                    rintro e w' ⟨rfl, rfl⟩
                    have hM := HJ.out
                    obtain ⟨ca, cc, -⟩ := hM.all HLJ.out HY.out HZ.out
                    go_wp2_with fail
                    go_region_held3 (fun w' => w'.cell? ⟨a, j, none⟩ = some (.int .i64 Y) ∧ w'.cell? ⟨c, j, none⟩ = some (.int .i64 0) ∧ MvS wa g a b c Q O9 L9 T9f w')
                      ((go_split_ands; refine MvS.all ?_ HLJ.out HY.out HZ.out; (first | assumption | (exact MvS.drew (by assumption)))))
                      (first
                        | (go_at_call 19; (with_reducible refine (MvS.owner (MvS.drew hM) P3.out).mono ?_); rintro e w6 ⟨rfl, t6⟩)
                        | (go_at_call 9; (with_reducible refine (num_any _ _).mono ?_); rintro e w7 ⟨rfl, rfl⟩))
                    clear ca cc
                    go_wp2_with fail
                    go_roundw
                    case rel => exact ⟨j + 1, by omega, by go_num, Lib.hid t6⟩
                    case measure => simp [intOf]; omega
                  · go_wp2_with fail
                    refine (HJ.out.phase P2.out P1.out).mono ?_
                    rintro e w' ⟨rfl, rfl⟩
                    have hM := HJ.out
                    obtain ⟨ca, cc, -⟩ := hM.all HLJ.out HY.out HZ.out
                    go_wp2_with fail
                    go_region_held3 (fun w' => w'.cell? ⟨a, j, none⟩ = some (.int .i64 Y) ∧ w'.cell? ⟨c, j, none⟩ = some (.int .i64 Z) ∧ MvS wa g a b c Q O9 L9 T9f w')
                      ((go_split_ands; refine MvS.all ?_ HLJ.out HY.out HZ.out; (first | assumption | (exact MvS.drew (by assumption)))))
                      (first
                        | (go_at_call 19; (with_reducible refine (MvS.owner (MvS.drew hM) P3.out).mono ?_); rintro e w6 ⟨rfl, t6⟩)
                        | (go_at_call 9; (with_reducible refine (num_any _ _).mono ?_); rintro e w7 ⟨rfl, rfl⟩))
                    clear ca cc
                    go_wp2_with fail
                    go_roundw
                    case rel => exact ⟨j + 1, by omega, by go_num, Lib.hid t6⟩
                    case measure => simp [intOf]; omega
                · have e : j = 3 := by omega
                  subst e
                  rw [show ((3 : Nat) : Int) = 3 from rfl]
                  go_wp2_with fail
                  go_roundw
                  case rel => exact ⟨k + 1, by omega, by omega, by go_num, Lib.hid ⟨O9, L9, T9f, HJ.out, TT9.out⟩⟩
                  case measure => simp [intOf]; omega
        · as_aux_lemma =>
            have T0 : Hid (Tk nos wa (obJ (.slice none 0 0) (atE L 0) :: mvG g a b c Q O (atL L 0) T O L) wr) := Lib.hid (by
              rw [atL_zero]
              exact L1.out.addR (v := .slice none 0 0) (n := 0) (xs := []) (Below.refl _ _) (World.ownsRow_nil _ _ _ _))
            clear L1
            go_wp2_with fail
            clear hcell
            go_loopw [18, 19] (fun u i wr => ∃ (j : Nat), j ≤ 3 ∧ i = .int .i64 j ∧ Hid (Tk nos wa (obJ u (atE L j) :: mvG g a b c Q O (atL L j) T O L) wr)) (fun _ i _ => 3 - (intOf i).toNat)
            case atStart => exact ⟨0, by omega, rfl, T0⟩
            case round =>
              clear T0
              obtain ⟨j, hj, rfl, HJ⟩ := hrel
              by_cases hlj : j < 3
              · have hjI : (j : Int) < 3 := by omega
                have hlen := atE_len L j
                have l8 := L8.out j
                have cl : wr.cell? ⟨c, j, none⟩ = some (.int .i64 (L j : Int)) := by
                  rw [(HJ.out.blk (i := 1) rfl).cell, itc_get _ _ _ hlj]; unfold lF; rw [atL_here]
                have fl := (HJ.out.blk (i := 1) rfl).frozen j
                rcases (show L j = 0 ∨ L j = 1 ∨ 2 ≤ L j by omega) with hl | hl | hl
                · have HE := Lib.hid (atE_no L j (by omega))
                  have HU : Hid (atL L j = atL L (j + 1)) := Lib.hid (by rw [← atL_step, show L j - 1 = atL L j j by rw [atL_here]; omega, uN_same])
                  rw [hl] at cl
                  have cl0 : wr.cell? ⟨c, j, none⟩ = some (.int .i64 0) := cl
                  clear cl hl
                  go_wp2_with fail
                  go_roundw
                  case rel => exact ⟨j + 1, by omega, by go_num, Lib.hid (by rw [HE.out, ← HU.out]; exact HJ.out)⟩
                  case measure => simp [intOf]; omega
                · have HE := Lib.hid (atE_yes L j hl)
                  have htj := TT.out j (by omega)
                  have HO := Lib.hid (oF_last O (atL L j) j)
                  have HL := Lib.hid (lF_put (atL L j) j 0)
                  have HU : Hid (uN (atL L j) j 0 = atL L (j + 1)) := Lib.hid (by rw [← atL_step, hl])
                  rw [hl] at cl
                  have cl1 : wr.cell? ⟨c, j, none⟩ = some (.int .i64 1) := cl
                  clear cl hl
                  go_upto_region 32 with fail
                  have t1 := HJ.out.store (i := 1) rfl j (.int .i64 0)
                  have hl0 := HL.out
                  rw [show (((0 : Nat)) : Int) = 0 from rfl] at hl0
                  rw [itc_set, hl0, HU.out] at t1
                  have T1 := Lib.hid (show Tk nos wa [obJ u18 (atE L j), obB c 3 (itc (lF (atL L (j + 1))) 3), obB b 3 (itc T 3), obB a 3 (itc (oF O (atL L j)) 3), obPA g Q 4 3 O L] (wr.setCell ⟨c, j, none⟩ (.int .i64 0)) from t1)
                  change Code.wp _ _ _ _ (wr.setCell ⟨c, j, none⟩ (.int .i64 0))
                  clear t1 cl1 fl hl0
                  generalize wr.setCell ⟨c, j, none⟩ (.int .i64 0) = w1 at *
                  have cl : w1.cell? ⟨c, j, none⟩ = some (.int .i64 0) := by
                    rw [(T1.out.blk (i := 1) rfl).cell, itc_get _ _ _ hlj, ← HU.out]; unfold lF; rw [uN_here]; rfl
                  have cb : w1.cell? ⟨b, j, none⟩ = some (.int .i64 (O j)) := by rw [(T1.out.blk (i := 2) rfl).cell, itc_get _ _ _ hlj, htj]
                  have ca : w1.cell? ⟨a, j, none⟩ = some (.int .i64 (oF O (atL L j) j)) := by rw [(T1.out.blk (i := 3) rfl).cell, itc_get _ _ _ hlj]
                  have fa := (T1.out.blk (i := 3) rfl).frozen j
                  clear htj
                  go_upto_region 34 with fail
                  have t2 := T1.out.store (i := 3) rfl j (.int .i64 (O j))
                  rw [itc_set, HO.out, HU.out] at t2
                  have T2 := Lib.hid (show Tk nos wa (obJ u18 (atE L j) :: mvG g a b c Q O (atL L (j + 1)) T O L) (w1.setCell ⟨a, j, none⟩ (.int .i64 (O j))) from t2)
                  change Code.wp _ _ _ _ (w1.setCell ⟨a, j, none⟩ (.int .i64 (O j)))
                  clear t2 T1 cl cb ca fa
                  generalize w1.setCell ⟨a, j, none⟩ (.int .i64 (O j)) = w4 at *
                  have hbl : Below w4.heap.size w4 (w4.alloc (.cells #[.int .i64 (j : Int)] 3)) := (Below.refl _ _).alloc (Nat.le_refl _) _
                  have BL := Lib.hid hbl
                  clear hbl
                  go_wp2_with (at_builtin; refine wpList_append_lies _ rfl _ _ 22 rfl 0 3 i0 _ 1 8 Try.underlying22 HI.out HZ0.out HZ1.out HZ2.out rfl (by decide) u18 (atE L j).length (ints (atE L j)) rfl (own_below (T2.out.row (i := 0) rfl) BL.out) ⟨w4.heap.size, 0, none⟩ 1 1 [.int .i64 (j : Int)] rfl rfl (row_new w4 [.int .i64 (j : Int)] 3) (int1A (j : Int)) (by omega) (by unfold maxLen; omega) (by omega) (by omega) _ rfl ?_)
                  intro gg cap6 w6 own6 gr6 hat6 hlt6
                  have t5 := T2.out.next BL.out
                  have t6 : Tk nos wa (obJ (.slice (some ⟨gg, 0, none⟩) ((atE L j).length + 1) cap6) (atE L (j + 1)) :: mvG g a b c Q O (atL L (j + 1)) T O L) w6 := by
                    refine t5.turnR (i := 0) rfl gr6 (by rw [HE.out, ints_append, List.length_append]; exact own6) (fun x hx => ?_)
                    have e : gg = x := by simpa [Value.ownBlock] using hx
                    subst e
                    rcases hat6 with h | h
                    · exact .inl h
                    · exact .inr (by simp at h ⊢; omega)
                  have T6 := Lib.hid t6
                  clear own6 gr6 hat6 hlt6 t5 t6
                  go_wp2_with fail
                  go_roundw
                  case rel => exact ⟨j + 1, by omega, by go_num, T6⟩
                  case measure => simp [intOf]; omega
                · have HE := Lib.hid (atE_no L j (by omega))
                  have HO : Hid (oF O (atL L j) = oF O (atL L (j + 1))) := Lib.hid (by
                    have := oF_less O (atL L j) j (by rw [atL_here]; omega) (by rw [atL_here]; omega)
                    rw [atL_here, atL_step] at this
                    exact this)
                  have HL := Lib.hid (lF_put (atL L j) j (L j - 1))
                  rw [atL_step, show ((L j - 1 : Nat) : Int) = (L j : Int) - 1 by omega] at HL
                  have hh : (lF (atL L (j + 1))) j = (L j : Int) - 1 := by
                    unfold lF; rw [show atL L (j + 1) j = L j - 1 by unfold atL; rw [if_pos (by omega)]]; omega
                  have l1 : 2 ≤ (L j : Int) := by omega
                  have l2 : (L j : Int) ≤ 8 := by omega
                  have l3 : ((L j : Int) - 1 == 0) = false := by simp; omega
                  clear hl l8
                  generalize (L j : Int) = l at *
                  go_upto_region 32 with fail
                  have t1 := HJ.out.store (i := 1) rfl j (.int .i64 (l - 1))
                  rw [itc_set, HL.out] at t1
                  have t2 : Tk nos wa [obJ u18 (atE L j), obB c 3 (itc (lF (atL L (j + 1))) 3), obB b 3 (itc T 3), obB a 3 (itc (oF O (atL L j)) 3), obPA g Q 4 3 O L] (wr.setCell ⟨c, j, none⟩ (.int .i64 (l - 1))) := t1
                  rw [HO.out] at t2
                  have T1 := Lib.hid (show Tk nos wa (obJ u18 (atE L j) :: mvG g a b c Q O (atL L (j + 1)) T O L) (wr.setCell ⟨c, j, none⟩ (.int .i64 (l - 1))) from t2)
                  clear t2
                  change Code.wp _ _ _ _ (wr.setCell ⟨c, j, none⟩ (.int .i64 (l - 1)))
                  clear t1 cl fl
                  generalize wr.setCell ⟨c, j, none⟩ (.int .i64 (l - 1)) = w1 at *
                  have cl : w1.cell? ⟨c, j, none⟩ = some (.int .i64 (l - 1)) := by
                    rw [(T1.out.blk (i := 1) rfl).cell, itc_get _ _ _ hlj, hh]
                  clear hh HL
                  generalize l - 1 = m at *
                  go_wp2_with fail
                  go_roundw
                  case rel => exact ⟨j + 1, by omega, by go_num, Lib.hid (by rw [HE.out]; exact T1.out)⟩
                  case measure => simp [intOf]; omega
              · have e : j = 3 := by omega
                subst e
                rw [show ((3 : Nat) : Int) = 3 from rfl]
                have hlen := atE_len L 3
                go_wp2_with fail
                refine (tk_atick (i := 4) wr HJ.out rfl).mono ?_
                rintro e w3 ⟨x1, rfl, t3⟩
                have cS := same_ints x1 u18 (atE L 3) w3 (t3.sl (i := 0) rfl) (t3.sl (i := 1) rfl) (by omega)
                have T3 := Lib.hid (show Tk nos wa (mvG g a b c Q O (atL L 3) T O (atL L 3)) w3 from t3.tail.tail)
                clear t3 HJ
                go_wp2_with fail
                refine cS.mono ?_
                clear cS
                rintro e w' ⟨rfl, q6, rfl⟩
                have T4 := Lib.hid (T3.out.drewN q6)
                clear T3
                generalize w3.drewN q6 = w4 at *
                go_wp2_with fail
                have T9 : Hid (MvS wa g a b c Q O (atL L 3) T w4) := T4
                have TT9 : Hid (∀ i, (atL L 3) i ≠ 0 → T i = O i) := Lib.hid (fun i hi => TT.out i (fun e => hi (by unfold atL; split <;> omega)))
                clear T4
                generalize O = O9 at *
                generalize (atL L 3) = L9 at *
                generalize T = T9f at *
                go_loopw [20] (fun i wr => ∃ (j : Nat), j ≤ 3 ∧ i = .int .i64 j ∧ Hid (MvS wa g a b c Q O9 L9 T9f wr)) (fun i _ => 3 - (intOf i).toNat)
                case atStart => exact ⟨0, by omega, rfl, T9⟩
                case round =>
                  clear T9
                  obtain ⟨j, hj, rfl, HJ⟩ := hrel
                  by_cases hlj : j < 3
                  · obtain ⟨p1, p2, p3⟩ := a_yes 3 O9 L9 j hlj
                    have hjI : (j : Int) < 3 := by omega
                    have hX : ∃ X Y Z : Int, ph (L9 j) = X ∧ oF O9 L9 j = Y ∧ (L9 j : Int) = Z ∧ ((X = 0 ∧ Z = 0) ∨ (X = 1 ∧ 0 < Z)) := ⟨_, _, _, rfl, rfl, rfl, by
                      unfold ph
                      by_cases h : L9 j = 0
                      · rw [if_pos h]; exact .inl ⟨rfl, by omega⟩
                      · rw [if_neg h]; exact .inr ⟨rfl, by omega⟩⟩
                    obtain ⟨X, Y, Z, hX, hY, hZ, hXZ⟩ := hX
                    rw [hX] at p2
                    have p4 : aoX 3 O9 L9 (j : Int) = Y := p3.trans hY
                    have P1 := Lib.hid p1; have P2 := Lib.hid p2; have P3 := Lib.hid p4
                    have HY := Lib.hid hY; have HZ := Lib.hid hZ; have HLJ := Lib.hid hlj
                    have e6 : (Y != Y) = false := by simp
                    clear hX hY hZ p1 p2 p3 p4
                    rcases hXZ with ⟨rfl, rfl⟩ | ⟨rfl, hZ⟩
                    · go_wp2_with fail
                      refine (HJ.out.phase P2.out P1.out).mono ?_
                      rintro e w' ⟨rfl, rfl⟩
                      have hM := HJ.out
                      obtain ⟨ca, cc, -⟩ := hM.all HLJ.out HY.out HZ.out
                      go_wp2_with fail
                      go_region_held3 (fun w' => w'.cell? ⟨a, j, none⟩ = some (.int .i64 Y) ∧ w'.cell? ⟨c, j, none⟩ = some (.int .i64 0) ∧ MvS wa g a b c Q O9 L9 T9f w')
                        ((go_split_ands; refine MvS.all ?_ HLJ.out HY.out HZ.out; (first | assumption | (exact MvS.drew (by assumption)))))
                        (first
                          | (go_at_call 19; (with_reducible refine (MvS.owner (MvS.drew hM) P3.out).mono ?_); rintro e w6 ⟨rfl, t6⟩)
                          | (go_at_call 9; (with_reducible refine (num_any _ _).mono ?_); rintro e w7 ⟨rfl, rfl⟩))
                      clear ca cc
                      go_wp2_with fail
                      go_roundw
                      case rel => exact ⟨j + 1, by omega, by go_num, Lib.hid t6⟩
                      case measure => simp [intOf]; omega
                    · go_wp2_with fail
                      refine (HJ.out.phase P2.out P1.out).mono ?_
                      rintro e w' ⟨rfl, rfl⟩
                      have hM := HJ.out
                      obtain ⟨ca, cc, -⟩ := hM.all HLJ.out HY.out HZ.out
                      go_wp2_with fail
                      go_region_held3 (fun w' => w'.cell? ⟨a, j, none⟩ = some (.int .i64 Y) ∧ w'.cell? ⟨c, j, none⟩ = some (.int .i64 Z) ∧ MvS wa g a b c Q O9 L9 T9f w')
                        ((go_split_ands; refine MvS.all ?_ HLJ.out HY.out HZ.out; (first | assumption | (exact MvS.drew (by assumption)))))
                        (first
                          | (go_at_call 19; (with_reducible refine (MvS.owner (MvS.drew hM) P3.out).mono ?_); rintro e w6 ⟨rfl, t6⟩)
                          | (go_at_call 9; (with_reducible refine (num_any _ _).mono ?_); rintro e w7 ⟨rfl, rfl⟩))
                      clear ca cc
                      go_wp2_with fail
                      go_roundw
                      case rel => exact ⟨j + 1, by omega, by go_num, Lib.hid t6⟩
                      case measure => simp [intOf]; omega
                  · have e : j = 3 := by omega
                    subst e
                    rw [show ((3 : Nat) : Int) = 3 from rfl]
                    go_wp2_with fail
                    go_roundw
                    case rel => exact ⟨k + 1, by omega, by omega, by go_num, Lib.hid ⟨O9, L9, T9f, HJ.out, TT9.out⟩⟩
                    case measure => simp [intOf]; omega
      · have hk2I : ¬ ((k : Int) < n') := by omega
        rcases (show B = 0 ∨ B = 1 by omega) with rfl | rfl
        · obtain ⟨hy, hnn⟩ := am_yes (q := Q) O L (t := 0) hd3 (show adB 4 0 = true by unfold adB; simp only [decide_eq_true_eq]; omega)
          have cM := tk_amove (i := 3) d 0 wr L1.out rfl
          rcases (show L d = 0 ∨ L d ≠ 0 by omega) with hl | hl
          · as_aux_lemma =>
              obtain ⟨e1, e2, e3⟩ := hy hl
              rw [e1, e2, e3] at cM
              have CM := Lib.hid cM
              clear cM e1 e2 e3 hy hnn L1
              go_wp2_with fail
              refine CM.out.mono ?_
              rintro e w2 ⟨rfl, t2⟩
              have T2 := Lib.hid (show Tk nos wa (mvG g a b c Q O L T (iF O d 0) (uN L d Q)) w2 from t2)
              clear CM t2
              have cl : w2.cell? ⟨c, d, none⟩ = some (.int .i64 0) := by
                rw [(T2.out.blk (i := 0) rfl).cell, itc_get _ _ _ hd3]; unfold lF; rw [hl]; rfl
              have cb : w2.cell? ⟨b, d, none⟩ = some (.int .i64 (T d)) := by rw [(T2.out.blk (i := 1) rfl).cell, itc_get _ _ _ hd3]
              have fb := (T2.out.blk (i := 1) rfl).frozen d
              go_upto_region 22 with fail
              change Code.wp _ _ _ _ (w2.setCell ⟨b, d, none⟩ (.int .i64 0))
              have t3 := T2.out.store (i := 1) rfl d (.int .i64 0)
              rw [itc_set] at t3
              have T3 := Lib.hid (show Tk nos wa [obB c 3 (itc (lF L) 3), obB b 3 (itc (iF T d 0) 3), obB a 3 (itc (oF O L) 3), obPA g Q 4 3 (iF O d 0) (uN L d Q)] (w2.setCell ⟨b, d, none⟩ (.int .i64 0)) from t3)
              clear T2 t3 cl cb fb
              generalize w2.setCell ⟨b, d, none⟩ (.int .i64 0) = w3 at *
              have cl : w3.cell? ⟨c, d, none⟩ = some (.int .i64 (lF L d)) := by rw [(T3.out.blk (i := 0) rfl).cell, itc_get _ _ _ hd3]
              have fl := (T3.out.blk (i := 0) rfl).frozen d
              go_upto_region 23 with fail
              have t4 := T3.out.store (i := 0) rfl d (.int .i64 Q)
              rw [itc_set, lF_put] at t4
              have T4 := Lib.hid (show Tk nos wa [obB c 3 (itc (lF (uN L d Q)) 3), obB b 3 (itc (iF T d 0) 3), obB a 3 (itc (oF O L) 3), obPA g Q 4 3 (iF O d 0) (uN L d Q)] (w3.setCell ⟨c, d, none⟩ (.int .i64 (1 + I))) from (by rw [← HQ.out]; exact t4))
              change Code.wp _ _ _ _ (w3.setCell ⟨c, d, none⟩ (.int .i64 (1 + I)))
              clear T3 t4 cl fl
              generalize w3.setCell ⟨c, d, none⟩ (.int .i64 (1 + I)) = w4 at *
              have ca : w4.cell? ⟨a, d, none⟩ = some (.int .i64 (oF O L d)) := by rw [(T4.out.blk (i := 2) rfl).cell, itc_get _ _ _ hd3]
              have fa := (T4.out.blk (i := 2) rfl).frozen d
              go_upto_region 24 with fail
              have t5 := T4.out.store (i := 2) rfl d (.int .i64 (-1))
              rw [itc_set, oF_move O L d Q 0 (by omega)] at t5
              have T5 := Lib.hid (show Tk nos wa (mvG g a b c Q (iF O d 0) (uN L d Q) (iF T d 0) (iF O d 0) (uN L d Q)) (w4.setCell ⟨a, d, none⟩ (.int .i64 (-1))) from t5)
              change Code.wp _ _ _ _ (w4.setCell ⟨a, d, none⟩ (.int .i64 (-1)))
              clear T4 t5 ca fa
              generalize w4.setCell ⟨a, d, none⟩ (.int .i64 (-1)) = w5 at *
              go_wp2_with fail
              refine (num_any _ _).mono ?_
              rintro e w' ⟨rfl, rfl⟩
              go_wp2_with fail
              have T9 : Hid (MvS wa g a b c Q (iF O d 0) (uN L d Q) (iF T d 0) w5) := T5
              have TT9 : Hid (∀ i, (uN L d Q) i ≠ 0 → (iF T d 0) i = (iF O d 0) i) := Lib.hid (mv_tt TT.out)
              clear T5
              generalize (iF O d 0) = O9 at *
              generalize (uN L d Q) = L9 at *
              generalize (iF T d 0) = T9f at *
              go_loopw [20] (fun i wr => ∃ (j : Nat), j ≤ 3 ∧ i = .int .i64 j ∧ Hid (MvS wa g a b c Q O9 L9 T9f wr)) (fun i _ => 3 - (intOf i).toNat)
              case atStart => exact ⟨0, by omega, rfl, T9⟩
              case round =>
                clear T9
                obtain ⟨j, hj, rfl, HJ⟩ := hrel
                by_cases hlj : j < 3
                · obtain ⟨p1, p2, p3⟩ := a_yes 3 O9 L9 j hlj
                  have hjI : (j : Int) < 3 := by omega
                  have hX : ∃ X Y Z : Int, ph (L9 j) = X ∧ oF O9 L9 j = Y ∧ (L9 j : Int) = Z ∧ ((X = 0 ∧ Z = 0) ∨ (X = 1 ∧ 0 < Z)) := ⟨_, _, _, rfl, rfl, rfl, by
                    unfold ph
                    by_cases h : L9 j = 0
                    · rw [if_pos h]; exact .inl ⟨rfl, by omega⟩
                    · rw [if_neg h]; exact .inr ⟨rfl, by omega⟩⟩
                  obtain ⟨X, Y, Z, hX, hY, hZ, hXZ⟩ := hX
                  rw [hX] at p2
                  have p4 : aoX 3 O9 L9 (j : Int) = Y := p3.trans hY
                  have P1 := Lib.hid p1; have P2 := Lib.hid p2; have P3 := Lib.hid p4
                  have HY := Lib.hid hY; have HZ := Lib.hid hZ; have HLJ := Lib.hid hlj
                  have e6 : (Y != Y) = false := by simp
                  clear hX hY hZ p1 p2 p3 p4
                  rcases hXZ with ⟨rfl, rfl⟩ | ⟨rfl, hZ⟩
                  · go_wp2_with fail
                    refine (HJ.out.phase P2.out P1.out).mono ?_
                    rintro e w' ⟨rfl, rfl⟩
                    have hM := HJ.out
                    obtain ⟨ca, cc, -⟩ := hM.all HLJ.out HY.out HZ.out
                    go_wp2_with fail
                    go_region_held3 (fun w' => w'.cell? ⟨a, j, none⟩ = some (.int .i64 Y) ∧ w'.cell? ⟨c, j, none⟩ = some (.int .i64 0) ∧ MvS wa g a b c Q O9 L9 T9f w')
                      ((go_split_ands; refine MvS.all ?_ HLJ.out HY.out HZ.out; (first | assumption | (exact MvS.drew (by assumption)))))
                      (first
                        | (go_at_call 19; (with_reducible refine (MvS.owner (MvS.drew hM) P3.out).mono ?_); rintro e w6 ⟨rfl, t6⟩)
                        | (go_at_call 9; (with_reducible refine (num_any _ _).mono ?_); rintro e w7 ⟨rfl, rfl⟩))
                    clear ca cc
                    go_wp2_with fail
                    go_roundw
                    case rel => exact ⟨j + 1, by omega, by go_num, Lib.hid t6⟩
                    case measure => simp [intOf]; omega
                  · go_wp2_with fail
                    refine (HJ.out.phase P2.out P1.out).mono ?_
                    rintro e w' ⟨rfl, rfl⟩
                    have hM := HJ.out
                    obtain ⟨ca, cc, -⟩ := hM.all HLJ.out HY.out HZ.out
                    go_wp2_with fail
                    go_region_held3 (fun w' => w'.cell? ⟨a, j, none⟩ = some (.int .i64 Y) ∧ w'.cell? ⟨c, j, none⟩ = some (.int .i64 Z) ∧ MvS wa g a b c Q O9 L9 T9f w')
                      ((go_split_ands; refine MvS.all ?_ HLJ.out HY.out HZ.out; (first | assumption | (exact MvS.drew (by assumption)))))
                      (first
                        | (go_at_call 19; (with_reducible refine (MvS.owner (MvS.drew hM) P3.out).mono ?_); rintro e w6 ⟨rfl, t6⟩)
                        | (go_at_call 9; (with_reducible refine (num_any _ _).mono ?_); rintro e w7 ⟨rfl, rfl⟩))
                    clear ca cc
                    go_wp2_with fail
                    go_roundw
                    case rel => exact ⟨j + 1, by omega, by go_num, Lib.hid t6⟩
                    case measure => simp [intOf]; omega
                · have e : j = 3 := by omega
                  subst e
                  rw [show ((3 : Nat) : Int) = 3 from rfl]
                  go_wp2_with fail
                  go_roundw
                  case rel => exact ⟨k + 1, by omega, by omega, by go_num, Lib.hid ⟨O9, L9, T9f, HJ.out, TT9.out⟩⟩
                  case measure => simp [intOf]; omega
          · as_aux_lemma =>
              obtain ⟨e1, e2, e3⟩ := hnn hl
              rw [e1, e2, e3] at cM
              have CM := Lib.hid cM
              have hlI : 0 < (L d : Int) := by omega
              clear cM e1 e2 e3 hy hnn L1
              go_wp2_with fail
              refine CM.out.mono ?_
              rintro e w2 ⟨rfl, t2⟩
              have T2 := Lib.hid (show Tk nos wa (mvG g a b c Q O L T O L) w2 from t2)
              clear CM t2
              have cl : w2.cell? ⟨c, d, none⟩ = some (.int .i64 (L d : Int)) := by
                rw [(T2.out.blk (i := 0) rfl).cell, itc_get _ _ _ hd3]; unfold lF; rfl
              generalize (L d : Int) = l at *
              go_wp2_with fail
              refine (num_any _ _).mono ?_
              rintro e w' ⟨rfl, rfl⟩
              clear cl
              go_wp2_with fail
              have T9 : Hid (MvS wa g a b c Q O L T w2) := T2
              have TT9 : Hid (∀ i, L i ≠ 0 → T i = O i) := Lib.hid (TT.out)
              clear T2
              generalize O = O9 at *
              generalize L = L9 at *
              generalize T = T9f at *
              go_loopw [20] (fun i wr => ∃ (j : Nat), j ≤ 3 ∧ i = .int .i64 j ∧ Hid (MvS wa g a b c Q O9 L9 T9f wr)) (fun i _ => 3 - (intOf i).toNat)
              case atStart => exact ⟨0, by omega, rfl, T9⟩
              case round =>
                clear T9
                obtain ⟨j, hj, rfl, HJ⟩ := hrel
                by_cases hlj : j < 3
                · obtain ⟨p1, p2, p3⟩ := a_yes 3 O9 L9 j hlj
                  have hjI : (j : Int) < 3 := by omega
                  have hX : ∃ X Y Z : Int, ph (L9 j) = X ∧ oF O9 L9 j = Y ∧ (L9 j : Int) = Z ∧ ((X = 0 ∧ Z = 0) ∨ (X = 1 ∧ 0 < Z)) := ⟨_, _, _, rfl, rfl, rfl, by
                    unfold ph
                    by_cases h : L9 j = 0
                    · rw [if_pos h]; exact .inl ⟨rfl, by omega⟩
                    · rw [if_neg h]; exact .inr ⟨rfl, by omega⟩⟩
                  obtain ⟨X, Y, Z, hX, hY, hZ, hXZ⟩ := hX
                  rw [hX] at p2
                  have p4 : aoX 3 O9 L9 (j : Int) = Y := p3.trans hY
                  have P1 := Lib.hid p1; have P2 := Lib.hid p2; have P3 := Lib.hid p4
                  have HY := Lib.hid hY; have HZ := Lib.hid hZ; have HLJ := Lib.hid hlj
                  have e6 : (Y != Y) = false := by simp
                  clear hX hY hZ p1 p2 p3 p4
                  rcases hXZ with ⟨rfl, rfl⟩ | ⟨rfl, hZ⟩
                  · go_wp2_with fail
                    refine (HJ.out.phase P2.out P1.out).mono ?_
                    rintro e w' ⟨rfl, rfl⟩
                    have hM := HJ.out
                    obtain ⟨ca, cc, -⟩ := hM.all HLJ.out HY.out HZ.out
                    go_wp2_with fail
                    go_region_held3 (fun w' => w'.cell? ⟨a, j, none⟩ = some (.int .i64 Y) ∧ w'.cell? ⟨c, j, none⟩ = some (.int .i64 0) ∧ MvS wa g a b c Q O9 L9 T9f w')
                      ((go_split_ands; refine MvS.all ?_ HLJ.out HY.out HZ.out; (first | assumption | (exact MvS.drew (by assumption)))))
                      (first
                        | (go_at_call 19; (with_reducible refine (MvS.owner (MvS.drew hM) P3.out).mono ?_); rintro e w6 ⟨rfl, t6⟩)
                        | (go_at_call 9; (with_reducible refine (num_any _ _).mono ?_); rintro e w7 ⟨rfl, rfl⟩))
                    clear ca cc
                    go_wp2_with fail
                    go_roundw
                    case rel => exact ⟨j + 1, by omega, by go_num, Lib.hid t6⟩
                    case measure => simp [intOf]; omega
                  · go_wp2_with fail
                    refine (HJ.out.phase P2.out P1.out).mono ?_
                    rintro e w' ⟨rfl, rfl⟩
                    have hM := HJ.out
                    obtain ⟨ca, cc, -⟩ := hM.all HLJ.out HY.out HZ.out
                    go_wp2_with fail
                    go_region_held3 (fun w' => w'.cell? ⟨a, j, none⟩ = some (.int .i64 Y) ∧ w'.cell? ⟨c, j, none⟩ = some (.int .i64 Z) ∧ MvS wa g a b c Q O9 L9 T9f w')
                      ((go_split_ands; refine MvS.all ?_ HLJ.out HY.out HZ.out; (first | assumption | (exact MvS.drew (by assumption)))))
                      (first
                        | (go_at_call 19; (with_reducible refine (MvS.owner (MvS.drew hM) P3.out).mono ?_); rintro e w6 ⟨rfl, t6⟩)
                        | (go_at_call 9; (with_reducible refine (num_any _ _).mono ?_); rintro e w7 ⟨rfl, rfl⟩))
                    clear ca cc
                    go_wp2_with fail
                    go_roundw
                    case rel => exact ⟨j + 1, by omega, by go_num, Lib.hid t6⟩
                    case measure => simp [intOf]; omega
                · have e : j = 3 := by omega
                  subst e
                  rw [show ((3 : Nat) : Int) = 3 from rfl]
                  go_wp2_with fail
                  go_roundw
                  case rel => exact ⟨k + 1, by omega, by omega, by go_num, Lib.hid ⟨O9, L9, T9f, HJ.out, TT9.out⟩⟩
                  case measure => simp [intOf]; omega
        · as_aux_lemma =>
            have T0 : Hid (Tk nos wa (obJ (.slice none 0 0) (atE L 0) :: mvG g a b c Q O (atL L 0) T O L) wr) := Lib.hid (by
              rw [atL_zero]
              exact L1.out.addR (v := .slice none 0 0) (n := 0) (xs := []) (Below.refl _ _) (World.ownsRow_nil _ _ _ _))
            clear L1
            go_wp2_with fail
            clear hcell
            go_loopw [18, 19] (fun u i wr => ∃ (j : Nat), j ≤ 3 ∧ i = .int .i64 j ∧ Hid (Tk nos wa (obJ u (atE L j) :: mvG g a b c Q O (atL L j) T O L) wr)) (fun _ i _ => 3 - (intOf i).toNat)
            case atStart => exact ⟨0, by omega, rfl, T0⟩
            case round =>
              clear T0
              obtain ⟨j, hj, rfl, HJ⟩ := hrel
              by_cases hlj : j < 3
              · have hjI : (j : Int) < 3 := by omega
                have hlen := atE_len L j
                have l8 := L8.out j
                have cl : wr.cell? ⟨c, j, none⟩ = some (.int .i64 (L j : Int)) := by
                  rw [(HJ.out.blk (i := 1) rfl).cell, itc_get _ _ _ hlj]; unfold lF; rw [atL_here]
                have fl := (HJ.out.blk (i := 1) rfl).frozen j
                rcases (show L j = 0 ∨ L j = 1 ∨ 2 ≤ L j by omega) with hl | hl | hl
                · have HE := Lib.hid (atE_no L j (by omega))
                  have HU : Hid (atL L j = atL L (j + 1)) := Lib.hid (by rw [← atL_step, show L j - 1 = atL L j j by rw [atL_here]; omega, uN_same])
                  rw [hl] at cl
                  have cl0 : wr.cell? ⟨c, j, none⟩ = some (.int .i64 0) := cl
                  clear cl hl
                  go_wp2_with fail
                  go_roundw
                  case rel => exact ⟨j + 1, by omega, by go_num, Lib.hid (by rw [HE.out, ← HU.out]; exact HJ.out)⟩
                  case measure => simp [intOf]; omega
                · have HE := Lib.hid (atE_yes L j hl)
                  have htj := TT.out j (by omega)
                  have HO := Lib.hid (oF_last O (atL L j) j)
                  have HL := Lib.hid (lF_put (atL L j) j 0)
                  have HU : Hid (uN (atL L j) j 0 = atL L (j + 1)) := Lib.hid (by rw [← atL_step, hl])
                  rw [hl] at cl
                  have cl1 : wr.cell? ⟨c, j, none⟩ = some (.int .i64 1) := cl
                  clear cl hl
                  go_upto_region 32 with fail
                  have t1 := HJ.out.store (i := 1) rfl j (.int .i64 0)
                  have hl0 := HL.out
                  rw [show (((0 : Nat)) : Int) = 0 from rfl] at hl0
                  rw [itc_set, hl0, HU.out] at t1
                  have T1 := Lib.hid (show Tk nos wa [obJ u18 (atE L j), obB c 3 (itc (lF (atL L (j + 1))) 3), obB b 3 (itc T 3), obB a 3 (itc (oF O (atL L j)) 3), obPA g Q 4 3 O L] (wr.setCell ⟨c, j, none⟩ (.int .i64 0)) from t1)
                  change Code.wp _ _ _ _ (wr.setCell ⟨c, j, none⟩ (.int .i64 0))
                  clear t1 cl1 fl hl0
                  generalize wr.setCell ⟨c, j, none⟩ (.int .i64 0) = w1 at *
                  have cl : w1.cell? ⟨c, j, none⟩ = some (.int .i64 0) := by
                    rw [(T1.out.blk (i := 1) rfl).cell, itc_get _ _ _ hlj, ← HU.out]; unfold lF; rw [uN_here]; rfl
                  have cb : w1.cell? ⟨b, j, none⟩ = some (.int .i64 (O j)) := by rw [(T1.out.blk (i := 2) rfl).cell, itc_get _ _ _ hlj, htj]
                  have ca : w1.cell? ⟨a, j, none⟩ = some (.int .i64 (oF O (atL L j) j)) := by rw [(T1.out.blk (i := 3) rfl).cell, itc_get _ _ _ hlj]
                  have fa := (T1.out.blk (i := 3) rfl).frozen j
                  clear htj
                  go_upto_region 34 with fail
                  have t2 := T1.out.store (i := 3) rfl j (.int .i64 (O j))
                  rw [itc_set, HO.out, HU.out] at t2
                  have T2 := Lib.hid (show Tk nos wa (obJ u18 (atE L j) :: mvG g a b c Q O (atL L (j + 1)) T O L) (w1.setCell ⟨a, j, none⟩ (.int .i64 (O j))) from t2)
                  change Code.wp _ _ _ _ (w1.setCell ⟨a, j, none⟩ (.int .i64 (O j)))
                  clear t2 T1 cl cb ca fa
                  generalize w1.setCell ⟨a, j, none⟩ (.int .i64 (O j)) = w4 at *
                  have hbl : Below w4.heap.size w4 (w4.alloc (.cells #[.int .i64 (j : Int)] 3)) := (Below.refl _ _).alloc (Nat.le_refl _) _
                  have BL := Lib.hid hbl
                  clear hbl
                  go_wp2_with (at_builtin; refine wpList_append_lies _ rfl _ _ 22 rfl 0 3 i0 _ 1 8 Try.underlying22 HI.out HZ0.out HZ1.out HZ2.out rfl (by decide) u18 (atE L j).length (ints (atE L j)) rfl (own_below (T2.out.row (i := 0) rfl) BL.out) ⟨w4.heap.size, 0, none⟩ 1 1 [.int .i64 (j : Int)] rfl rfl (row_new w4 [.int .i64 (j : Int)] 3) (int1A (j : Int)) (by omega) (by unfold maxLen; omega) (by omega) (by omega) _ rfl ?_)
                  intro gg cap6 w6 own6 gr6 hat6 hlt6
                  have t5 := T2.out.next BL.out
                  have t6 : Tk nos wa (obJ (.slice (some ⟨gg, 0, none⟩) ((atE L j).length + 1) cap6) (atE L (j + 1)) :: mvG g a b c Q O (atL L (j + 1)) T O L) w6 := by
                    refine t5.turnR (i := 0) rfl gr6 (by rw [HE.out, ints_append, List.length_append]; exact own6) (fun x hx => ?_)
                    have e : gg = x := by simpa [Value.ownBlock] using hx
                    subst e
                    rcases hat6 with h | h
                    · exact .inl h
                    · exact .inr (by simp at h ⊢; omega)
                  have T6 := Lib.hid t6
                  clear own6 gr6 hat6 hlt6 t5 t6
                  go_wp2_with fail
                  go_roundw
                  case rel => exact ⟨j + 1, by omega, by go_num, T6⟩
                  case measure => simp [intOf]; omega
                · have HE := Lib.hid (atE_no L j (by omega))
                  have HO : Hid (oF O (atL L j) = oF O (atL L (j + 1))) := Lib.hid (by
                    have := oF_less O (atL L j) j (by rw [atL_here]; omega) (by rw [atL_here]; omega)
                    rw [atL_here, atL_step] at this
                    exact this)
                  have HL := Lib.hid (lF_put (atL L j) j (L j - 1))
                  rw [atL_step, show ((L j - 1 : Nat) : Int) = (L j : Int) - 1 by omega] at HL
                  have hh : (lF (atL L (j + 1))) j = (L j : Int) - 1 := by
                    unfold lF; rw [show atL L (j + 1) j = L j - 1 by unfold atL; rw [if_pos (by omega)]]; omega
                  have l1 : 2 ≤ (L j : Int) := by omega
                  have l2 : (L j : Int) ≤ 8 := by omega
                  have l3 : ((L j : Int) - 1 == 0) = false := by simp; omega
                  clear hl l8
                  generalize (L j : Int) = l at *
                  go_upto_region 32 with fail
                  have t1 := HJ.out.store (i := 1) rfl j (.int .i64 (l - 1))
                  rw [itc_set, HL.out] at t1
                  have t2 : Tk nos wa [obJ u18 (atE L j), obB c 3 (itc (lF (atL L (j + 1))) 3), obB b 3 (itc T 3), obB a 3 (itc (oF O (atL L j)) 3), obPA g Q 4 3 O L] (wr.setCell ⟨c, j, none⟩ (.int .i64 (l - 1))) := t1
                  rw [HO.out] at t2
                  have T1 := Lib.hid (show Tk nos wa (obJ u18 (atE L j) :: mvG g a b c Q O (atL L (j + 1)) T O L) (wr.setCell ⟨c, j, none⟩ (.int .i64 (l - 1))) from t2)
                  clear t2
                  change Code.wp _ _ _ _ (wr.setCell ⟨c, j, none⟩ (.int .i64 (l - 1)))
                  clear t1 cl fl
                  generalize wr.setCell ⟨c, j, none⟩ (.int .i64 (l - 1)) = w1 at *
                  have cl : w1.cell? ⟨c, j, none⟩ = some (.int .i64 (l - 1)) := by
                    rw [(T1.out.blk (i := 1) rfl).cell, itc_get _ _ _ hlj, hh]
                  clear hh HL
                  generalize l - 1 = m at *
                  go_wp2_with fail
                  go_roundw
                  case rel => exact ⟨j + 1, by omega, by go_num, Lib.hid (by rw [HE.out]; exact T1.out)⟩
                  case measure => simp [intOf]; omega
              · have e : j = 3 := by omega
                subst e
                rw [show ((3 : Nat) : Int) = 3 from rfl]
                have hlen := atE_len L 3
                go_wp2_with fail
                refine (tk_atick (i := 4) wr HJ.out rfl).mono ?_
                rintro e w3 ⟨x1, rfl, t3⟩
                have cS := same_ints x1 u18 (atE L 3) w3 (t3.sl (i := 0) rfl) (t3.sl (i := 1) rfl) (by omega)
                have T3 := Lib.hid (show Tk nos wa (mvG g a b c Q O (atL L 3) T O (atL L 3)) w3 from t3.tail.tail)
                clear t3 HJ
                go_wp2_with fail
                refine cS.mono ?_
                clear cS
                rintro e w' ⟨rfl, q6, rfl⟩
                have T4 := Lib.hid (T3.out.drewN q6)
                clear T3
                generalize w3.drewN q6 = w4 at *
                go_wp2_with fail
                have T9 : Hid (MvS wa g a b c Q O (atL L 3) T w4) := T4
                have TT9 : Hid (∀ i, (atL L 3) i ≠ 0 → T i = O i) := Lib.hid (fun i hi => TT.out i (fun e => hi (by unfold atL; split <;> omega)))
                clear T4
                generalize O = O9 at *
                generalize (atL L 3) = L9 at *
                generalize T = T9f at *
                go_loopw [20] (fun i wr => ∃ (j : Nat), j ≤ 3 ∧ i = .int .i64 j ∧ Hid (MvS wa g a b c Q O9 L9 T9f wr)) (fun i _ => 3 - (intOf i).toNat)
                case atStart => exact ⟨0, by omega, rfl, T9⟩
                case round =>
                  clear T9
                  obtain ⟨j, hj, rfl, HJ⟩ := hrel
                  by_cases hlj : j < 3
                  · obtain ⟨p1, p2, p3⟩ := a_yes 3 O9 L9 j hlj
                    have hjI : (j : Int) < 3 := by omega
                    have hX : ∃ X Y Z : Int, ph (L9 j) = X ∧ oF O9 L9 j = Y ∧ (L9 j : Int) = Z ∧ ((X = 0 ∧ Z = 0) ∨ (X = 1 ∧ 0 < Z)) := ⟨_, _, _, rfl, rfl, rfl, by
                      unfold ph
                      by_cases h : L9 j = 0
                      · rw [if_pos h]; exact .inl ⟨rfl, by omega⟩
                      · rw [if_neg h]; exact .inr ⟨rfl, by omega⟩⟩
                    obtain ⟨X, Y, Z, hX, hY, hZ, hXZ⟩ := hX
                    rw [hX] at p2
                    have p4 : aoX 3 O9 L9 (j : Int) = Y := p3.trans hY
                    have P1 := Lib.hid p1; have P2 := Lib.hid p2; have P3 := Lib.hid p4
                    have HY := Lib.hid hY; have HZ := Lib.hid hZ; have HLJ := Lib.hid hlj
                    have e6 : (Y != Y) = false := by simp
                    clear hX hY hZ p1 p2 p3 p4
                    rcases hXZ with ⟨rfl, rfl⟩ | ⟨rfl, hZ⟩
                    · go_wp2_with fail
                      refine (HJ.out.phase P2.out P1.out).mono ?_
                      rintro e w' ⟨rfl, rfl⟩
                      have hM := HJ.out
                      obtain ⟨ca, cc, -⟩ := hM.all HLJ.out HY.out HZ.out
                      go_wp2_with fail
                      go_region_held3 (fun w' => w'.cell? ⟨a, j, none⟩ = some (.int .i64 Y) ∧ w'.cell? ⟨c, j, none⟩ = some (.int .i64 0) ∧ MvS wa g a b c Q O9 L9 T9f w')
                        ((go_split_ands; refine MvS.all ?_ HLJ.out HY.out HZ.out; (first | assumption | (exact MvS.drew (by assumption)))))
                        (first
                          | (go_at_call 19; (with_reducible refine (MvS.owner (MvS.drew hM) P3.out).mono ?_); rintro e w6 ⟨rfl, t6⟩)
                          | (go_at_call 9; (with_reducible refine (num_any _ _).mono ?_); rintro e w7 ⟨rfl, rfl⟩))
                      clear ca cc
                      go_wp2_with fail
                      go_roundw
                      case rel => exact ⟨j + 1, by omega, by go_num, Lib.hid t6⟩
                      case measure => simp [intOf]; omega
                    · go_wp2_with fail
                      refine (HJ.out.phase P2.out P1.out).mono ?_
                      rintro e w' ⟨rfl, rfl⟩
                      have hM := HJ.out
                      obtain ⟨ca, cc, -⟩ := hM.all HLJ.out HY.out HZ.out
                      go_wp2_with fail
                      go_region_held3 (fun w' => w'.cell? ⟨a, j, none⟩ = some (.int .i64 Y) ∧ w'.cell? ⟨c, j, none⟩ = some (.int .i64 Z) ∧ MvS wa g a b c Q O9 L9 T9f w')
                        ((go_split_ands; refine MvS.all ?_ HLJ.out HY.out HZ.out; (first | assumption | (exact MvS.drew (by assumption)))))
                        (first
                          | (go_at_call 19; (with_reducible refine (MvS.owner (MvS.drew hM) P3.out).mono ?_); rintro e w6 ⟨rfl, t6⟩)
                          | (go_at_call 9; (with_reducible refine (num_any _ _).mono ?_); rintro e w7 ⟨rfl, rfl⟩))
                      clear ca cc
                      go_wp2_with fail
                      go_roundw
                      case rel => exact ⟨j + 1, by omega, by go_num, Lib.hid t6⟩
                      case measure => simp [intOf]; omega
                  · have e : j = 3 := by omega
                    subst e
                    rw [show ((3 : Nat) : Int) = 3 from rfl]
                    go_wp2_with fail
                    go_roundw
                    case rel => exact ⟨k + 1, by omega, by omega, by go_num, Lib.hid ⟨O9, L9, T9f, HJ.out, TT9.out⟩⟩
                    case measure => simp [intOf]; omega
    · have hx : (k : Int) ≥ n ∨ ((k : Int) < n ∧ decide ((k : Int) < 40) = false) := by
        by_cases h1 : k < n
        · exact .inr ⟨by omega, by simp; omega⟩
        · exact .inl (by omega)
      have HB : Hid (Below w.heap.size w wr) := by
        obtain ⟨O, L, T, tk, _⟩ := HS.out
        exact Lib.hid (Below.down BA.out tk.below BA.out.size)
      clear hgo HS
      rcases hx with hx | ⟨hx, hx2⟩
      all_goals
        go_wp2_with fail
        go_ret
        exact ⟨rfl, HB.out⟩
end Go.Proofs.Ytgamfejgpdampaa
