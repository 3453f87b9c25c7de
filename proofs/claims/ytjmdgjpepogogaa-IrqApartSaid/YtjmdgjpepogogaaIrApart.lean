/-
  Layer 13's law IrqApart: it answers true for every input.
-/
import Derived.Test.YtjmdgjpepogogaaIrA0
namespace Go.Proofs.Ytjmdgjpepogogaa
open Go.RowKit Go.ChangeMaps
set_option linter.unusedVariables false
set_option maxRecDepth 100000

/-- The two Units beside the law's row of pointers, its two numbers, its two slices. -/
def apO (a b pb pg pi : Nat) (xa xb : Value) (La Lb : List Iq) (ga gb : Int) (Ta Tb : List Ro) (Fa Fb : Nat → Bool) : List Ob :=
  [obI xb Lb, obI xa La, obB pi 52 [xa, xb], obB pg 51 [.int .i64 ga, .int .i64 gb], obB pb 23 [.pointer (some ⟨a, 0, none⟩), .pointer (some ⟨b, 0, none⟩)], obU b 2 2 Tb Fb, obU a 2 2 Ta Fa]
/-- No slice. -/
def nil3 : Value := .slice none 0 0
/-- What one act gives and leaves. -/
structure Ac where
  c : Int
  L : List Iq
  T : List Ro
  F : Nat → Bool
/-- The inner loop's: none asked, the first one asked, both asked. -/
def ApJ (wa : World) (a b pb pg pi : Nat) (Ta Tb : List Ro) (Fa Fb : Nat → Bool) (A B : Ac) : Nat → World → Prop
  | 0, w => Tk nos wa (apO a b pb pg pi nil3 nil3 [] [] 0 0 Ta Tb Fa Fb) w
  | 1, w => ∃ xa, Tk nos wa (apO a b pb pg pi xa nil3 A.L [] A.c 0 A.T Tb A.F Fb) w
  | _, w => ∃ xa xb, Tk nos wa (apO a b pb pg pi xa xb A.L B.L A.c B.c A.T B.T A.F B.F) w
/-- Between two acts. -/
def Ap0 (wa : World) (a b : Nat) (w : World) : Prop := ∃ Ta Tb Fa Fb, Ig Ta Tb Fa Fb ∧ Tk nos wa [obU b 2 2 Tb Fb, obU a 2 2 Ta Fa] w

section
variable {wa w w' : World} {a b pb pg pi : Nat} {xa xb : Value} {La Lb : List Iq} {ga gb : Int} {Ta Tb Ta' Tb' : List Ro} {Fa Fb Fa' Fb' : Nat → Bool}
theorem ap_at (t : Tk nos wa (apO a b pb pg pi xa xb La Lb ga gb Ta Tb Fa Fb) w) :
    (w.cell? ⟨pi, 0, none⟩ = some xa ∧ w.cell? ⟨pi, 1, none⟩ = some xb ∧ w.cell? ⟨pg, 0, none⟩ = some (.int .i64 ga) ∧ w.cell? ⟨pg, 1, none⟩ = some (.int .i64 gb) ∧ w.cell? ⟨pb, 0, none⟩ = some (.pointer (some ⟨a, 0, none⟩)) ∧ w.cell? ⟨pb, 1, none⟩ = some (.pointer (some ⟨b, 0, none⟩))) ∧
    w.frozen? ⟨pi, 0, none⟩ = false ∧ w.frozen? ⟨pi, 1, none⟩ = false ∧ w.frozen? ⟨pg, 0, none⟩ = false ∧ w.frozen? ⟨pg, 1, none⟩ = false := by
  have k0 := t.blk (i := 2) rfl
  have k1 := t.blk (i := 3) rfl
  have k2 := t.blk (i := 4) rfl
  exact ⟨⟨by rw [k0.cell]; rfl, by rw [k0.cell]; rfl, by rw [k1.cell]; rfl, by rw [k1.cell]; rfl, by rw [k2.cell]; rfl, by rw [k2.cell]; rfl⟩, k0.frozen 0, k0.frozen 1, k1.frozen 0, k1.frozen 1⟩
/-- The first one's number, the second one's. -/
theorem Tk.apA (t : Tk nos wa (apO a b pb pg pi xa xb La Lb ga gb Ta Tb Fa Fb) w) (c : Int) : Tk nos wa (apO a b pb pg pi xa xb La Lb c gb Ta Tb Fa Fb) (w.setCell ⟨pg, 0, none⟩ (.int .i64 c)) := t.store (i := 3) rfl 0 (.int .i64 c)
theorem Tk.apB (t : Tk nos wa (apO a b pb pg pi xa xb La Lb ga gb Ta Tb Fa Fb) w) (c : Int) : Tk nos wa (apO a b pb pg pi xa xb La Lb ga c Ta Tb Fa Fb) (w.setCell ⟨pg, 1, none⟩ (.int .i64 c)) := t.store (i := 3) rfl 1 (.int .i64 c)
/-- The first one's slice, the second one's. -/
theorem Tk.apX {x : Value} {L : List Iq} (t : Tk nos wa (obI x L :: apO a b pb pg pi xa xb La Lb ga gb Ta Tb Fa Fb) w) : Tk nos wa (apO a b pb pg pi x xb L Lb ga gb Ta Tb Fa Fb) (w.setCell ⟨pi, 0, none⟩ x) := by
  have t1 := t.store (i := 3) rfl 0 x
  have t2 : Tk nos wa (obI x L :: obI xb Lb :: _) _ := t1.sub (.cons_cons _ (.cons_cons _ (.cons _ (.refl _))))
  exact t2.perm (.swap _ _ _)
theorem Tk.apY {x : Value} {L : List Iq} (t : Tk nos wa (obI x L :: apO a b pb pg pi xa xb La Lb ga gb Ta Tb Fa Fb) w) : Tk nos wa (apO a b pb pg pi xa x La L ga gb Ta Tb Fa Fb) (w.setCell ⟨pi, 1, none⟩ x) := by
  have t1 := t.store (i := 3) rfl 1 x
  exact t1.sub (.cons_cons _ (.cons _ (.refl _)))
theorem Tk.apEnd (t : Tk nos wa (apO a b pb pg pi xa xb La Lb ga gb Ta Tb Fa Fb) w) (h : Ig Ta Tb Fa Fb) : Ap0 wa a b w := ⟨Ta, Tb, Fa, Fb, h, t.tail.tail.tail.tail.tail⟩
theorem Ap0.drewN (h : Ap0 wa a b w) (q : Nat) : Ap0 wa a b (w.drewN q) := by obtain ⟨Ta, Tb, Fa, Fb, h1, h2⟩ := h; exact ⟨Ta, Tb, Fa, Fb, h1, h2.drewN q⟩
end

set_option maxHeartbeats 16000000 in
theorem law_IrqApart (vv : Value) (n : Nat) (zs : List Int) (w : World) (hv : Sl w vv n 1 (ints zs)) (hn : n ≤ maxLen) :
    Calls Try.prog 7 #[vv] w fun e w' => e = .returned (.bool true) ∧ Below w.heap.size w w' := by
  obtain ⟨A, cap, rfl⟩ : ∃ A cap, vv = .slice A n cap := by obtain ⟨A, c, e, _⟩ := hv; exact ⟨A, c, e⟩
  unfold maxLen at hn
  have HV := Lib.hid hv; clear hv
  go_enter Try.func7, Try.ntmps7
  go_wp2_with fail
  refine (irawake_any _).mono ?_
  rintro e wa ⟨rfl, ba⟩
  have BA := Lib.hid ba
  clear ba
  go_wp2_with fail
  have hN : Calls Try.prog 8 #[.int .i64 2, .int .i64 2] wa fun e w' => ∃ u, e = .returned (.tuple #[.pointer (some ⟨u, 0, none⟩), .int .i64 0]) ∧ Tk nos wa [obU u 2 2 newT noF] w' := unew_yes 2 2 wa (by decide) (by decide) (by decide) (by decide)
  refine hN.mono ?_
  clear hN
  rintro e w1 ⟨a, rfl, t1⟩
  have T1 := Lib.hid t1
  clear t1
  go_wp2_with fail
  have hN : Calls Try.prog 8 #[.int .i64 2, .int .i64 2] w1 fun e w' => ∃ u, e = .returned (.tuple #[.pointer (some ⟨u, 0, none⟩), .int .i64 0]) ∧ Tk nos w1 [obU u 2 2 newT noF] w' := unew_yes 2 2 w1 (by decide) (by decide) (by decide) (by decide)
  refine hN.mono ?_
  clear hN
  rintro e w2 ⟨b, rfl, t2⟩
  have A0 : Hid (Ap0 wa a b w2) := Lib.hid ⟨newT, newT, noF, noF, Ig.start, T1.out.add t2⟩
  clear t2 T1
  go_wp2_with (go_at_call 10; refine (num_any _ _).mono ?_; rintro e w' ⟨rfl, rfl⟩)
  go_loopw [7] (fun i wr => ∃ (k : Nat), k ≤ n ∧ k ≤ 60 ∧ i = .int .i64 k ∧ Hid (Ap0 wa a b wr)) (fun i _ => 60 - (intOf i).toNat)
  case atStart => exact ⟨0, by omega, by omega, rfl, A0⟩
  case round =>
    clear A0
    obtain ⟨k, hkn, hk60, rfl, HA⟩ := hrel
    by_cases hgo : k < n ∧ k < 60
    · obtain ⟨hlt, h60⟩ := hgo
      obtain ⟨Ta, Tb, Fa, Fb, hI, tk⟩ := HA.out
      have hsl := HV.out.below (Below.down BA.out tk.below BA.out.size)
      obtain ⟨gs, o, cap', e, hbw, hcell⟩ := sli_at hsl k hlt
      simp only [Value.slice.injEq] at e
      obtain ⟨rfl, -, -⟩ := e
      obtain ⟨q, hq⟩ : ∃ q, zs.getD k 0 = q := ⟨_, rfl⟩
      have HQ := Lib.hid hq
      rw [hq] at hcell
      clear hq
      have hP := band q 1 (by omega) (by omega)
      have hV := band (q / 2) 7 (by omega) (by omega)
      have hK := band (q / 16) 7 (by omega) (by omega)
      have hM := band (q / 128) 1 (by omega) (by omega)
      generalize hP' : bits BinOp.and IntKind.i64 q 1 = P at hP
      generalize hV' : bits BinOp.and IntKind.i64 (q / 2) 7 = V at hV
      generalize hK' : bits BinOp.and IntKind.i64 (q / 16) 7 = K at hK
      generalize hM' : bits BinOp.and IntKind.i64 (q / 128) 1 = M at hM
      obtain ⟨v, rfl⟩ := Int.eq_ofNat_of_zero_le hV.1
      obtain ⟨mm, hmm⟩ : ∃ mm, (M == 1) = mm := ⟨_, rfl⟩
      have hv8 : v < 8 := by omega
      have hltI : (k : Int) < n := by omega
      have h60I : (k : Int) < 60 := by omega
      have HI := Lib.hid hI
      have TK := Lib.hid tk
      have HS := Lib.hid (show Below w.heap.size w wr from Below.down BA.out tk.below BA.out.size)
      clear hsl hI tk hV hM HA
      rcases (show P = 0 ∨ P = 1 by omega) with rfl | rfl
      · clear hP
        rcases (show K = 0 ∨ K = 1 ∨ K = 2 ∨ K = 3 ∨ K = 4 ∨ K = 5 ∨ K = 6 ∨ K = 7 by omega) with rfl | rfl | rfl | rfl | rfl | rfl | rfl | rfl
        · as_aux_lemma =>
            obtain ⟨A, hA⟩ : ∃ A : Ac, A = ⟨urC 2 2 0 v 0, [], urT 2 2 Ta 0 v 0, Fa⟩ := ⟨_, rfl⟩
            obtain ⟨B, hB⟩ : ∃ B : Ac, B = ⟨urC 2 2 0 v 0, [], urT 2 2 Tb 0 v 0, Fb⟩ := ⟨_, rfl⟩
            have HEND : Hid (Ig A.T B.T A.F B.F ∧ A.c = B.c ∧ A.L = B.L ∧ A.L.length ≤ 32) := Lib.hid (by rw [hA, hB]; exact ⟨HI.out.route0 hv8, rfl, rfl, Nat.zero_le _⟩)
            have HA_ := Lib.hid hA
            have HB_ := Lib.hid hB
            clear hA hB
            go_wp2_with fail
            go_quiet (fail)
            have TK1 := Lib.hid (TK.out.drewN nq)
            have hc1 : (wr.drewN nq).cell? ⟨gs, o + k, none⟩ = some (.int .i64 q) := hcell
            have hbw1 : gs < (wr.drewN nq).heap.size := hbw
            have BW := Lib.hid (bdrewN HS.out nq)
            have hgs : gs < wa.heap.size ∨ True := .inr trivial
            clear TK hP' hV' hcell hbw HS hgs
            generalize wr.drewN nq = wd at *
            go_wp2_with fail
            change Code.wp _ _ _ _ (((wd.alloc (.cells [Value.pointer (some ⟨a, 0, none⟩), .pointer (some ⟨b, 0, none⟩)].toArray 23)).alloc (.cells [Value.int .i64 0, .int .i64 0].toArray 51)).alloc (.cells [nil3, nil3].toArray 52))
            have t3 : Tk nos wa (apO a b wd.heap.size (wd.heap.size + 1) (wd.heap.size + 1 + 1) nil3 nil3 [] [] 0 0 Ta Tb Fa Fb) (((wd.alloc (.cells [Value.pointer (some ⟨a, 0, none⟩), .pointer (some ⟨b, 0, none⟩)].toArray 23)).alloc (.cells [Value.int .i64 0, .int .i64 0].toArray 51)).alloc (.cells [nil3, nil3].toArray 52)) := by
              have t1 := TK1.out.alloc 23 [Value.pointer (some ⟨a, 0, none⟩), .pointer (some ⟨b, 0, none⟩)]
              have t2 := t1.alloc 51 [Value.int .i64 0, .int .i64 0]
              have t3 := t2.alloc 52 [nil3, nil3]
              rw [show ((wd.alloc (.cells [Value.pointer (some ⟨a, 0, none⟩), .pointer (some ⟨b, 0, none⟩)].toArray 23)).alloc (.cells [Value.int .i64 0, .int .i64 0].toArray 51)).heap.size = wd.heap.size + 1 + 1 by simp, show (wd.alloc (.cells [Value.pointer (some ⟨a, 0, none⟩), .pointer (some ⟨b, 0, none⟩)].toArray 23)).heap.size = wd.heap.size + 1 by simp] at t3
              exact (t3.addR (v := nil3) (n := 0) (xs := []) (Below.refl _ _) ⟨rfl, .inl ⟨rfl, rfl⟩⟩).addR (v := nil3) (n := 0) (xs := []) (Below.refl _ _) ⟨rfl, .inl ⟨rfl, rfl⟩⟩
            have b3 : Below wd.heap.size wd (((wd.alloc (.cells [Value.pointer (some ⟨a, 0, none⟩), .pointer (some ⟨b, 0, none⟩)].toArray 23)).alloc (.cells [Value.int .i64 0, .int .i64 0].toArray 51)).alloc (.cells [nil3, nil3].toArray 52)) := (((Below.refl _ _).alloc (Nat.le_refl _) _).alloc (by simp) _).alloc (by simp; omega) _
            have J0 : Hid (ApJ wa a b wd.heap.size (wd.heap.size + 1) (wd.heap.size + 1 + 1) Ta Tb Fa Fb A B 0 _) := Lib.hid t3
            have hgi : wd.heap.size + 1 ≠ wd.heap.size + 1 + 1 := by omega
            clear t3 b3 TK1
            generalize ((wd.alloc (.cells [Value.pointer (some ⟨a, 0, none⟩), .pointer (some ⟨b, 0, none⟩)].toArray 23)).alloc (.cells [Value.int .i64 0, .int .i64 0].toArray 51)).alloc (.cells [nil3, nil3].toArray 52) = w3 at *
            generalize wd.heap.size + 1 + 1 = pi at *
            generalize wd.heap.size + 1 = pg at *
            generalize wd.heap.size = pb at *
            go_loopw [13] (fun i wq => ∃ (j : Nat), j ≤ 2 ∧ i = .int .i64 j ∧ Hid (ApJ wa a b pb pg pi Ta Tb Fa Fb A B j wq)) (fun i _ => 2 - (intOf i).toNat)
            case atStart => exact ⟨0, by omega, rfl, J0⟩
            case round =>
              clear J0 hc1 hbw1
              obtain ⟨j, hj, rfl, HJ⟩ := hrel
              have hbel : Below w.heap.size w wr := Below.down BA.out (show Below wa.heap.size wa wr by
                rcases (show j = 0 ∨ j = 1 ∨ j = 2 by omega) with rfl | rfl | rfl
                · exact (show Tk nos wa _ wr from HJ.out).below
                · obtain ⟨xa, t⟩ := HJ.out; exact Tk.below t
                · obtain ⟨xa, xb, t⟩ := HJ.out; exact Tk.below t) BA.out.size
              obtain ⟨_, _, _, e, hbw, hcell⟩ := sli_at (HV.out.below hbel) k hlt
              simp only [Value.slice.injEq, Option.some.injEq, Addr.mk.injEq] at e
              obtain ⟨⟨rfl, rfl, -⟩, -, -⟩ := e
              rw [HQ.out] at hcell
              clear hbel
              rcases (show j = 0 ∨ j = 1 ∨ j = 2 by omega) with rfl | rfl | rfl
              · as_aux_lemma =>
                  have tk : Tk nos wa (apO a b pb pg pi nil3 nil3 [] [] 0 0 Ta Tb Fa Fb) wr := HJ.out
                  obtain ⟨⟨i0, i1, g0, g1, p0, p1⟩, z0, z1, z2, z3⟩ := ap_at tk
                  have cR := tk_uroute_is (i := 6) (os' := apO a b pb pg pi nil3 nil3 [] [] 0 0 A.T Tb A.F Fb) 0 v 0 A.c wr tk rfl (by rw [HA_.out]) (by rw [HA_.out]; rfl)
                  clear tk HJ i0 i1 g0 g1 z0 z1 z2 z3
                  go_wp2_with fail
                  refine cR.mono ?_
                  rintro e w4 ⟨rfl, t4⟩
                  obtain ⟨⟨i0, i1, g0, g1, p0', p1'⟩, z0, z1, z2, z3⟩ := ap_at t4
                  have T4 := Lib.hid t4
                  clear t4 cR hcell
                  go_wp2_with fail
                  refine (num_any _ _).mono ?_
                  rintro e w' ⟨rfl, rfl⟩
                  have J1 : Hid (ApJ wa a b pb pg pi Ta Tb Fa Fb A B 1 (w4.setCell ⟨pg, 0, none⟩ (.int .i64 A.c))) := Lib.hid ⟨nil3, by have := T4.out.apA A.c; rw [show A.L = [] by rw [HA_.out]]; exact this⟩
                  clear T4
                  go_wp2_with fail
                  go_roundw
                  case rel => exact ⟨1, by omega, rfl, J1⟩
                  case measure => simp [intOf]
              · as_aux_lemma =>
                  obtain ⟨xa, tk⟩ := HJ.out
                  replace tk : Tk nos wa (apO a b pb pg pi xa nil3 A.L [] A.c 0 A.T Tb A.F Fb) wr := tk
                  obtain ⟨⟨i0, i1, g0, g1, p0, p1⟩, z0, z1, z2, z3⟩ := ap_at tk
                  have cR := tk_uroute_is (i := 5) (os' := apO a b pb pg pi xa nil3 A.L [] A.c 0 A.T B.T A.F B.F) 0 v 0 B.c wr tk rfl (by rw [HB_.out]) (by rw [HB_.out]; rfl)
                  clear tk HJ i0 i1 g0 g1 z0 z1 z2 z3
                  go_wp2_with fail
                  refine cR.mono ?_
                  rintro e w4 ⟨rfl, t4⟩
                  obtain ⟨⟨i0, i1, g0, g1, p0', p1'⟩, z0, z1, z2, z3⟩ := ap_at t4
                  have T4 := Lib.hid t4
                  clear t4 cR hcell
                  go_wp2_with fail
                  refine (num_any _ _).mono ?_
                  rintro e w' ⟨rfl, rfl⟩
                  have J1 : Hid (ApJ wa a b pb pg pi Ta Tb Fa Fb A B 2 (w4.setCell ⟨pg, 1, none⟩ (.int .i64 B.c))) := Lib.hid ⟨xa, nil3, by have := T4.out.apB B.c; rw [show B.L = [] by rw [HB_.out]]; exact this⟩
                  clear T4
                  go_wp2_with fail
                  go_roundw
                  case rel => exact ⟨2, by omega, rfl, J1⟩
                  case measure => simp [intOf]
              · as_aux_lemma =>
                  obtain ⟨xa, xb, tk⟩ := HJ.out
                  replace tk : Tk nos wa (apO a b pb pg pi xa xb A.L B.L A.c B.c A.T B.T A.F B.F) wr := tk
                  obtain ⟨⟨i0, i1, g0, g1, p0, p1⟩, -, -, -, -⟩ := ap_at tk
                  obtain ⟨hIg, hcc, hLL, hl⟩ := HEND.out
                  have cS := same_iqs xa xb A.L.length A.L wr (tk.sl (i := 1) rfl) (by have := tk.sl (i := 0) rfl; rw [← hLL] at this; exact this) rfl (by unfold maxLen; omega)
                  have E5 := Lib.hid (tk.apEnd hIg)
                  rw [← hcc] at g1
                  have hcn : (A.c != A.c) = false := by simp
                  clear tk hIg hcc hLL hl HJ HEND
                  generalize A.c = c at *
                  go_wp2_with fail
                  refine cS.mono ?_
                  clear cS
                  rintro e w' ⟨rfl, q6, rfl⟩
                  have E6 := Lib.hid (E5.out.drewN q6)
                  clear E5 i0 i1 g0 g1 p0 p1
                  generalize World.drewN _ q6 = w5 at *
                  go_wp2_with fail
                  go_roundw
                  case rel => exact ⟨k + 1, by omega, by omega, by go_num, E6⟩
                  case measure => simp [intOf]; omega
        · as_aux_lemma =>
            obtain ⟨A, hA⟩ : ∃ A : Ac, A = ⟨urC 2 2 0 v 0, [], urT 2 2 Ta 0 v 0, Fa⟩ := ⟨_, rfl⟩
            obtain ⟨B, hB⟩ : ∃ B : Ac, B = ⟨urC 2 2 0 v 0, [], urT 2 2 Tb 0 v 0, Fb⟩ := ⟨_, rfl⟩
            have HEND : Hid (Ig A.T B.T A.F B.F ∧ A.c = B.c ∧ A.L = B.L ∧ A.L.length ≤ 32) := Lib.hid (by rw [hA, hB]; exact ⟨HI.out.route0 hv8, rfl, rfl, Nat.zero_le _⟩)
            have HA_ := Lib.hid hA
            have HB_ := Lib.hid hB
            clear hA hB
            go_wp2_with fail
            go_quiet (fail)
            have TK1 := Lib.hid (TK.out.drewN nq)
            have hc1 : (wr.drewN nq).cell? ⟨gs, o + k, none⟩ = some (.int .i64 q) := hcell
            have hbw1 : gs < (wr.drewN nq).heap.size := hbw
            have BW := Lib.hid (bdrewN HS.out nq)
            have hgs : gs < wa.heap.size ∨ True := .inr trivial
            clear TK hP' hV' hcell hbw HS hgs
            generalize wr.drewN nq = wd at *
            go_wp2_with fail
            change Code.wp _ _ _ _ (((wd.alloc (.cells [Value.pointer (some ⟨a, 0, none⟩), .pointer (some ⟨b, 0, none⟩)].toArray 23)).alloc (.cells [Value.int .i64 0, .int .i64 0].toArray 51)).alloc (.cells [nil3, nil3].toArray 52))
            have t3 : Tk nos wa (apO a b wd.heap.size (wd.heap.size + 1) (wd.heap.size + 1 + 1) nil3 nil3 [] [] 0 0 Ta Tb Fa Fb) (((wd.alloc (.cells [Value.pointer (some ⟨a, 0, none⟩), .pointer (some ⟨b, 0, none⟩)].toArray 23)).alloc (.cells [Value.int .i64 0, .int .i64 0].toArray 51)).alloc (.cells [nil3, nil3].toArray 52)) := by
              have t1 := TK1.out.alloc 23 [Value.pointer (some ⟨a, 0, none⟩), .pointer (some ⟨b, 0, none⟩)]
              have t2 := t1.alloc 51 [Value.int .i64 0, .int .i64 0]
              have t3 := t2.alloc 52 [nil3, nil3]
              rw [show ((wd.alloc (.cells [Value.pointer (some ⟨a, 0, none⟩), .pointer (some ⟨b, 0, none⟩)].toArray 23)).alloc (.cells [Value.int .i64 0, .int .i64 0].toArray 51)).heap.size = wd.heap.size + 1 + 1 by simp, show (wd.alloc (.cells [Value.pointer (some ⟨a, 0, none⟩), .pointer (some ⟨b, 0, none⟩)].toArray 23)).heap.size = wd.heap.size + 1 by simp] at t3
              exact (t3.addR (v := nil3) (n := 0) (xs := []) (Below.refl _ _) ⟨rfl, .inl ⟨rfl, rfl⟩⟩).addR (v := nil3) (n := 0) (xs := []) (Below.refl _ _) ⟨rfl, .inl ⟨rfl, rfl⟩⟩
            have b3 : Below wd.heap.size wd (((wd.alloc (.cells [Value.pointer (some ⟨a, 0, none⟩), .pointer (some ⟨b, 0, none⟩)].toArray 23)).alloc (.cells [Value.int .i64 0, .int .i64 0].toArray 51)).alloc (.cells [nil3, nil3].toArray 52)) := (((Below.refl _ _).alloc (Nat.le_refl _) _).alloc (by simp) _).alloc (by simp; omega) _
            have J0 : Hid (ApJ wa a b wd.heap.size (wd.heap.size + 1) (wd.heap.size + 1 + 1) Ta Tb Fa Fb A B 0 _) := Lib.hid t3
            have hgi : wd.heap.size + 1 ≠ wd.heap.size + 1 + 1 := by omega
            clear t3 b3 TK1
            generalize ((wd.alloc (.cells [Value.pointer (some ⟨a, 0, none⟩), .pointer (some ⟨b, 0, none⟩)].toArray 23)).alloc (.cells [Value.int .i64 0, .int .i64 0].toArray 51)).alloc (.cells [nil3, nil3].toArray 52) = w3 at *
            generalize wd.heap.size + 1 + 1 = pi at *
            generalize wd.heap.size + 1 = pg at *
            generalize wd.heap.size = pb at *
            go_loopw [13] (fun i wq => ∃ (j : Nat), j ≤ 2 ∧ i = .int .i64 j ∧ Hid (ApJ wa a b pb pg pi Ta Tb Fa Fb A B j wq)) (fun i _ => 2 - (intOf i).toNat)
            case atStart => exact ⟨0, by omega, rfl, J0⟩
            case round =>
              clear J0 hc1 hbw1
              obtain ⟨j, hj, rfl, HJ⟩ := hrel
              have hbel : Below w.heap.size w wr := Below.down BA.out (show Below wa.heap.size wa wr by
                rcases (show j = 0 ∨ j = 1 ∨ j = 2 by omega) with rfl | rfl | rfl
                · exact (show Tk nos wa _ wr from HJ.out).below
                · obtain ⟨xa, t⟩ := HJ.out; exact Tk.below t
                · obtain ⟨xa, xb, t⟩ := HJ.out; exact Tk.below t) BA.out.size
              obtain ⟨_, _, _, e, hbw, hcell⟩ := sli_at (HV.out.below hbel) k hlt
              simp only [Value.slice.injEq, Option.some.injEq, Addr.mk.injEq] at e
              obtain ⟨⟨rfl, rfl, -⟩, -, -⟩ := e
              rw [HQ.out] at hcell
              clear hbel
              rcases (show j = 0 ∨ j = 1 ∨ j = 2 by omega) with rfl | rfl | rfl
              · as_aux_lemma =>
                  have tk : Tk nos wa (apO a b pb pg pi nil3 nil3 [] [] 0 0 Ta Tb Fa Fb) wr := HJ.out
                  obtain ⟨⟨i0, i1, g0, g1, p0, p1⟩, z0, z1, z2, z3⟩ := ap_at tk
                  have cR := tk_uroute_is (i := 6) (os' := apO a b pb pg pi nil3 nil3 [] [] 0 0 A.T Tb A.F Fb) 0 v 0 A.c wr tk rfl (by rw [HA_.out]) (by rw [HA_.out]; rfl)
                  clear tk HJ i0 i1 g0 g1 z0 z1 z2 z3
                  go_wp2_with fail
                  refine cR.mono ?_
                  rintro e w4 ⟨rfl, t4⟩
                  obtain ⟨⟨i0, i1, g0, g1, p0', p1'⟩, z0, z1, z2, z3⟩ := ap_at t4
                  have T4 := Lib.hid t4
                  clear t4 cR hcell
                  go_wp2_with fail
                  refine (num_any _ _).mono ?_
                  rintro e w' ⟨rfl, rfl⟩
                  have J1 : Hid (ApJ wa a b pb pg pi Ta Tb Fa Fb A B 1 (w4.setCell ⟨pg, 0, none⟩ (.int .i64 A.c))) := Lib.hid ⟨nil3, by have := T4.out.apA A.c; rw [show A.L = [] by rw [HA_.out]]; exact this⟩
                  clear T4
                  go_wp2_with fail
                  go_roundw
                  case rel => exact ⟨1, by omega, rfl, J1⟩
                  case measure => simp [intOf]
              · as_aux_lemma =>
                  obtain ⟨xa, tk⟩ := HJ.out
                  replace tk : Tk nos wa (apO a b pb pg pi xa nil3 A.L [] A.c 0 A.T Tb A.F Fb) wr := tk
                  obtain ⟨⟨i0, i1, g0, g1, p0, p1⟩, z0, z1, z2, z3⟩ := ap_at tk
                  have cR := tk_uroute_is (i := 5) (os' := apO a b pb pg pi xa nil3 A.L [] A.c 0 A.T B.T A.F B.F) 0 v 0 B.c wr tk rfl (by rw [HB_.out]) (by rw [HB_.out]; rfl)
                  clear tk HJ i0 i1 g0 g1 z0 z1 z2 z3
                  go_wp2_with fail
                  refine cR.mono ?_
                  rintro e w4 ⟨rfl, t4⟩
                  obtain ⟨⟨i0, i1, g0, g1, p0', p1'⟩, z0, z1, z2, z3⟩ := ap_at t4
                  have T4 := Lib.hid t4
                  clear t4 cR hcell
                  go_wp2_with fail
                  refine (num_any _ _).mono ?_
                  rintro e w' ⟨rfl, rfl⟩
                  have J1 : Hid (ApJ wa a b pb pg pi Ta Tb Fa Fb A B 2 (w4.setCell ⟨pg, 1, none⟩ (.int .i64 B.c))) := Lib.hid ⟨xa, nil3, by have := T4.out.apB B.c; rw [show B.L = [] by rw [HB_.out]]; exact this⟩
                  clear T4
                  go_wp2_with fail
                  go_roundw
                  case rel => exact ⟨2, by omega, rfl, J1⟩
                  case measure => simp [intOf]
              · as_aux_lemma =>
                  obtain ⟨xa, xb, tk⟩ := HJ.out
                  replace tk : Tk nos wa (apO a b pb pg pi xa xb A.L B.L A.c B.c A.T B.T A.F B.F) wr := tk
                  obtain ⟨⟨i0, i1, g0, g1, p0, p1⟩, -, -, -, -⟩ := ap_at tk
                  obtain ⟨hIg, hcc, hLL, hl⟩ := HEND.out
                  have cS := same_iqs xa xb A.L.length A.L wr (tk.sl (i := 1) rfl) (by have := tk.sl (i := 0) rfl; rw [← hLL] at this; exact this) rfl (by unfold maxLen; omega)
                  have E5 := Lib.hid (tk.apEnd hIg)
                  rw [← hcc] at g1
                  have hcn : (A.c != A.c) = false := by simp
                  clear tk hIg hcc hLL hl HJ HEND
                  generalize A.c = c at *
                  go_wp2_with fail
                  refine cS.mono ?_
                  clear cS
                  rintro e w' ⟨rfl, q6, rfl⟩
                  have E6 := Lib.hid (E5.out.drewN q6)
                  clear E5 i0 i1 g0 g1 p0 p1
                  generalize World.drewN _ q6 = w5 at *
                  go_wp2_with fail
                  go_roundw
                  case rel => exact ⟨k + 1, by omega, by omega, by go_num, E6⟩
                  case measure => simp [intOf]; omega
        · as_aux_lemma =>
            obtain ⟨A, hA⟩ : ∃ A : Ac, A = ⟨uuC 2 Ta 0 v, [], ruT 2 Ta 0 v, uuF 2 2 Ta Fa 0 v⟩ := ⟨_, rfl⟩
            obtain ⟨B, hB⟩ : ∃ B : Ac, B = ⟨uuC 2 Tb 0 v, [], ruT 2 Tb 0 v, uuF 2 2 Tb Fb 0 v⟩ := ⟨_, rfl⟩
            have HEND : Hid (Ig A.T B.T A.F B.F ∧ A.c = B.c ∧ A.L = B.L ∧ A.L.length ≤ 32) := Lib.hid (by rw [hA, hB]; exact ⟨HI.out.un0 hv8, (HI.out.uu hv8).symm, rfl, Nat.zero_le _⟩)
            have HA_ := Lib.hid hA
            have HB_ := Lib.hid hB
            clear hA hB
            go_wp2_with fail
            go_quiet (fail)
            have TK1 := Lib.hid (TK.out.drewN nq)
            have hc1 : (wr.drewN nq).cell? ⟨gs, o + k, none⟩ = some (.int .i64 q) := hcell
            have hbw1 : gs < (wr.drewN nq).heap.size := hbw
            have BW := Lib.hid (bdrewN HS.out nq)
            have hgs : gs < wa.heap.size ∨ True := .inr trivial
            clear TK hP' hV' hcell hbw HS hgs
            generalize wr.drewN nq = wd at *
            go_wp2_with fail
            change Code.wp _ _ _ _ (((wd.alloc (.cells [Value.pointer (some ⟨a, 0, none⟩), .pointer (some ⟨b, 0, none⟩)].toArray 23)).alloc (.cells [Value.int .i64 0, .int .i64 0].toArray 51)).alloc (.cells [nil3, nil3].toArray 52))
            have t3 : Tk nos wa (apO a b wd.heap.size (wd.heap.size + 1) (wd.heap.size + 1 + 1) nil3 nil3 [] [] 0 0 Ta Tb Fa Fb) (((wd.alloc (.cells [Value.pointer (some ⟨a, 0, none⟩), .pointer (some ⟨b, 0, none⟩)].toArray 23)).alloc (.cells [Value.int .i64 0, .int .i64 0].toArray 51)).alloc (.cells [nil3, nil3].toArray 52)) := by
              have t1 := TK1.out.alloc 23 [Value.pointer (some ⟨a, 0, none⟩), .pointer (some ⟨b, 0, none⟩)]
              have t2 := t1.alloc 51 [Value.int .i64 0, .int .i64 0]
              have t3 := t2.alloc 52 [nil3, nil3]
              rw [show ((wd.alloc (.cells [Value.pointer (some ⟨a, 0, none⟩), .pointer (some ⟨b, 0, none⟩)].toArray 23)).alloc (.cells [Value.int .i64 0, .int .i64 0].toArray 51)).heap.size = wd.heap.size + 1 + 1 by simp, show (wd.alloc (.cells [Value.pointer (some ⟨a, 0, none⟩), .pointer (some ⟨b, 0, none⟩)].toArray 23)).heap.size = wd.heap.size + 1 by simp] at t3
              exact (t3.addR (v := nil3) (n := 0) (xs := []) (Below.refl _ _) ⟨rfl, .inl ⟨rfl, rfl⟩⟩).addR (v := nil3) (n := 0) (xs := []) (Below.refl _ _) ⟨rfl, .inl ⟨rfl, rfl⟩⟩
            have b3 : Below wd.heap.size wd (((wd.alloc (.cells [Value.pointer (some ⟨a, 0, none⟩), .pointer (some ⟨b, 0, none⟩)].toArray 23)).alloc (.cells [Value.int .i64 0, .int .i64 0].toArray 51)).alloc (.cells [nil3, nil3].toArray 52)) := (((Below.refl _ _).alloc (Nat.le_refl _) _).alloc (by simp) _).alloc (by simp; omega) _
            have J0 : Hid (ApJ wa a b wd.heap.size (wd.heap.size + 1) (wd.heap.size + 1 + 1) Ta Tb Fa Fb A B 0 _) := Lib.hid t3
            have hgi : wd.heap.size + 1 ≠ wd.heap.size + 1 + 1 := by omega
            clear t3 b3 TK1
            generalize ((wd.alloc (.cells [Value.pointer (some ⟨a, 0, none⟩), .pointer (some ⟨b, 0, none⟩)].toArray 23)).alloc (.cells [Value.int .i64 0, .int .i64 0].toArray 51)).alloc (.cells [nil3, nil3].toArray 52) = w3 at *
            generalize wd.heap.size + 1 + 1 = pi at *
            generalize wd.heap.size + 1 = pg at *
            generalize wd.heap.size = pb at *
            go_loopw [13] (fun i wq => ∃ (j : Nat), j ≤ 2 ∧ i = .int .i64 j ∧ Hid (ApJ wa a b pb pg pi Ta Tb Fa Fb A B j wq)) (fun i _ => 2 - (intOf i).toNat)
            case atStart => exact ⟨0, by omega, rfl, J0⟩
            case round =>
              clear J0 hc1 hbw1
              obtain ⟨j, hj, rfl, HJ⟩ := hrel
              have hbel : Below w.heap.size w wr := Below.down BA.out (show Below wa.heap.size wa wr by
                rcases (show j = 0 ∨ j = 1 ∨ j = 2 by omega) with rfl | rfl | rfl
                · exact (show Tk nos wa _ wr from HJ.out).below
                · obtain ⟨xa, t⟩ := HJ.out; exact Tk.below t
                · obtain ⟨xa, xb, t⟩ := HJ.out; exact Tk.below t) BA.out.size
              obtain ⟨_, _, _, e, hbw, hcell⟩ := sli_at (HV.out.below hbel) k hlt
              simp only [Value.slice.injEq, Option.some.injEq, Addr.mk.injEq] at e
              obtain ⟨⟨rfl, rfl, -⟩, -, -⟩ := e
              rw [HQ.out] at hcell
              clear hbel
              rcases (show j = 0 ∨ j = 1 ∨ j = 2 by omega) with rfl | rfl | rfl
              · as_aux_lemma =>
                  have tk : Tk nos wa (apO a b pb pg pi nil3 nil3 [] [] 0 0 Ta Tb Fa Fb) wr := HJ.out
                  obtain ⟨⟨i0, i1, g0, g1, p0, p1⟩, z0, z1, z2, z3⟩ := ap_at tk
                  have cR := tk_uunroute_is (i := 6) (os' := apO a b pb pg pi nil3 nil3 [] [] 0 0 A.T Tb A.F Fb) 0 v A.c wr tk rfl (by rw [HA_.out]) (by rw [HA_.out]; rfl)
                  clear tk HJ i0 i1 g0 g1 z0 z1 z2 z3
                  go_wp2_with fail
                  refine cR.mono ?_
                  rintro e w4 ⟨rfl, t4⟩
                  obtain ⟨⟨i0, i1, g0, g1, p0', p1'⟩, z0, z1, z2, z3⟩ := ap_at t4
                  have T4 := Lib.hid t4
                  clear t4 cR hcell
                  go_wp2_with fail
                  refine (num_any _ _).mono ?_
                  rintro e w' ⟨rfl, rfl⟩
                  have J1 : Hid (ApJ wa a b pb pg pi Ta Tb Fa Fb A B 1 (w4.setCell ⟨pg, 0, none⟩ (.int .i64 A.c))) := Lib.hid ⟨nil3, by have := T4.out.apA A.c; rw [show A.L = [] by rw [HA_.out]]; exact this⟩
                  clear T4
                  go_wp2_with fail
                  go_roundw
                  case rel => exact ⟨1, by omega, rfl, J1⟩
                  case measure => simp [intOf]
              · as_aux_lemma =>
                  obtain ⟨xa, tk⟩ := HJ.out
                  replace tk : Tk nos wa (apO a b pb pg pi xa nil3 A.L [] A.c 0 A.T Tb A.F Fb) wr := tk
                  obtain ⟨⟨i0, i1, g0, g1, p0, p1⟩, z0, z1, z2, z3⟩ := ap_at tk
                  have cR := tk_uunroute_is (i := 5) (os' := apO a b pb pg pi xa nil3 A.L [] A.c 0 A.T B.T A.F B.F) 0 v B.c wr tk rfl (by rw [HB_.out]) (by rw [HB_.out]; rfl)
                  clear tk HJ i0 i1 g0 g1 z0 z1 z2 z3
                  go_wp2_with fail
                  refine cR.mono ?_
                  rintro e w4 ⟨rfl, t4⟩
                  obtain ⟨⟨i0, i1, g0, g1, p0', p1'⟩, z0, z1, z2, z3⟩ := ap_at t4
                  have T4 := Lib.hid t4
                  clear t4 cR hcell
                  go_wp2_with fail
                  refine (num_any _ _).mono ?_
                  rintro e w' ⟨rfl, rfl⟩
                  have J1 : Hid (ApJ wa a b pb pg pi Ta Tb Fa Fb A B 2 (w4.setCell ⟨pg, 1, none⟩ (.int .i64 B.c))) := Lib.hid ⟨xa, nil3, by have := T4.out.apB B.c; rw [show B.L = [] by rw [HB_.out]]; exact this⟩
                  clear T4
                  go_wp2_with fail
                  go_roundw
                  case rel => exact ⟨2, by omega, rfl, J1⟩
                  case measure => simp [intOf]
              · as_aux_lemma =>
                  obtain ⟨xa, xb, tk⟩ := HJ.out
                  replace tk : Tk nos wa (apO a b pb pg pi xa xb A.L B.L A.c B.c A.T B.T A.F B.F) wr := tk
                  obtain ⟨⟨i0, i1, g0, g1, p0, p1⟩, -, -, -, -⟩ := ap_at tk
                  obtain ⟨hIg, hcc, hLL, hl⟩ := HEND.out
                  have cS := same_iqs xa xb A.L.length A.L wr (tk.sl (i := 1) rfl) (by have := tk.sl (i := 0) rfl; rw [← hLL] at this; exact this) rfl (by unfold maxLen; omega)
                  have E5 := Lib.hid (tk.apEnd hIg)
                  rw [← hcc] at g1
                  have hcn : (A.c != A.c) = false := by simp
                  clear tk hIg hcc hLL hl HJ HEND
                  generalize A.c = c at *
                  go_wp2_with fail
                  refine cS.mono ?_
                  clear cS
                  rintro e w' ⟨rfl, q6, rfl⟩
                  have E6 := Lib.hid (E5.out.drewN q6)
                  clear E5 i0 i1 g0 g1 p0 p1
                  generalize World.drewN _ q6 = w5 at *
                  go_wp2_with fail
                  go_roundw
                  case rel => exact ⟨k + 1, by omega, by omega, by go_num, E6⟩
                  case measure => simp [intOf]; omega
        · as_aux_lemma =>
            obtain ⟨A, hA⟩ : ∃ A : Ac, A = ⟨uuC 2 Ta 0 v, [], rmT 2 Ta 0 v mm, Fa⟩ := ⟨_, rfl⟩
            obtain ⟨B, hB⟩ : ∃ B : Ac, B = ⟨uuC 2 Tb 0 v, [], rmT 2 Tb 0 v mm, Fb⟩ := ⟨_, rfl⟩
            have HEND : Hid (Ig A.T B.T A.F B.F ∧ A.c = B.c ∧ A.L = B.L ∧ A.L.length ≤ 32) := Lib.hid (by rw [hA, hB]; exact ⟨HI.out.mask0 hv8 mm, (HI.out.uu hv8).symm, rfl, Nat.zero_le _⟩)
            have HA_ := Lib.hid hA
            have HB_ := Lib.hid hB
            clear hA hB
            go_wp2_with fail
            go_quiet (fail)
            have TK1 := Lib.hid (TK.out.drewN nq)
            have hc1 : (wr.drewN nq).cell? ⟨gs, o + k, none⟩ = some (.int .i64 q) := hcell
            have hbw1 : gs < (wr.drewN nq).heap.size := hbw
            have BW := Lib.hid (bdrewN HS.out nq)
            have hgs : gs < wa.heap.size ∨ True := .inr trivial
            clear TK hP' hV' hcell hbw HS hgs
            generalize wr.drewN nq = wd at *
            go_wp2_with fail
            change Code.wp _ _ _ _ (((wd.alloc (.cells [Value.pointer (some ⟨a, 0, none⟩), .pointer (some ⟨b, 0, none⟩)].toArray 23)).alloc (.cells [Value.int .i64 0, .int .i64 0].toArray 51)).alloc (.cells [nil3, nil3].toArray 52))
            have t3 : Tk nos wa (apO a b wd.heap.size (wd.heap.size + 1) (wd.heap.size + 1 + 1) nil3 nil3 [] [] 0 0 Ta Tb Fa Fb) (((wd.alloc (.cells [Value.pointer (some ⟨a, 0, none⟩), .pointer (some ⟨b, 0, none⟩)].toArray 23)).alloc (.cells [Value.int .i64 0, .int .i64 0].toArray 51)).alloc (.cells [nil3, nil3].toArray 52)) := by
              have t1 := TK1.out.alloc 23 [Value.pointer (some ⟨a, 0, none⟩), .pointer (some ⟨b, 0, none⟩)]
              have t2 := t1.alloc 51 [Value.int .i64 0, .int .i64 0]
              have t3 := t2.alloc 52 [nil3, nil3]
              rw [show ((wd.alloc (.cells [Value.pointer (some ⟨a, 0, none⟩), .pointer (some ⟨b, 0, none⟩)].toArray 23)).alloc (.cells [Value.int .i64 0, .int .i64 0].toArray 51)).heap.size = wd.heap.size + 1 + 1 by simp, show (wd.alloc (.cells [Value.pointer (some ⟨a, 0, none⟩), .pointer (some ⟨b, 0, none⟩)].toArray 23)).heap.size = wd.heap.size + 1 by simp] at t3
              exact (t3.addR (v := nil3) (n := 0) (xs := []) (Below.refl _ _) ⟨rfl, .inl ⟨rfl, rfl⟩⟩).addR (v := nil3) (n := 0) (xs := []) (Below.refl _ _) ⟨rfl, .inl ⟨rfl, rfl⟩⟩
            have b3 : Below wd.heap.size wd (((wd.alloc (.cells [Value.pointer (some ⟨a, 0, none⟩), .pointer (some ⟨b, 0, none⟩)].toArray 23)).alloc (.cells [Value.int .i64 0, .int .i64 0].toArray 51)).alloc (.cells [nil3, nil3].toArray 52)) := (((Below.refl _ _).alloc (Nat.le_refl _) _).alloc (by simp) _).alloc (by simp; omega) _
            have J0 : Hid (ApJ wa a b wd.heap.size (wd.heap.size + 1) (wd.heap.size + 1 + 1) Ta Tb Fa Fb A B 0 _) := Lib.hid t3
            have hgi : wd.heap.size + 1 ≠ wd.heap.size + 1 + 1 := by omega
            clear t3 b3 TK1
            generalize ((wd.alloc (.cells [Value.pointer (some ⟨a, 0, none⟩), .pointer (some ⟨b, 0, none⟩)].toArray 23)).alloc (.cells [Value.int .i64 0, .int .i64 0].toArray 51)).alloc (.cells [nil3, nil3].toArray 52) = w3 at *
            generalize wd.heap.size + 1 + 1 = pi at *
            generalize wd.heap.size + 1 = pg at *
            generalize wd.heap.size = pb at *
            go_loopw [13] (fun i wq => ∃ (j : Nat), j ≤ 2 ∧ i = .int .i64 j ∧ Hid (ApJ wa a b pb pg pi Ta Tb Fa Fb A B j wq)) (fun i _ => 2 - (intOf i).toNat)
            case atStart => exact ⟨0, by omega, rfl, J0⟩
            case round =>
              clear J0 hc1 hbw1
              obtain ⟨j, hj, rfl, HJ⟩ := hrel
              have hbel : Below w.heap.size w wr := Below.down BA.out (show Below wa.heap.size wa wr by
                rcases (show j = 0 ∨ j = 1 ∨ j = 2 by omega) with rfl | rfl | rfl
                · exact (show Tk nos wa _ wr from HJ.out).below
                · obtain ⟨xa, t⟩ := HJ.out; exact Tk.below t
                · obtain ⟨xa, xb, t⟩ := HJ.out; exact Tk.below t) BA.out.size
              obtain ⟨_, _, _, e, hbw, hcell⟩ := sli_at (HV.out.below hbel) k hlt
              simp only [Value.slice.injEq, Option.some.injEq, Addr.mk.injEq] at e
              obtain ⟨⟨rfl, rfl, -⟩, -, -⟩ := e
              rw [HQ.out] at hcell
              clear hbel
              rcases (show j = 0 ∨ j = 1 ∨ j = 2 by omega) with rfl | rfl | rfl
              · as_aux_lemma =>
                  have tk : Tk nos wa (apO a b pb pg pi nil3 nil3 [] [] 0 0 Ta Tb Fa Fb) wr := HJ.out
                  obtain ⟨⟨i0, i1, g0, g1, p0, p1⟩, z0, z1, z2, z3⟩ := ap_at tk
                  have cR := tk_umask_is (i := 6) (os' := apO a b pb pg pi nil3 nil3 [] [] 0 0 A.T Tb A.F Fb) 0 v mm A.c wr tk rfl (by rw [HA_.out]) (by rw [HA_.out]; rfl)
                  clear tk HJ i0 i1 g0 g1 z0 z1 z2 z3
                  go_wp2_with fail
                  refine cR.mono ?_
                  rintro e w4 ⟨rfl, t4⟩
                  obtain ⟨⟨i0, i1, g0, g1, p0', p1'⟩, z0, z1, z2, z3⟩ := ap_at t4
                  have T4 := Lib.hid t4
                  clear t4 cR hcell
                  go_wp2_with fail
                  refine (num_any _ _).mono ?_
                  rintro e w' ⟨rfl, rfl⟩
                  have J1 : Hid (ApJ wa a b pb pg pi Ta Tb Fa Fb A B 1 (w4.setCell ⟨pg, 0, none⟩ (.int .i64 A.c))) := Lib.hid ⟨nil3, by have := T4.out.apA A.c; rw [show A.L = [] by rw [HA_.out]]; exact this⟩
                  clear T4
                  go_wp2_with fail
                  go_roundw
                  case rel => exact ⟨1, by omega, rfl, J1⟩
                  case measure => simp [intOf]
              · as_aux_lemma =>
                  obtain ⟨xa, tk⟩ := HJ.out
                  replace tk : Tk nos wa (apO a b pb pg pi xa nil3 A.L [] A.c 0 A.T Tb A.F Fb) wr := tk
                  obtain ⟨⟨i0, i1, g0, g1, p0, p1⟩, z0, z1, z2, z3⟩ := ap_at tk
                  have cR := tk_umask_is (i := 5) (os' := apO a b pb pg pi xa nil3 A.L [] A.c 0 A.T B.T A.F B.F) 0 v mm B.c wr tk rfl (by rw [HB_.out]) (by rw [HB_.out]; rfl)
                  clear tk HJ i0 i1 g0 g1 z0 z1 z2 z3
                  go_wp2_with fail
                  refine cR.mono ?_
                  rintro e w4 ⟨rfl, t4⟩
                  obtain ⟨⟨i0, i1, g0, g1, p0', p1'⟩, z0, z1, z2, z3⟩ := ap_at t4
                  have T4 := Lib.hid t4
                  clear t4 cR hcell
                  go_wp2_with fail
                  refine (num_any _ _).mono ?_
                  rintro e w' ⟨rfl, rfl⟩
                  have J1 : Hid (ApJ wa a b pb pg pi Ta Tb Fa Fb A B 2 (w4.setCell ⟨pg, 1, none⟩ (.int .i64 B.c))) := Lib.hid ⟨xa, nil3, by have := T4.out.apB B.c; rw [show B.L = [] by rw [HB_.out]]; exact this⟩
                  clear T4
                  go_wp2_with fail
                  go_roundw
                  case rel => exact ⟨2, by omega, rfl, J1⟩
                  case measure => simp [intOf]
              · as_aux_lemma =>
                  obtain ⟨xa, xb, tk⟩ := HJ.out
                  replace tk : Tk nos wa (apO a b pb pg pi xa xb A.L B.L A.c B.c A.T B.T A.F B.F) wr := tk
                  obtain ⟨⟨i0, i1, g0, g1, p0, p1⟩, -, -, -, -⟩ := ap_at tk
                  obtain ⟨hIg, hcc, hLL, hl⟩ := HEND.out
                  have cS := same_iqs xa xb A.L.length A.L wr (tk.sl (i := 1) rfl) (by have := tk.sl (i := 0) rfl; rw [← hLL] at this; exact this) rfl (by unfold maxLen; omega)
                  have E5 := Lib.hid (tk.apEnd hIg)
                  rw [← hcc] at g1
                  have hcn : (A.c != A.c) = false := by simp
                  clear tk hIg hcc hLL hl HJ HEND
                  generalize A.c = c at *
                  go_wp2_with fail
                  refine cS.mono ?_
                  clear cS
                  rintro e w' ⟨rfl, q6, rfl⟩
                  have E6 := Lib.hid (E5.out.drewN q6)
                  clear E5 i0 i1 g0 g1 p0 p1
                  generalize World.drewN _ q6 = w5 at *
                  go_wp2_with fail
                  go_roundw
                  case rel => exact ⟨k + 1, by omega, by omega, by go_num, E6⟩
                  case measure => simp [intOf]; omega
        · as_aux_lemma =>
            obtain ⟨A, hA⟩ : ∃ A : Ac, A = ⟨0, udL 2 2 Ta Fa 0 k, Ta, udF 2 2 Ta Fa 0⟩ := ⟨_, rfl⟩
            obtain ⟨B, hB⟩ : ∃ B : Ac, B = ⟨0, udL 2 2 Tb Fb 0 k, Tb, udF 2 2 Tb Fb 0⟩ := ⟨_, rfl⟩
            have HEND : Hid (Ig A.T B.T A.F B.F ∧ A.c = B.c ∧ A.L = B.L ∧ A.L.length ≤ 32) := Lib.hid (by rw [hA, hB]; exact ⟨HI.out.df0, rfl, (HI.out.dl k).symm, (udL_len 2 2 Ta Fa 0 k : (udL 2 2 Ta Fa 0 k).length ≤ 32)⟩)
            have HA_ := Lib.hid hA
            have HB_ := Lib.hid hB
            clear hA hB
            go_wp2_with fail
            go_quiet (fail)
            have TK1 := Lib.hid (TK.out.drewN nq)
            have hc1 : (wr.drewN nq).cell? ⟨gs, o + k, none⟩ = some (.int .i64 q) := hcell
            have hbw1 : gs < (wr.drewN nq).heap.size := hbw
            have BW := Lib.hid (bdrewN HS.out nq)
            have hgs : gs < wa.heap.size ∨ True := .inr trivial
            clear TK hP' hV' hcell hbw HS hgs
            generalize wr.drewN nq = wd at *
            go_wp2_with fail
            change Code.wp _ _ _ _ (((wd.alloc (.cells [Value.pointer (some ⟨a, 0, none⟩), .pointer (some ⟨b, 0, none⟩)].toArray 23)).alloc (.cells [Value.int .i64 0, .int .i64 0].toArray 51)).alloc (.cells [nil3, nil3].toArray 52))
            have t3 : Tk nos wa (apO a b wd.heap.size (wd.heap.size + 1) (wd.heap.size + 1 + 1) nil3 nil3 [] [] 0 0 Ta Tb Fa Fb) (((wd.alloc (.cells [Value.pointer (some ⟨a, 0, none⟩), .pointer (some ⟨b, 0, none⟩)].toArray 23)).alloc (.cells [Value.int .i64 0, .int .i64 0].toArray 51)).alloc (.cells [nil3, nil3].toArray 52)) := by
              have t1 := TK1.out.alloc 23 [Value.pointer (some ⟨a, 0, none⟩), .pointer (some ⟨b, 0, none⟩)]
              have t2 := t1.alloc 51 [Value.int .i64 0, .int .i64 0]
              have t3 := t2.alloc 52 [nil3, nil3]
              rw [show ((wd.alloc (.cells [Value.pointer (some ⟨a, 0, none⟩), .pointer (some ⟨b, 0, none⟩)].toArray 23)).alloc (.cells [Value.int .i64 0, .int .i64 0].toArray 51)).heap.size = wd.heap.size + 1 + 1 by simp, show (wd.alloc (.cells [Value.pointer (some ⟨a, 0, none⟩), .pointer (some ⟨b, 0, none⟩)].toArray 23)).heap.size = wd.heap.size + 1 by simp] at t3
              exact (t3.addR (v := nil3) (n := 0) (xs := []) (Below.refl _ _) ⟨rfl, .inl ⟨rfl, rfl⟩⟩).addR (v := nil3) (n := 0) (xs := []) (Below.refl _ _) ⟨rfl, .inl ⟨rfl, rfl⟩⟩
            have b3 : Below wd.heap.size wd (((wd.alloc (.cells [Value.pointer (some ⟨a, 0, none⟩), .pointer (some ⟨b, 0, none⟩)].toArray 23)).alloc (.cells [Value.int .i64 0, .int .i64 0].toArray 51)).alloc (.cells [nil3, nil3].toArray 52)) := (((Below.refl _ _).alloc (Nat.le_refl _) _).alloc (by simp) _).alloc (by simp; omega) _
            have J0 : Hid (ApJ wa a b wd.heap.size (wd.heap.size + 1) (wd.heap.size + 1 + 1) Ta Tb Fa Fb A B 0 _) := Lib.hid t3
            have hgi : wd.heap.size + 1 ≠ wd.heap.size + 1 + 1 := by omega
            clear t3 b3 TK1
            generalize ((wd.alloc (.cells [Value.pointer (some ⟨a, 0, none⟩), .pointer (some ⟨b, 0, none⟩)].toArray 23)).alloc (.cells [Value.int .i64 0, .int .i64 0].toArray 51)).alloc (.cells [nil3, nil3].toArray 52) = w3 at *
            generalize wd.heap.size + 1 + 1 = pi at *
            generalize wd.heap.size + 1 = pg at *
            generalize wd.heap.size = pb at *
            go_loopw [13] (fun i wq => ∃ (j : Nat), j ≤ 2 ∧ i = .int .i64 j ∧ Hid (ApJ wa a b pb pg pi Ta Tb Fa Fb A B j wq)) (fun i _ => 2 - (intOf i).toNat)
            case atStart => exact ⟨0, by omega, rfl, J0⟩
            case round =>
              clear J0 hc1 hbw1
              obtain ⟨j, hj, rfl, HJ⟩ := hrel
              have hbel : Below w.heap.size w wr := Below.down BA.out (show Below wa.heap.size wa wr by
                rcases (show j = 0 ∨ j = 1 ∨ j = 2 by omega) with rfl | rfl | rfl
                · exact (show Tk nos wa _ wr from HJ.out).below
                · obtain ⟨xa, t⟩ := HJ.out; exact Tk.below t
                · obtain ⟨xa, xb, t⟩ := HJ.out; exact Tk.below t) BA.out.size
              obtain ⟨_, _, _, e, hbw, hcell⟩ := sli_at (HV.out.below hbel) k hlt
              simp only [Value.slice.injEq, Option.some.injEq, Addr.mk.injEq] at e
              obtain ⟨⟨rfl, rfl, -⟩, -, -⟩ := e
              rw [HQ.out] at hcell
              clear hbel
              rcases (show j = 0 ∨ j = 1 ∨ j = 2 by omega) with rfl | rfl | rfl
              · as_aux_lemma =>
                  have tk : Tk nos wa (apO a b pb pg pi nil3 nil3 [] [] 0 0 Ta Tb Fa Fb) wr := HJ.out
                  obtain ⟨⟨i0, i1, g0, g1, p0, p1⟩, z0, z1, z2, z3⟩ := ap_at tk
                  have cR := tk_udeliver_is (i := 6) (os' := apO a b pb pg pi nil3 nil3 [] [] 0 0 A.T Tb A.F Fb) 0 k A.L wr tk rfl (by rw [HA_.out]) (by rw [HA_.out]; rfl)
                  clear tk HJ i0 i1 g0 g1 z0 z1 z2 z3
                  go_wp2_with fail
                  refine cR.mono ?_
                  rintro e w4 ⟨x, rfl, t4⟩
                  obtain ⟨Ax, cx, rfl, -⟩ : ∃ Ay cp, x = .slice Ay A.L.length cp ∧ True := by obtain ⟨Ay, c, e, -⟩ := t4.sl (i := 0) rfl; exact ⟨Ay, c, e, trivial⟩
                  obtain ⟨⟨i0, i1, g0, g1, p0', p1'⟩, z0, z1, z2, z3⟩ := ap_at t4.tail
                  have T4 := Lib.hid t4
                  clear t4 cR hcell
                  have J1 : Hid (ApJ wa a b pb pg pi Ta Tb Fa Fb A B 1 (w4.setCell ⟨pi, 0, none⟩ (.slice Ax A.L.length cx))) := Lib.hid ⟨_, by have := T4.out.apX; rw [show A.c = 0 by rw [HA_.out]]; exact this⟩
                  clear T4
                  go_wp2_with fail
                  go_roundw
                  case rel => exact ⟨1, by omega, rfl, J1⟩
                  case measure => simp [intOf]
              · as_aux_lemma =>
                  obtain ⟨xa, tk⟩ := HJ.out
                  replace tk : Tk nos wa (apO a b pb pg pi xa nil3 A.L [] A.c 0 A.T Tb A.F Fb) wr := tk
                  obtain ⟨⟨i0, i1, g0, g1, p0, p1⟩, z0, z1, z2, z3⟩ := ap_at tk
                  have cR := tk_udeliver_is (i := 5) (os' := apO a b pb pg pi xa nil3 A.L [] A.c 0 A.T B.T A.F B.F) 0 k B.L wr tk rfl (by rw [HB_.out]) (by rw [HB_.out]; rfl)
                  clear tk HJ i0 i1 g0 g1 z0 z1 z2 z3
                  go_wp2_with fail
                  refine cR.mono ?_
                  rintro e w4 ⟨x, rfl, t4⟩
                  obtain ⟨Ax, cx, rfl, -⟩ : ∃ Ay cp, x = .slice Ay B.L.length cp ∧ True := by obtain ⟨Ay, c, e, -⟩ := t4.sl (i := 0) rfl; exact ⟨Ay, c, e, trivial⟩
                  obtain ⟨⟨i0, i1, g0, g1, p0', p1'⟩, z0, z1, z2, z3⟩ := ap_at t4.tail
                  have T4 := Lib.hid t4
                  clear t4 cR hcell
                  have J1 : Hid (ApJ wa a b pb pg pi Ta Tb Fa Fb A B 2 (w4.setCell ⟨pi, 1, none⟩ (.slice Ax B.L.length cx))) := Lib.hid ⟨xa, _, by have := T4.out.apY; rw [show B.c = 0 by rw [HB_.out]]; exact this⟩
                  clear T4
                  go_wp2_with fail
                  go_roundw
                  case rel => exact ⟨2, by omega, rfl, J1⟩
                  case measure => simp [intOf]
              · as_aux_lemma =>
                  obtain ⟨xa, xb, tk⟩ := HJ.out
                  replace tk : Tk nos wa (apO a b pb pg pi xa xb A.L B.L A.c B.c A.T B.T A.F B.F) wr := tk
                  obtain ⟨⟨i0, i1, g0, g1, p0, p1⟩, -, -, -, -⟩ := ap_at tk
                  obtain ⟨hIg, hcc, hLL, hl⟩ := HEND.out
                  have cS := same_iqs xa xb A.L.length A.L wr (tk.sl (i := 1) rfl) (by have := tk.sl (i := 0) rfl; rw [← hLL] at this; exact this) rfl (by unfold maxLen; omega)
                  have E5 := Lib.hid (tk.apEnd hIg)
                  rw [← hcc] at g1
                  have hcn : (A.c != A.c) = false := by simp
                  clear tk hIg hcc hLL hl HJ HEND
                  generalize A.c = c at *
                  go_wp2_with fail
                  refine cS.mono ?_
                  clear cS
                  rintro e w' ⟨rfl, q6, rfl⟩
                  have E6 := Lib.hid (E5.out.drewN q6)
                  clear E5 i0 i1 g0 g1 p0 p1
                  generalize World.drewN _ q6 = w5 at *
                  go_wp2_with fail
                  go_roundw
                  case rel => exact ⟨k + 1, by omega, by omega, by go_num, E6⟩
                  case measure => simp [intOf]; omega
        · as_aux_lemma =>
            obtain ⟨A, hA⟩ : ∃ A : Ac, A = ⟨ucC 2 0, [], rcT 2 Ta 0, ucF 2 2 Fa 0⟩ := ⟨_, rfl⟩
            obtain ⟨B, hB⟩ : ∃ B : Ac, B = ⟨ucC 2 0, [], rcT 2 Tb 0, ucF 2 2 Fb 0⟩ := ⟨_, rfl⟩
            have HEND : Hid (Ig A.T B.T A.F B.F ∧ A.c = B.c ∧ A.L = B.L ∧ A.L.length ≤ 32) := Lib.hid (by rw [hA, hB]; exact ⟨HI.out.clear0, rfl, rfl, Nat.zero_le _⟩)
            have HA_ := Lib.hid hA
            have HB_ := Lib.hid hB
            clear hA hB
            go_wp2_with fail
            go_quiet (fail)
            have TK1 := Lib.hid (TK.out.drewN nq)
            have hc1 : (wr.drewN nq).cell? ⟨gs, o + k, none⟩ = some (.int .i64 q) := hcell
            have hbw1 : gs < (wr.drewN nq).heap.size := hbw
            have BW := Lib.hid (bdrewN HS.out nq)
            have hgs : gs < wa.heap.size ∨ True := .inr trivial
            clear TK hP' hV' hcell hbw HS hgs
            generalize wr.drewN nq = wd at *
            go_wp2_with fail
            change Code.wp _ _ _ _ (((wd.alloc (.cells [Value.pointer (some ⟨a, 0, none⟩), .pointer (some ⟨b, 0, none⟩)].toArray 23)).alloc (.cells [Value.int .i64 0, .int .i64 0].toArray 51)).alloc (.cells [nil3, nil3].toArray 52))
            have t3 : Tk nos wa (apO a b wd.heap.size (wd.heap.size + 1) (wd.heap.size + 1 + 1) nil3 nil3 [] [] 0 0 Ta Tb Fa Fb) (((wd.alloc (.cells [Value.pointer (some ⟨a, 0, none⟩), .pointer (some ⟨b, 0, none⟩)].toArray 23)).alloc (.cells [Value.int .i64 0, .int .i64 0].toArray 51)).alloc (.cells [nil3, nil3].toArray 52)) := by
              have t1 := TK1.out.alloc 23 [Value.pointer (some ⟨a, 0, none⟩), .pointer (some ⟨b, 0, none⟩)]
              have t2 := t1.alloc 51 [Value.int .i64 0, .int .i64 0]
              have t3 := t2.alloc 52 [nil3, nil3]
              rw [show ((wd.alloc (.cells [Value.pointer (some ⟨a, 0, none⟩), .pointer (some ⟨b, 0, none⟩)].toArray 23)).alloc (.cells [Value.int .i64 0, .int .i64 0].toArray 51)).heap.size = wd.heap.size + 1 + 1 by simp, show (wd.alloc (.cells [Value.pointer (some ⟨a, 0, none⟩), .pointer (some ⟨b, 0, none⟩)].toArray 23)).heap.size = wd.heap.size + 1 by simp] at t3
              exact (t3.addR (v := nil3) (n := 0) (xs := []) (Below.refl _ _) ⟨rfl, .inl ⟨rfl, rfl⟩⟩).addR (v := nil3) (n := 0) (xs := []) (Below.refl _ _) ⟨rfl, .inl ⟨rfl, rfl⟩⟩
            have b3 : Below wd.heap.size wd (((wd.alloc (.cells [Value.pointer (some ⟨a, 0, none⟩), .pointer (some ⟨b, 0, none⟩)].toArray 23)).alloc (.cells [Value.int .i64 0, .int .i64 0].toArray 51)).alloc (.cells [nil3, nil3].toArray 52)) := (((Below.refl _ _).alloc (Nat.le_refl _) _).alloc (by simp) _).alloc (by simp; omega) _
            have J0 : Hid (ApJ wa a b wd.heap.size (wd.heap.size + 1) (wd.heap.size + 1 + 1) Ta Tb Fa Fb A B 0 _) := Lib.hid t3
            have hgi : wd.heap.size + 1 ≠ wd.heap.size + 1 + 1 := by omega
            clear t3 b3 TK1
            generalize ((wd.alloc (.cells [Value.pointer (some ⟨a, 0, none⟩), .pointer (some ⟨b, 0, none⟩)].toArray 23)).alloc (.cells [Value.int .i64 0, .int .i64 0].toArray 51)).alloc (.cells [nil3, nil3].toArray 52) = w3 at *
            generalize wd.heap.size + 1 + 1 = pi at *
            generalize wd.heap.size + 1 = pg at *
            generalize wd.heap.size = pb at *
            go_loopw [13] (fun i wq => ∃ (j : Nat), j ≤ 2 ∧ i = .int .i64 j ∧ Hid (ApJ wa a b pb pg pi Ta Tb Fa Fb A B j wq)) (fun i _ => 2 - (intOf i).toNat)
            case atStart => exact ⟨0, by omega, rfl, J0⟩
            case round =>
              clear J0 hc1 hbw1
              obtain ⟨j, hj, rfl, HJ⟩ := hrel
              have hbel : Below w.heap.size w wr := Below.down BA.out (show Below wa.heap.size wa wr by
                rcases (show j = 0 ∨ j = 1 ∨ j = 2 by omega) with rfl | rfl | rfl
                · exact (show Tk nos wa _ wr from HJ.out).below
                · obtain ⟨xa, t⟩ := HJ.out; exact Tk.below t
                · obtain ⟨xa, xb, t⟩ := HJ.out; exact Tk.below t) BA.out.size
              obtain ⟨_, _, _, e, hbw, hcell⟩ := sli_at (HV.out.below hbel) k hlt
              simp only [Value.slice.injEq, Option.some.injEq, Addr.mk.injEq] at e
              obtain ⟨⟨rfl, rfl, -⟩, -, -⟩ := e
              rw [HQ.out] at hcell
              clear hbel
              rcases (show j = 0 ∨ j = 1 ∨ j = 2 by omega) with rfl | rfl | rfl
              · as_aux_lemma =>
                  have tk : Tk nos wa (apO a b pb pg pi nil3 nil3 [] [] 0 0 Ta Tb Fa Fb) wr := HJ.out
                  obtain ⟨⟨i0, i1, g0, g1, p0, p1⟩, z0, z1, z2, z3⟩ := ap_at tk
                  have cR := tk_uclear_is (i := 6) (os' := apO a b pb pg pi nil3 nil3 [] [] 0 0 A.T Tb A.F Fb) 0 A.c wr tk rfl (by rw [HA_.out]) (by rw [HA_.out]; rfl)
                  clear tk HJ i0 i1 g0 g1 z0 z1 z2 z3
                  go_wp2_with fail
                  refine cR.mono ?_
                  rintro e w4 ⟨rfl, t4⟩
                  obtain ⟨⟨i0, i1, g0, g1, p0', p1'⟩, z0, z1, z2, z3⟩ := ap_at t4
                  have T4 := Lib.hid t4
                  clear t4 cR hcell
                  go_wp2_with fail
                  refine (num_any _ _).mono ?_
                  rintro e w' ⟨rfl, rfl⟩
                  have J1 : Hid (ApJ wa a b pb pg pi Ta Tb Fa Fb A B 1 (w4.setCell ⟨pg, 0, none⟩ (.int .i64 A.c))) := Lib.hid ⟨nil3, by have := T4.out.apA A.c; rw [show A.L = [] by rw [HA_.out]]; exact this⟩
                  clear T4
                  go_wp2_with fail
                  go_roundw
                  case rel => exact ⟨1, by omega, rfl, J1⟩
                  case measure => simp [intOf]
              · as_aux_lemma =>
                  obtain ⟨xa, tk⟩ := HJ.out
                  replace tk : Tk nos wa (apO a b pb pg pi xa nil3 A.L [] A.c 0 A.T Tb A.F Fb) wr := tk
                  obtain ⟨⟨i0, i1, g0, g1, p0, p1⟩, z0, z1, z2, z3⟩ := ap_at tk
                  have cR := tk_uclear_is (i := 5) (os' := apO a b pb pg pi xa nil3 A.L [] A.c 0 A.T B.T A.F B.F) 0 B.c wr tk rfl (by rw [HB_.out]) (by rw [HB_.out]; rfl)
                  clear tk HJ i0 i1 g0 g1 z0 z1 z2 z3
                  go_wp2_with fail
                  refine cR.mono ?_
                  rintro e w4 ⟨rfl, t4⟩
                  obtain ⟨⟨i0, i1, g0, g1, p0', p1'⟩, z0, z1, z2, z3⟩ := ap_at t4
                  have T4 := Lib.hid t4
                  clear t4 cR hcell
                  go_wp2_with fail
                  refine (num_any _ _).mono ?_
                  rintro e w' ⟨rfl, rfl⟩
                  have J1 : Hid (ApJ wa a b pb pg pi Ta Tb Fa Fb A B 2 (w4.setCell ⟨pg, 1, none⟩ (.int .i64 B.c))) := Lib.hid ⟨xa, nil3, by have := T4.out.apB B.c; rw [show B.L = [] by rw [HB_.out]]; exact this⟩
                  clear T4
                  go_wp2_with fail
                  go_roundw
                  case rel => exact ⟨2, by omega, rfl, J1⟩
                  case measure => simp [intOf]
              · as_aux_lemma =>
                  obtain ⟨xa, xb, tk⟩ := HJ.out
                  replace tk : Tk nos wa (apO a b pb pg pi xa xb A.L B.L A.c B.c A.T B.T A.F B.F) wr := tk
                  obtain ⟨⟨i0, i1, g0, g1, p0, p1⟩, -, -, -, -⟩ := ap_at tk
                  obtain ⟨hIg, hcc, hLL, hl⟩ := HEND.out
                  have cS := same_iqs xa xb A.L.length A.L wr (tk.sl (i := 1) rfl) (by have := tk.sl (i := 0) rfl; rw [← hLL] at this; exact this) rfl (by unfold maxLen; omega)
                  have E5 := Lib.hid (tk.apEnd hIg)
                  rw [← hcc] at g1
                  have hcn : (A.c != A.c) = false := by simp
                  clear tk hIg hcc hLL hl HJ HEND
                  generalize A.c = c at *
                  go_wp2_with fail
                  refine cS.mono ?_
                  clear cS
                  rintro e w' ⟨rfl, q6, rfl⟩
                  have E6 := Lib.hid (E5.out.drewN q6)
                  clear E5 i0 i1 g0 g1 p0 p1
                  generalize World.drewN _ q6 = w5 at *
                  go_wp2_with fail
                  go_roundw
                  case rel => exact ⟨k + 1, by omega, by omega, by go_num, E6⟩
                  case measure => simp [intOf]; omega
        · as_aux_lemma =>
            obtain ⟨A, hA⟩ : ∃ A : Ac, A = ⟨uaC 2 2 Ta 0 v 0, [], Ta, uaF 2 2 Ta Fa 0 v 0⟩ := ⟨_, rfl⟩
            obtain ⟨B, hB⟩ : ∃ B : Ac, B = ⟨uaC 2 2 Tb 0 v 0, [], Tb, uaF 2 2 Tb Fb 0 v 0⟩ := ⟨_, rfl⟩
            have HEND : Hid (Ig A.T B.T A.F B.F ∧ A.c = B.c ∧ A.L = B.L ∧ A.L.length ≤ 32) := Lib.hid (by rw [hA, hB]; exact ⟨HI.out.raise0 hv8, (HI.out.ra hv8).symm, rfl, Nat.zero_le _⟩)
            have HA_ := Lib.hid hA
            have HB_ := Lib.hid hB
            clear hA hB
            go_wp2_with fail
            go_quiet (fail)
            have TK1 := Lib.hid (TK.out.drewN nq)
            have hc1 : (wr.drewN nq).cell? ⟨gs, o + k, none⟩ = some (.int .i64 q) := hcell
            have hbw1 : gs < (wr.drewN nq).heap.size := hbw
            have BW := Lib.hid (bdrewN HS.out nq)
            have hgs : gs < wa.heap.size ∨ True := .inr trivial
            clear TK hP' hV' hcell hbw HS hgs
            generalize wr.drewN nq = wd at *
            go_wp2_with fail
            change Code.wp _ _ _ _ (((wd.alloc (.cells [Value.pointer (some ⟨a, 0, none⟩), .pointer (some ⟨b, 0, none⟩)].toArray 23)).alloc (.cells [Value.int .i64 0, .int .i64 0].toArray 51)).alloc (.cells [nil3, nil3].toArray 52))
            have t3 : Tk nos wa (apO a b wd.heap.size (wd.heap.size + 1) (wd.heap.size + 1 + 1) nil3 nil3 [] [] 0 0 Ta Tb Fa Fb) (((wd.alloc (.cells [Value.pointer (some ⟨a, 0, none⟩), .pointer (some ⟨b, 0, none⟩)].toArray 23)).alloc (.cells [Value.int .i64 0, .int .i64 0].toArray 51)).alloc (.cells [nil3, nil3].toArray 52)) := by
              have t1 := TK1.out.alloc 23 [Value.pointer (some ⟨a, 0, none⟩), .pointer (some ⟨b, 0, none⟩)]
              have t2 := t1.alloc 51 [Value.int .i64 0, .int .i64 0]
              have t3 := t2.alloc 52 [nil3, nil3]
              rw [show ((wd.alloc (.cells [Value.pointer (some ⟨a, 0, none⟩), .pointer (some ⟨b, 0, none⟩)].toArray 23)).alloc (.cells [Value.int .i64 0, .int .i64 0].toArray 51)).heap.size = wd.heap.size + 1 + 1 by simp, show (wd.alloc (.cells [Value.pointer (some ⟨a, 0, none⟩), .pointer (some ⟨b, 0, none⟩)].toArray 23)).heap.size = wd.heap.size + 1 by simp] at t3
              exact (t3.addR (v := nil3) (n := 0) (xs := []) (Below.refl _ _) ⟨rfl, .inl ⟨rfl, rfl⟩⟩).addR (v := nil3) (n := 0) (xs := []) (Below.refl _ _) ⟨rfl, .inl ⟨rfl, rfl⟩⟩
            have b3 : Below wd.heap.size wd (((wd.alloc (.cells [Value.pointer (some ⟨a, 0, none⟩), .pointer (some ⟨b, 0, none⟩)].toArray 23)).alloc (.cells [Value.int .i64 0, .int .i64 0].toArray 51)).alloc (.cells [nil3, nil3].toArray 52)) := (((Below.refl _ _).alloc (Nat.le_refl _) _).alloc (by simp) _).alloc (by simp; omega) _
            have J0 : Hid (ApJ wa a b wd.heap.size (wd.heap.size + 1) (wd.heap.size + 1 + 1) Ta Tb Fa Fb A B 0 _) := Lib.hid t3
            have hgi : wd.heap.size + 1 ≠ wd.heap.size + 1 + 1 := by omega
            clear t3 b3 TK1
            generalize ((wd.alloc (.cells [Value.pointer (some ⟨a, 0, none⟩), .pointer (some ⟨b, 0, none⟩)].toArray 23)).alloc (.cells [Value.int .i64 0, .int .i64 0].toArray 51)).alloc (.cells [nil3, nil3].toArray 52) = w3 at *
            generalize wd.heap.size + 1 + 1 = pi at *
            generalize wd.heap.size + 1 = pg at *
            generalize wd.heap.size = pb at *
            go_loopw [13] (fun i wq => ∃ (j : Nat), j ≤ 2 ∧ i = .int .i64 j ∧ Hid (ApJ wa a b pb pg pi Ta Tb Fa Fb A B j wq)) (fun i _ => 2 - (intOf i).toNat)
            case atStart => exact ⟨0, by omega, rfl, J0⟩
            case round =>
              clear J0 hc1 hbw1
              obtain ⟨j, hj, rfl, HJ⟩ := hrel
              have hbel : Below w.heap.size w wr := Below.down BA.out (show Below wa.heap.size wa wr by
                rcases (show j = 0 ∨ j = 1 ∨ j = 2 by omega) with rfl | rfl | rfl
                · exact (show Tk nos wa _ wr from HJ.out).below
                · obtain ⟨xa, t⟩ := HJ.out; exact Tk.below t
                · obtain ⟨xa, xb, t⟩ := HJ.out; exact Tk.below t) BA.out.size
              obtain ⟨_, _, _, e, hbw, hcell⟩ := sli_at (HV.out.below hbel) k hlt
              simp only [Value.slice.injEq, Option.some.injEq, Addr.mk.injEq] at e
              obtain ⟨⟨rfl, rfl, -⟩, -, -⟩ := e
              rw [HQ.out] at hcell
              clear hbel
              rcases (show j = 0 ∨ j = 1 ∨ j = 2 by omega) with rfl | rfl | rfl
              · as_aux_lemma =>
                  have tk : Tk nos wa (apO a b pb pg pi nil3 nil3 [] [] 0 0 Ta Tb Fa Fb) wr := HJ.out
                  obtain ⟨⟨i0, i1, g0, g1, p0, p1⟩, z0, z1, z2, z3⟩ := ap_at tk
                  have cR := tk_uraise_is (i := 6) (os' := apO a b pb pg pi nil3 nil3 [] [] 0 0 A.T Tb A.F Fb) 0 v 0 A.c wr tk rfl (by rw [HA_.out]) (by rw [HA_.out]; rfl)
                  clear tk HJ i0 i1 g0 g1 z0 z1 z2 z3
                  go_wp2_with fail
                  refine cR.mono ?_
                  rintro e w4 ⟨rfl, t4⟩
                  obtain ⟨⟨i0, i1, g0, g1, p0', p1'⟩, z0, z1, z2, z3⟩ := ap_at t4
                  have T4 := Lib.hid t4
                  clear t4 cR hcell
                  go_wp2_with fail
                  refine (num_any _ _).mono ?_
                  rintro e w' ⟨rfl, rfl⟩
                  have J1 : Hid (ApJ wa a b pb pg pi Ta Tb Fa Fb A B 1 (w4.setCell ⟨pg, 0, none⟩ (.int .i64 A.c))) := Lib.hid ⟨nil3, by have := T4.out.apA A.c; rw [show A.L = [] by rw [HA_.out]]; exact this⟩
                  clear T4
                  go_wp2_with fail
                  go_roundw
                  case rel => exact ⟨1, by omega, rfl, J1⟩
                  case measure => simp [intOf]
              · as_aux_lemma =>
                  obtain ⟨xa, tk⟩ := HJ.out
                  replace tk : Tk nos wa (apO a b pb pg pi xa nil3 A.L [] A.c 0 A.T Tb A.F Fb) wr := tk
                  obtain ⟨⟨i0, i1, g0, g1, p0, p1⟩, z0, z1, z2, z3⟩ := ap_at tk
                  have cR := tk_uraise_is (i := 5) (os' := apO a b pb pg pi xa nil3 A.L [] A.c 0 A.T B.T A.F B.F) 0 v 0 B.c wr tk rfl (by rw [HB_.out]) (by rw [HB_.out]; rfl)
                  clear tk HJ i0 i1 g0 g1 z0 z1 z2 z3
                  go_wp2_with fail
                  refine cR.mono ?_
                  rintro e w4 ⟨rfl, t4⟩
                  obtain ⟨⟨i0, i1, g0, g1, p0', p1'⟩, z0, z1, z2, z3⟩ := ap_at t4
                  have T4 := Lib.hid t4
                  clear t4 cR hcell
                  go_wp2_with fail
                  refine (num_any _ _).mono ?_
                  rintro e w' ⟨rfl, rfl⟩
                  have J1 : Hid (ApJ wa a b pb pg pi Ta Tb Fa Fb A B 2 (w4.setCell ⟨pg, 1, none⟩ (.int .i64 B.c))) := Lib.hid ⟨xa, nil3, by have := T4.out.apB B.c; rw [show B.L = [] by rw [HB_.out]]; exact this⟩
                  clear T4
                  go_wp2_with fail
                  go_roundw
                  case rel => exact ⟨2, by omega, rfl, J1⟩
                  case measure => simp [intOf]
              · as_aux_lemma =>
                  obtain ⟨xa, xb, tk⟩ := HJ.out
                  replace tk : Tk nos wa (apO a b pb pg pi xa xb A.L B.L A.c B.c A.T B.T A.F B.F) wr := tk
                  obtain ⟨⟨i0, i1, g0, g1, p0, p1⟩, -, -, -, -⟩ := ap_at tk
                  obtain ⟨hIg, hcc, hLL, hl⟩ := HEND.out
                  have cS := same_iqs xa xb A.L.length A.L wr (tk.sl (i := 1) rfl) (by have := tk.sl (i := 0) rfl; rw [← hLL] at this; exact this) rfl (by unfold maxLen; omega)
                  have E5 := Lib.hid (tk.apEnd hIg)
                  rw [← hcc] at g1
                  have hcn : (A.c != A.c) = false := by simp
                  clear tk hIg hcc hLL hl HJ HEND
                  generalize A.c = c at *
                  go_wp2_with fail
                  refine cS.mono ?_
                  clear cS
                  rintro e w' ⟨rfl, q6, rfl⟩
                  have E6 := Lib.hid (E5.out.drewN q6)
                  clear E5 i0 i1 g0 g1 p0 p1
                  generalize World.drewN _ q6 = w5 at *
                  go_wp2_with fail
                  go_roundw
                  case rel => exact ⟨k + 1, by omega, by omega, by go_num, E6⟩
                  case measure => simp [intOf]; omega
        · as_aux_lemma =>
            obtain ⟨A, hA⟩ : ∃ A : Ac, A = ⟨uaC 2 2 Ta 0 v 0, [], Ta, uaF 2 2 Ta Fa 0 v 0⟩ := ⟨_, rfl⟩
            obtain ⟨B, hB⟩ : ∃ B : Ac, B = ⟨uaC 2 2 Tb 0 v 0, [], Tb, uaF 2 2 Tb Fb 0 v 0⟩ := ⟨_, rfl⟩
            have HEND : Hid (Ig A.T B.T A.F B.F ∧ A.c = B.c ∧ A.L = B.L ∧ A.L.length ≤ 32) := Lib.hid (by rw [hA, hB]; exact ⟨HI.out.raise0 hv8, (HI.out.ra hv8).symm, rfl, Nat.zero_le _⟩)
            have HA_ := Lib.hid hA
            have HB_ := Lib.hid hB
            clear hA hB
            go_wp2_with fail
            go_quiet (fail)
            have TK1 := Lib.hid (TK.out.drewN nq)
            have hc1 : (wr.drewN nq).cell? ⟨gs, o + k, none⟩ = some (.int .i64 q) := hcell
            have hbw1 : gs < (wr.drewN nq).heap.size := hbw
            have BW := Lib.hid (bdrewN HS.out nq)
            have hgs : gs < wa.heap.size ∨ True := .inr trivial
            clear TK hP' hV' hcell hbw HS hgs
            generalize wr.drewN nq = wd at *
            go_wp2_with fail
            change Code.wp _ _ _ _ (((wd.alloc (.cells [Value.pointer (some ⟨a, 0, none⟩), .pointer (some ⟨b, 0, none⟩)].toArray 23)).alloc (.cells [Value.int .i64 0, .int .i64 0].toArray 51)).alloc (.cells [nil3, nil3].toArray 52))
            have t3 : Tk nos wa (apO a b wd.heap.size (wd.heap.size + 1) (wd.heap.size + 1 + 1) nil3 nil3 [] [] 0 0 Ta Tb Fa Fb) (((wd.alloc (.cells [Value.pointer (some ⟨a, 0, none⟩), .pointer (some ⟨b, 0, none⟩)].toArray 23)).alloc (.cells [Value.int .i64 0, .int .i64 0].toArray 51)).alloc (.cells [nil3, nil3].toArray 52)) := by
              have t1 := TK1.out.alloc 23 [Value.pointer (some ⟨a, 0, none⟩), .pointer (some ⟨b, 0, none⟩)]
              have t2 := t1.alloc 51 [Value.int .i64 0, .int .i64 0]
              have t3 := t2.alloc 52 [nil3, nil3]
              rw [show ((wd.alloc (.cells [Value.pointer (some ⟨a, 0, none⟩), .pointer (some ⟨b, 0, none⟩)].toArray 23)).alloc (.cells [Value.int .i64 0, .int .i64 0].toArray 51)).heap.size = wd.heap.size + 1 + 1 by simp, show (wd.alloc (.cells [Value.pointer (some ⟨a, 0, none⟩), .pointer (some ⟨b, 0, none⟩)].toArray 23)).heap.size = wd.heap.size + 1 by simp] at t3
              exact (t3.addR (v := nil3) (n := 0) (xs := []) (Below.refl _ _) ⟨rfl, .inl ⟨rfl, rfl⟩⟩).addR (v := nil3) (n := 0) (xs := []) (Below.refl _ _) ⟨rfl, .inl ⟨rfl, rfl⟩⟩
            have b3 : Below wd.heap.size wd (((wd.alloc (.cells [Value.pointer (some ⟨a, 0, none⟩), .pointer (some ⟨b, 0, none⟩)].toArray 23)).alloc (.cells [Value.int .i64 0, .int .i64 0].toArray 51)).alloc (.cells [nil3, nil3].toArray 52)) := (((Below.refl _ _).alloc (Nat.le_refl _) _).alloc (by simp) _).alloc (by simp; omega) _
            have J0 : Hid (ApJ wa a b wd.heap.size (wd.heap.size + 1) (wd.heap.size + 1 + 1) Ta Tb Fa Fb A B 0 _) := Lib.hid t3
            have hgi : wd.heap.size + 1 ≠ wd.heap.size + 1 + 1 := by omega
            clear t3 b3 TK1
            generalize ((wd.alloc (.cells [Value.pointer (some ⟨a, 0, none⟩), .pointer (some ⟨b, 0, none⟩)].toArray 23)).alloc (.cells [Value.int .i64 0, .int .i64 0].toArray 51)).alloc (.cells [nil3, nil3].toArray 52) = w3 at *
            generalize wd.heap.size + 1 + 1 = pi at *
            generalize wd.heap.size + 1 = pg at *
            generalize wd.heap.size = pb at *
            go_loopw [13] (fun i wq => ∃ (j : Nat), j ≤ 2 ∧ i = .int .i64 j ∧ Hid (ApJ wa a b pb pg pi Ta Tb Fa Fb A B j wq)) (fun i _ => 2 - (intOf i).toNat)
            case atStart => exact ⟨0, by omega, rfl, J0⟩
            case round =>
              clear J0 hc1 hbw1
              obtain ⟨j, hj, rfl, HJ⟩ := hrel
              have hbel : Below w.heap.size w wr := Below.down BA.out (show Below wa.heap.size wa wr by
                rcases (show j = 0 ∨ j = 1 ∨ j = 2 by omega) with rfl | rfl | rfl
                · exact (show Tk nos wa _ wr from HJ.out).below
                · obtain ⟨xa, t⟩ := HJ.out; exact Tk.below t
                · obtain ⟨xa, xb, t⟩ := HJ.out; exact Tk.below t) BA.out.size
              obtain ⟨_, _, _, e, hbw, hcell⟩ := sli_at (HV.out.below hbel) k hlt
              simp only [Value.slice.injEq, Option.some.injEq, Addr.mk.injEq] at e
              obtain ⟨⟨rfl, rfl, -⟩, -, -⟩ := e
              rw [HQ.out] at hcell
              clear hbel
              rcases (show j = 0 ∨ j = 1 ∨ j = 2 by omega) with rfl | rfl | rfl
              · as_aux_lemma =>
                  have tk : Tk nos wa (apO a b pb pg pi nil3 nil3 [] [] 0 0 Ta Tb Fa Fb) wr := HJ.out
                  obtain ⟨⟨i0, i1, g0, g1, p0, p1⟩, z0, z1, z2, z3⟩ := ap_at tk
                  have cR := tk_uraise_is (i := 6) (os' := apO a b pb pg pi nil3 nil3 [] [] 0 0 A.T Tb A.F Fb) 0 v 0 A.c wr tk rfl (by rw [HA_.out]) (by rw [HA_.out]; rfl)
                  clear tk HJ i0 i1 g0 g1 z0 z1 z2 z3
                  go_wp2_with fail
                  refine cR.mono ?_
                  rintro e w4 ⟨rfl, t4⟩
                  obtain ⟨⟨i0, i1, g0, g1, p0', p1'⟩, z0, z1, z2, z3⟩ := ap_at t4
                  have T4 := Lib.hid t4
                  clear t4 cR hcell
                  go_wp2_with fail
                  refine (num_any _ _).mono ?_
                  rintro e w' ⟨rfl, rfl⟩
                  have J1 : Hid (ApJ wa a b pb pg pi Ta Tb Fa Fb A B 1 (w4.setCell ⟨pg, 0, none⟩ (.int .i64 A.c))) := Lib.hid ⟨nil3, by have := T4.out.apA A.c; rw [show A.L = [] by rw [HA_.out]]; exact this⟩
                  clear T4
                  go_wp2_with fail
                  go_roundw
                  case rel => exact ⟨1, by omega, rfl, J1⟩
                  case measure => simp [intOf]
              · as_aux_lemma =>
                  obtain ⟨xa, tk⟩ := HJ.out
                  replace tk : Tk nos wa (apO a b pb pg pi xa nil3 A.L [] A.c 0 A.T Tb A.F Fb) wr := tk
                  obtain ⟨⟨i0, i1, g0, g1, p0, p1⟩, z0, z1, z2, z3⟩ := ap_at tk
                  have cR := tk_uraise_is (i := 5) (os' := apO a b pb pg pi xa nil3 A.L [] A.c 0 A.T B.T A.F B.F) 0 v 0 B.c wr tk rfl (by rw [HB_.out]) (by rw [HB_.out]; rfl)
                  clear tk HJ i0 i1 g0 g1 z0 z1 z2 z3
                  go_wp2_with fail
                  refine cR.mono ?_
                  rintro e w4 ⟨rfl, t4⟩
                  obtain ⟨⟨i0, i1, g0, g1, p0', p1'⟩, z0, z1, z2, z3⟩ := ap_at t4
                  have T4 := Lib.hid t4
                  clear t4 cR hcell
                  go_wp2_with fail
                  refine (num_any _ _).mono ?_
                  rintro e w' ⟨rfl, rfl⟩
                  have J1 : Hid (ApJ wa a b pb pg pi Ta Tb Fa Fb A B 2 (w4.setCell ⟨pg, 1, none⟩ (.int .i64 B.c))) := Lib.hid ⟨xa, nil3, by have := T4.out.apB B.c; rw [show B.L = [] by rw [HB_.out]]; exact this⟩
                  clear T4
                  go_wp2_with fail
                  go_roundw
                  case rel => exact ⟨2, by omega, rfl, J1⟩
                  case measure => simp [intOf]
              · as_aux_lemma =>
                  obtain ⟨xa, xb, tk⟩ := HJ.out
                  replace tk : Tk nos wa (apO a b pb pg pi xa xb A.L B.L A.c B.c A.T B.T A.F B.F) wr := tk
                  obtain ⟨⟨i0, i1, g0, g1, p0, p1⟩, -, -, -, -⟩ := ap_at tk
                  obtain ⟨hIg, hcc, hLL, hl⟩ := HEND.out
                  have cS := same_iqs xa xb A.L.length A.L wr (tk.sl (i := 1) rfl) (by have := tk.sl (i := 0) rfl; rw [← hLL] at this; exact this) rfl (by unfold maxLen; omega)
                  have E5 := Lib.hid (tk.apEnd hIg)
                  rw [← hcc] at g1
                  have hcn : (A.c != A.c) = false := by simp
                  clear tk hIg hcc hLL hl HJ HEND
                  generalize A.c = c at *
                  go_wp2_with fail
                  refine cS.mono ?_
                  clear cS
                  rintro e w' ⟨rfl, q6, rfl⟩
                  have E6 := Lib.hid (E5.out.drewN q6)
                  clear E5 i0 i1 g0 g1 p0 p1
                  generalize World.drewN _ q6 = w5 at *
                  go_wp2_with fail
                  go_roundw
                  case rel => exact ⟨k + 1, by omega, by omega, by go_num, E6⟩
                  case measure => simp [intOf]; omega
      · clear hP
        rcases (show K = 0 ∨ K = 1 ∨ K = 2 ∨ K = 3 ∨ K = 4 ∨ K = 5 ∨ K = 6 ∨ K = 7 by omega) with rfl | rfl | rfl | rfl | rfl | rfl | rfl | rfl
        · as_aux_lemma =>
            obtain ⟨A, hA⟩ : ∃ A : Ac, A = ⟨urC 2 2 1 v 1, [], urT 2 2 Ta 1 v 1, Fa⟩ := ⟨_, rfl⟩
            obtain ⟨B, hB⟩ : ∃ B : Ac, B = ⟨0, [], [], noF⟩ := ⟨_, rfl⟩
            have HEND : Hid (Ig A.T Tb A.F Fb) := Lib.hid (by rw [hA]; exact HI.out.route1 hv8)
            have HA_ := Lib.hid hA
            clear hA hB
            go_wp2_with fail
            go_quiet (fail)
            have TK1 := Lib.hid (TK.out.drewN nq)
            have hc1 : (wr.drewN nq).cell? ⟨gs, o + k, none⟩ = some (.int .i64 q) := hcell
            have hbw1 : gs < (wr.drewN nq).heap.size := hbw
            have BW := Lib.hid (bdrewN HS.out nq)
            have hgs : gs < wa.heap.size ∨ True := .inr trivial
            clear TK hP' hV' hcell hbw HS hgs
            generalize wr.drewN nq = wd at *
            go_wp2_with fail
            change Code.wp _ _ _ _ (((wd.alloc (.cells [Value.pointer (some ⟨a, 0, none⟩), .pointer (some ⟨b, 0, none⟩)].toArray 23)).alloc (.cells [Value.int .i64 0, .int .i64 0].toArray 51)).alloc (.cells [nil3, nil3].toArray 52))
            have t3 : Tk nos wa (apO a b wd.heap.size (wd.heap.size + 1) (wd.heap.size + 1 + 1) nil3 nil3 [] [] 0 0 Ta Tb Fa Fb) (((wd.alloc (.cells [Value.pointer (some ⟨a, 0, none⟩), .pointer (some ⟨b, 0, none⟩)].toArray 23)).alloc (.cells [Value.int .i64 0, .int .i64 0].toArray 51)).alloc (.cells [nil3, nil3].toArray 52)) := by
              have t1 := TK1.out.alloc 23 [Value.pointer (some ⟨a, 0, none⟩), .pointer (some ⟨b, 0, none⟩)]
              have t2 := t1.alloc 51 [Value.int .i64 0, .int .i64 0]
              have t3 := t2.alloc 52 [nil3, nil3]
              rw [show ((wd.alloc (.cells [Value.pointer (some ⟨a, 0, none⟩), .pointer (some ⟨b, 0, none⟩)].toArray 23)).alloc (.cells [Value.int .i64 0, .int .i64 0].toArray 51)).heap.size = wd.heap.size + 1 + 1 by simp, show (wd.alloc (.cells [Value.pointer (some ⟨a, 0, none⟩), .pointer (some ⟨b, 0, none⟩)].toArray 23)).heap.size = wd.heap.size + 1 by simp] at t3
              exact (t3.addR (v := nil3) (n := 0) (xs := []) (Below.refl _ _) ⟨rfl, .inl ⟨rfl, rfl⟩⟩).addR (v := nil3) (n := 0) (xs := []) (Below.refl _ _) ⟨rfl, .inl ⟨rfl, rfl⟩⟩
            have b3 : Below wd.heap.size wd (((wd.alloc (.cells [Value.pointer (some ⟨a, 0, none⟩), .pointer (some ⟨b, 0, none⟩)].toArray 23)).alloc (.cells [Value.int .i64 0, .int .i64 0].toArray 51)).alloc (.cells [nil3, nil3].toArray 52)) := (((Below.refl _ _).alloc (Nat.le_refl _) _).alloc (by simp) _).alloc (by simp; omega) _
            have J0 : Hid (ApJ wa a b wd.heap.size (wd.heap.size + 1) (wd.heap.size + 1 + 1) Ta Tb Fa Fb A B 0 _) := Lib.hid t3
            have hgi : wd.heap.size + 1 ≠ wd.heap.size + 1 + 1 := by omega
            clear t3 b3 TK1
            generalize ((wd.alloc (.cells [Value.pointer (some ⟨a, 0, none⟩), .pointer (some ⟨b, 0, none⟩)].toArray 23)).alloc (.cells [Value.int .i64 0, .int .i64 0].toArray 51)).alloc (.cells [nil3, nil3].toArray 52) = w3 at *
            generalize wd.heap.size + 1 + 1 = pi at *
            generalize wd.heap.size + 1 = pg at *
            generalize wd.heap.size = pb at *
            go_loopw [13] (fun i wq => ∃ (j : Nat), j ≤ 1 ∧ i = .int .i64 j ∧ Hid (ApJ wa a b pb pg pi Ta Tb Fa Fb A B j wq)) (fun i _ => 1 - (intOf i).toNat)
            case atStart => exact ⟨0, by omega, rfl, J0⟩
            case round =>
              clear J0 hc1 hbw1
              obtain ⟨j, hj, rfl, HJ⟩ := hrel
              have hbel : Below w.heap.size w wr := Below.down BA.out (show Below wa.heap.size wa wr by
                rcases (show j = 0 ∨ j = 1 ∨ j = 2 by omega) with rfl | rfl | rfl
                · exact (show Tk nos wa _ wr from HJ.out).below
                · obtain ⟨xa, t⟩ := HJ.out; exact Tk.below t
                · obtain ⟨xa, xb, t⟩ := HJ.out; exact Tk.below t) BA.out.size
              obtain ⟨_, _, _, e, hbw, hcell⟩ := sli_at (HV.out.below hbel) k hlt
              simp only [Value.slice.injEq, Option.some.injEq, Addr.mk.injEq] at e
              obtain ⟨⟨rfl, rfl, -⟩, -, -⟩ := e
              rw [HQ.out] at hcell
              clear hbel
              rcases (show j = 0 ∨ j = 1 by omega) with rfl | rfl
              · as_aux_lemma =>
                  have tk : Tk nos wa (apO a b pb pg pi nil3 nil3 [] [] 0 0 Ta Tb Fa Fb) wr := HJ.out
                  obtain ⟨⟨i0, i1, g0, g1, p0, p1⟩, z0, z1, z2, z3⟩ := ap_at tk
                  have cR := tk_uroute_is (i := 6) (os' := apO a b pb pg pi nil3 nil3 [] [] 0 0 A.T Tb A.F Fb) 1 v 1 A.c wr tk rfl (by rw [HA_.out]) (by rw [HA_.out]; rfl)
                  clear tk HJ i0 i1 g0 g1 z0 z1 z2 z3
                  go_wp2_with fail
                  refine cR.mono ?_
                  rintro e w4 ⟨rfl, t4⟩
                  obtain ⟨⟨i0, i1, g0, g1, p0', p1'⟩, z0, z1, z2, z3⟩ := ap_at t4
                  have T4 := Lib.hid t4
                  clear t4 cR hcell
                  go_wp2_with fail
                  refine (num_any _ _).mono ?_
                  rintro e w' ⟨rfl, rfl⟩
                  have J1 : Hid (ApJ wa a b pb pg pi Ta Tb Fa Fb A B 1 (w4.setCell ⟨pg, 0, none⟩ (.int .i64 A.c))) := Lib.hid ⟨nil3, by have := T4.out.apA A.c; rw [show A.L = [] by rw [HA_.out]]; exact this⟩
                  clear T4
                  go_wp2_with fail
                  go_roundw
                  case rel => exact ⟨1, by omega, rfl, J1⟩
                  case measure => simp [intOf]
              · as_aux_lemma =>
                  obtain ⟨xa, tk⟩ := HJ.out
                  replace tk : Tk nos wa (apO a b pb pg pi xa nil3 A.L [] A.c 0 A.T Tb A.F Fb) wr := tk
                  have E5 := Lib.hid (tk.apEnd HEND.out)
                  clear tk HJ HEND
                  go_wp2_with fail
                  go_roundw
                  case rel => exact ⟨k + 1, by omega, by omega, by go_num, E5⟩
                  case measure => simp [intOf]; omega
        · as_aux_lemma =>
            obtain ⟨A, hA⟩ : ∃ A : Ac, A = ⟨urC 2 2 1 v 1, [], urT 2 2 Ta 1 v 1, Fa⟩ := ⟨_, rfl⟩
            obtain ⟨B, hB⟩ : ∃ B : Ac, B = ⟨0, [], [], noF⟩ := ⟨_, rfl⟩
            have HEND : Hid (Ig A.T Tb A.F Fb) := Lib.hid (by rw [hA]; exact HI.out.route1 hv8)
            have HA_ := Lib.hid hA
            clear hA hB
            go_wp2_with fail
            go_quiet (fail)
            have TK1 := Lib.hid (TK.out.drewN nq)
            have hc1 : (wr.drewN nq).cell? ⟨gs, o + k, none⟩ = some (.int .i64 q) := hcell
            have hbw1 : gs < (wr.drewN nq).heap.size := hbw
            have BW := Lib.hid (bdrewN HS.out nq)
            have hgs : gs < wa.heap.size ∨ True := .inr trivial
            clear TK hP' hV' hcell hbw HS hgs
            generalize wr.drewN nq = wd at *
            go_wp2_with fail
            change Code.wp _ _ _ _ (((wd.alloc (.cells [Value.pointer (some ⟨a, 0, none⟩), .pointer (some ⟨b, 0, none⟩)].toArray 23)).alloc (.cells [Value.int .i64 0, .int .i64 0].toArray 51)).alloc (.cells [nil3, nil3].toArray 52))
            have t3 : Tk nos wa (apO a b wd.heap.size (wd.heap.size + 1) (wd.heap.size + 1 + 1) nil3 nil3 [] [] 0 0 Ta Tb Fa Fb) (((wd.alloc (.cells [Value.pointer (some ⟨a, 0, none⟩), .pointer (some ⟨b, 0, none⟩)].toArray 23)).alloc (.cells [Value.int .i64 0, .int .i64 0].toArray 51)).alloc (.cells [nil3, nil3].toArray 52)) := by
              have t1 := TK1.out.alloc 23 [Value.pointer (some ⟨a, 0, none⟩), .pointer (some ⟨b, 0, none⟩)]
              have t2 := t1.alloc 51 [Value.int .i64 0, .int .i64 0]
              have t3 := t2.alloc 52 [nil3, nil3]
              rw [show ((wd.alloc (.cells [Value.pointer (some ⟨a, 0, none⟩), .pointer (some ⟨b, 0, none⟩)].toArray 23)).alloc (.cells [Value.int .i64 0, .int .i64 0].toArray 51)).heap.size = wd.heap.size + 1 + 1 by simp, show (wd.alloc (.cells [Value.pointer (some ⟨a, 0, none⟩), .pointer (some ⟨b, 0, none⟩)].toArray 23)).heap.size = wd.heap.size + 1 by simp] at t3
              exact (t3.addR (v := nil3) (n := 0) (xs := []) (Below.refl _ _) ⟨rfl, .inl ⟨rfl, rfl⟩⟩).addR (v := nil3) (n := 0) (xs := []) (Below.refl _ _) ⟨rfl, .inl ⟨rfl, rfl⟩⟩
            have b3 : Below wd.heap.size wd (((wd.alloc (.cells [Value.pointer (some ⟨a, 0, none⟩), .pointer (some ⟨b, 0, none⟩)].toArray 23)).alloc (.cells [Value.int .i64 0, .int .i64 0].toArray 51)).alloc (.cells [nil3, nil3].toArray 52)) := (((Below.refl _ _).alloc (Nat.le_refl _) _).alloc (by simp) _).alloc (by simp; omega) _
            have J0 : Hid (ApJ wa a b wd.heap.size (wd.heap.size + 1) (wd.heap.size + 1 + 1) Ta Tb Fa Fb A B 0 _) := Lib.hid t3
            have hgi : wd.heap.size + 1 ≠ wd.heap.size + 1 + 1 := by omega
            clear t3 b3 TK1
            generalize ((wd.alloc (.cells [Value.pointer (some ⟨a, 0, none⟩), .pointer (some ⟨b, 0, none⟩)].toArray 23)).alloc (.cells [Value.int .i64 0, .int .i64 0].toArray 51)).alloc (.cells [nil3, nil3].toArray 52) = w3 at *
            generalize wd.heap.size + 1 + 1 = pi at *
            generalize wd.heap.size + 1 = pg at *
            generalize wd.heap.size = pb at *
            go_loopw [13] (fun i wq => ∃ (j : Nat), j ≤ 1 ∧ i = .int .i64 j ∧ Hid (ApJ wa a b pb pg pi Ta Tb Fa Fb A B j wq)) (fun i _ => 1 - (intOf i).toNat)
            case atStart => exact ⟨0, by omega, rfl, J0⟩
            case round =>
              clear J0 hc1 hbw1
              obtain ⟨j, hj, rfl, HJ⟩ := hrel
              have hbel : Below w.heap.size w wr := Below.down BA.out (show Below wa.heap.size wa wr by
                rcases (show j = 0 ∨ j = 1 ∨ j = 2 by omega) with rfl | rfl | rfl
                · exact (show Tk nos wa _ wr from HJ.out).below
                · obtain ⟨xa, t⟩ := HJ.out; exact Tk.below t
                · obtain ⟨xa, xb, t⟩ := HJ.out; exact Tk.below t) BA.out.size
              obtain ⟨_, _, _, e, hbw, hcell⟩ := sli_at (HV.out.below hbel) k hlt
              simp only [Value.slice.injEq, Option.some.injEq, Addr.mk.injEq] at e
              obtain ⟨⟨rfl, rfl, -⟩, -, -⟩ := e
              rw [HQ.out] at hcell
              clear hbel
              rcases (show j = 0 ∨ j = 1 by omega) with rfl | rfl
              · as_aux_lemma =>
                  have tk : Tk nos wa (apO a b pb pg pi nil3 nil3 [] [] 0 0 Ta Tb Fa Fb) wr := HJ.out
                  obtain ⟨⟨i0, i1, g0, g1, p0, p1⟩, z0, z1, z2, z3⟩ := ap_at tk
                  have cR := tk_uroute_is (i := 6) (os' := apO a b pb pg pi nil3 nil3 [] [] 0 0 A.T Tb A.F Fb) 1 v 1 A.c wr tk rfl (by rw [HA_.out]) (by rw [HA_.out]; rfl)
                  clear tk HJ i0 i1 g0 g1 z0 z1 z2 z3
                  go_wp2_with fail
                  refine cR.mono ?_
                  rintro e w4 ⟨rfl, t4⟩
                  obtain ⟨⟨i0, i1, g0, g1, p0', p1'⟩, z0, z1, z2, z3⟩ := ap_at t4
                  have T4 := Lib.hid t4
                  clear t4 cR hcell
                  go_wp2_with fail
                  refine (num_any _ _).mono ?_
                  rintro e w' ⟨rfl, rfl⟩
                  have J1 : Hid (ApJ wa a b pb pg pi Ta Tb Fa Fb A B 1 (w4.setCell ⟨pg, 0, none⟩ (.int .i64 A.c))) := Lib.hid ⟨nil3, by have := T4.out.apA A.c; rw [show A.L = [] by rw [HA_.out]]; exact this⟩
                  clear T4
                  go_wp2_with fail
                  go_roundw
                  case rel => exact ⟨1, by omega, rfl, J1⟩
                  case measure => simp [intOf]
              · as_aux_lemma =>
                  obtain ⟨xa, tk⟩ := HJ.out
                  replace tk : Tk nos wa (apO a b pb pg pi xa nil3 A.L [] A.c 0 A.T Tb A.F Fb) wr := tk
                  have E5 := Lib.hid (tk.apEnd HEND.out)
                  clear tk HJ HEND
                  go_wp2_with fail
                  go_roundw
                  case rel => exact ⟨k + 1, by omega, by omega, by go_num, E5⟩
                  case measure => simp [intOf]; omega
        · as_aux_lemma =>
            obtain ⟨A, hA⟩ : ∃ A : Ac, A = ⟨uuC 2 Ta 1 v, [], ruT 2 Ta 1 v, uuF 2 2 Ta Fa 1 v⟩ := ⟨_, rfl⟩
            obtain ⟨B, hB⟩ : ∃ B : Ac, B = ⟨0, [], [], noF⟩ := ⟨_, rfl⟩
            have HEND : Hid (Ig A.T Tb A.F Fb) := Lib.hid (by rw [hA]; exact HI.out.un1 hv8)
            have HA_ := Lib.hid hA
            clear hA hB
            go_wp2_with fail
            go_quiet (fail)
            have TK1 := Lib.hid (TK.out.drewN nq)
            have hc1 : (wr.drewN nq).cell? ⟨gs, o + k, none⟩ = some (.int .i64 q) := hcell
            have hbw1 : gs < (wr.drewN nq).heap.size := hbw
            have BW := Lib.hid (bdrewN HS.out nq)
            have hgs : gs < wa.heap.size ∨ True := .inr trivial
            clear TK hP' hV' hcell hbw HS hgs
            generalize wr.drewN nq = wd at *
            go_wp2_with fail
            change Code.wp _ _ _ _ (((wd.alloc (.cells [Value.pointer (some ⟨a, 0, none⟩), .pointer (some ⟨b, 0, none⟩)].toArray 23)).alloc (.cells [Value.int .i64 0, .int .i64 0].toArray 51)).alloc (.cells [nil3, nil3].toArray 52))
            have t3 : Tk nos wa (apO a b wd.heap.size (wd.heap.size + 1) (wd.heap.size + 1 + 1) nil3 nil3 [] [] 0 0 Ta Tb Fa Fb) (((wd.alloc (.cells [Value.pointer (some ⟨a, 0, none⟩), .pointer (some ⟨b, 0, none⟩)].toArray 23)).alloc (.cells [Value.int .i64 0, .int .i64 0].toArray 51)).alloc (.cells [nil3, nil3].toArray 52)) := by
              have t1 := TK1.out.alloc 23 [Value.pointer (some ⟨a, 0, none⟩), .pointer (some ⟨b, 0, none⟩)]
              have t2 := t1.alloc 51 [Value.int .i64 0, .int .i64 0]
              have t3 := t2.alloc 52 [nil3, nil3]
              rw [show ((wd.alloc (.cells [Value.pointer (some ⟨a, 0, none⟩), .pointer (some ⟨b, 0, none⟩)].toArray 23)).alloc (.cells [Value.int .i64 0, .int .i64 0].toArray 51)).heap.size = wd.heap.size + 1 + 1 by simp, show (wd.alloc (.cells [Value.pointer (some ⟨a, 0, none⟩), .pointer (some ⟨b, 0, none⟩)].toArray 23)).heap.size = wd.heap.size + 1 by simp] at t3
              exact (t3.addR (v := nil3) (n := 0) (xs := []) (Below.refl _ _) ⟨rfl, .inl ⟨rfl, rfl⟩⟩).addR (v := nil3) (n := 0) (xs := []) (Below.refl _ _) ⟨rfl, .inl ⟨rfl, rfl⟩⟩
            have b3 : Below wd.heap.size wd (((wd.alloc (.cells [Value.pointer (some ⟨a, 0, none⟩), .pointer (some ⟨b, 0, none⟩)].toArray 23)).alloc (.cells [Value.int .i64 0, .int .i64 0].toArray 51)).alloc (.cells [nil3, nil3].toArray 52)) := (((Below.refl _ _).alloc (Nat.le_refl _) _).alloc (by simp) _).alloc (by simp; omega) _
            have J0 : Hid (ApJ wa a b wd.heap.size (wd.heap.size + 1) (wd.heap.size + 1 + 1) Ta Tb Fa Fb A B 0 _) := Lib.hid t3
            have hgi : wd.heap.size + 1 ≠ wd.heap.size + 1 + 1 := by omega
            clear t3 b3 TK1
            generalize ((wd.alloc (.cells [Value.pointer (some ⟨a, 0, none⟩), .pointer (some ⟨b, 0, none⟩)].toArray 23)).alloc (.cells [Value.int .i64 0, .int .i64 0].toArray 51)).alloc (.cells [nil3, nil3].toArray 52) = w3 at *
            generalize wd.heap.size + 1 + 1 = pi at *
            generalize wd.heap.size + 1 = pg at *
            generalize wd.heap.size = pb at *
            go_loopw [13] (fun i wq => ∃ (j : Nat), j ≤ 1 ∧ i = .int .i64 j ∧ Hid (ApJ wa a b pb pg pi Ta Tb Fa Fb A B j wq)) (fun i _ => 1 - (intOf i).toNat)
            case atStart => exact ⟨0, by omega, rfl, J0⟩
            case round =>
              clear J0 hc1 hbw1
              obtain ⟨j, hj, rfl, HJ⟩ := hrel
              have hbel : Below w.heap.size w wr := Below.down BA.out (show Below wa.heap.size wa wr by
                rcases (show j = 0 ∨ j = 1 ∨ j = 2 by omega) with rfl | rfl | rfl
                · exact (show Tk nos wa _ wr from HJ.out).below
                · obtain ⟨xa, t⟩ := HJ.out; exact Tk.below t
                · obtain ⟨xa, xb, t⟩ := HJ.out; exact Tk.below t) BA.out.size
              obtain ⟨_, _, _, e, hbw, hcell⟩ := sli_at (HV.out.below hbel) k hlt
              simp only [Value.slice.injEq, Option.some.injEq, Addr.mk.injEq] at e
              obtain ⟨⟨rfl, rfl, -⟩, -, -⟩ := e
              rw [HQ.out] at hcell
              clear hbel
              rcases (show j = 0 ∨ j = 1 by omega) with rfl | rfl
              · as_aux_lemma =>
                  have tk : Tk nos wa (apO a b pb pg pi nil3 nil3 [] [] 0 0 Ta Tb Fa Fb) wr := HJ.out
                  obtain ⟨⟨i0, i1, g0, g1, p0, p1⟩, z0, z1, z2, z3⟩ := ap_at tk
                  have cR := tk_uunroute_is (i := 6) (os' := apO a b pb pg pi nil3 nil3 [] [] 0 0 A.T Tb A.F Fb) 1 v A.c wr tk rfl (by rw [HA_.out]) (by rw [HA_.out]; rfl)
                  clear tk HJ i0 i1 g0 g1 z0 z1 z2 z3
                  go_wp2_with fail
                  refine cR.mono ?_
                  rintro e w4 ⟨rfl, t4⟩
                  obtain ⟨⟨i0, i1, g0, g1, p0', p1'⟩, z0, z1, z2, z3⟩ := ap_at t4
                  have T4 := Lib.hid t4
                  clear t4 cR hcell
                  go_wp2_with fail
                  refine (num_any _ _).mono ?_
                  rintro e w' ⟨rfl, rfl⟩
                  have J1 : Hid (ApJ wa a b pb pg pi Ta Tb Fa Fb A B 1 (w4.setCell ⟨pg, 0, none⟩ (.int .i64 A.c))) := Lib.hid ⟨nil3, by have := T4.out.apA A.c; rw [show A.L = [] by rw [HA_.out]]; exact this⟩
                  clear T4
                  go_wp2_with fail
                  go_roundw
                  case rel => exact ⟨1, by omega, rfl, J1⟩
                  case measure => simp [intOf]
              · as_aux_lemma =>
                  obtain ⟨xa, tk⟩ := HJ.out
                  replace tk : Tk nos wa (apO a b pb pg pi xa nil3 A.L [] A.c 0 A.T Tb A.F Fb) wr := tk
                  have E5 := Lib.hid (tk.apEnd HEND.out)
                  clear tk HJ HEND
                  go_wp2_with fail
                  go_roundw
                  case rel => exact ⟨k + 1, by omega, by omega, by go_num, E5⟩
                  case measure => simp [intOf]; omega
        · as_aux_lemma =>
            obtain ⟨A, hA⟩ : ∃ A : Ac, A = ⟨uuC 2 Ta 1 v, [], rmT 2 Ta 1 v mm, Fa⟩ := ⟨_, rfl⟩
            obtain ⟨B, hB⟩ : ∃ B : Ac, B = ⟨0, [], [], noF⟩ := ⟨_, rfl⟩
            have HEND : Hid (Ig A.T Tb A.F Fb) := Lib.hid (by rw [hA]; exact HI.out.mask1 hv8 mm)
            have HA_ := Lib.hid hA
            clear hA hB
            go_wp2_with fail
            go_quiet (fail)
            have TK1 := Lib.hid (TK.out.drewN nq)
            have hc1 : (wr.drewN nq).cell? ⟨gs, o + k, none⟩ = some (.int .i64 q) := hcell
            have hbw1 : gs < (wr.drewN nq).heap.size := hbw
            have BW := Lib.hid (bdrewN HS.out nq)
            have hgs : gs < wa.heap.size ∨ True := .inr trivial
            clear TK hP' hV' hcell hbw HS hgs
            generalize wr.drewN nq = wd at *
            go_wp2_with fail
            change Code.wp _ _ _ _ (((wd.alloc (.cells [Value.pointer (some ⟨a, 0, none⟩), .pointer (some ⟨b, 0, none⟩)].toArray 23)).alloc (.cells [Value.int .i64 0, .int .i64 0].toArray 51)).alloc (.cells [nil3, nil3].toArray 52))
            have t3 : Tk nos wa (apO a b wd.heap.size (wd.heap.size + 1) (wd.heap.size + 1 + 1) nil3 nil3 [] [] 0 0 Ta Tb Fa Fb) (((wd.alloc (.cells [Value.pointer (some ⟨a, 0, none⟩), .pointer (some ⟨b, 0, none⟩)].toArray 23)).alloc (.cells [Value.int .i64 0, .int .i64 0].toArray 51)).alloc (.cells [nil3, nil3].toArray 52)) := by
              have t1 := TK1.out.alloc 23 [Value.pointer (some ⟨a, 0, none⟩), .pointer (some ⟨b, 0, none⟩)]
              have t2 := t1.alloc 51 [Value.int .i64 0, .int .i64 0]
              have t3 := t2.alloc 52 [nil3, nil3]
              rw [show ((wd.alloc (.cells [Value.pointer (some ⟨a, 0, none⟩), .pointer (some ⟨b, 0, none⟩)].toArray 23)).alloc (.cells [Value.int .i64 0, .int .i64 0].toArray 51)).heap.size = wd.heap.size + 1 + 1 by simp, show (wd.alloc (.cells [Value.pointer (some ⟨a, 0, none⟩), .pointer (some ⟨b, 0, none⟩)].toArray 23)).heap.size = wd.heap.size + 1 by simp] at t3
              exact (t3.addR (v := nil3) (n := 0) (xs := []) (Below.refl _ _) ⟨rfl, .inl ⟨rfl, rfl⟩⟩).addR (v := nil3) (n := 0) (xs := []) (Below.refl _ _) ⟨rfl, .inl ⟨rfl, rfl⟩⟩
            have b3 : Below wd.heap.size wd (((wd.alloc (.cells [Value.pointer (some ⟨a, 0, none⟩), .pointer (some ⟨b, 0, none⟩)].toArray 23)).alloc (.cells [Value.int .i64 0, .int .i64 0].toArray 51)).alloc (.cells [nil3, nil3].toArray 52)) := (((Below.refl _ _).alloc (Nat.le_refl _) _).alloc (by simp) _).alloc (by simp; omega) _
            have J0 : Hid (ApJ wa a b wd.heap.size (wd.heap.size + 1) (wd.heap.size + 1 + 1) Ta Tb Fa Fb A B 0 _) := Lib.hid t3
            have hgi : wd.heap.size + 1 ≠ wd.heap.size + 1 + 1 := by omega
            clear t3 b3 TK1
            generalize ((wd.alloc (.cells [Value.pointer (some ⟨a, 0, none⟩), .pointer (some ⟨b, 0, none⟩)].toArray 23)).alloc (.cells [Value.int .i64 0, .int .i64 0].toArray 51)).alloc (.cells [nil3, nil3].toArray 52) = w3 at *
            generalize wd.heap.size + 1 + 1 = pi at *
            generalize wd.heap.size + 1 = pg at *
            generalize wd.heap.size = pb at *
            go_loopw [13] (fun i wq => ∃ (j : Nat), j ≤ 1 ∧ i = .int .i64 j ∧ Hid (ApJ wa a b pb pg pi Ta Tb Fa Fb A B j wq)) (fun i _ => 1 - (intOf i).toNat)
            case atStart => exact ⟨0, by omega, rfl, J0⟩
            case round =>
              clear J0 hc1 hbw1
              obtain ⟨j, hj, rfl, HJ⟩ := hrel
              have hbel : Below w.heap.size w wr := Below.down BA.out (show Below wa.heap.size wa wr by
                rcases (show j = 0 ∨ j = 1 ∨ j = 2 by omega) with rfl | rfl | rfl
                · exact (show Tk nos wa _ wr from HJ.out).below
                · obtain ⟨xa, t⟩ := HJ.out; exact Tk.below t
                · obtain ⟨xa, xb, t⟩ := HJ.out; exact Tk.below t) BA.out.size
              obtain ⟨_, _, _, e, hbw, hcell⟩ := sli_at (HV.out.below hbel) k hlt
              simp only [Value.slice.injEq, Option.some.injEq, Addr.mk.injEq] at e
              obtain ⟨⟨rfl, rfl, -⟩, -, -⟩ := e
              rw [HQ.out] at hcell
              clear hbel
              rcases (show j = 0 ∨ j = 1 by omega) with rfl | rfl
              · as_aux_lemma =>
                  have tk : Tk nos wa (apO a b pb pg pi nil3 nil3 [] [] 0 0 Ta Tb Fa Fb) wr := HJ.out
                  obtain ⟨⟨i0, i1, g0, g1, p0, p1⟩, z0, z1, z2, z3⟩ := ap_at tk
                  have cR := tk_umask_is (i := 6) (os' := apO a b pb pg pi nil3 nil3 [] [] 0 0 A.T Tb A.F Fb) 1 v mm A.c wr tk rfl (by rw [HA_.out]) (by rw [HA_.out]; rfl)
                  clear tk HJ i0 i1 g0 g1 z0 z1 z2 z3
                  go_wp2_with fail
                  refine cR.mono ?_
                  rintro e w4 ⟨rfl, t4⟩
                  obtain ⟨⟨i0, i1, g0, g1, p0', p1'⟩, z0, z1, z2, z3⟩ := ap_at t4
                  have T4 := Lib.hid t4
                  clear t4 cR hcell
                  go_wp2_with fail
                  refine (num_any _ _).mono ?_
                  rintro e w' ⟨rfl, rfl⟩
                  have J1 : Hid (ApJ wa a b pb pg pi Ta Tb Fa Fb A B 1 (w4.setCell ⟨pg, 0, none⟩ (.int .i64 A.c))) := Lib.hid ⟨nil3, by have := T4.out.apA A.c; rw [show A.L = [] by rw [HA_.out]]; exact this⟩
                  clear T4
                  go_wp2_with fail
                  go_roundw
                  case rel => exact ⟨1, by omega, rfl, J1⟩
                  case measure => simp [intOf]
              · as_aux_lemma =>
                  obtain ⟨xa, tk⟩ := HJ.out
                  replace tk : Tk nos wa (apO a b pb pg pi xa nil3 A.L [] A.c 0 A.T Tb A.F Fb) wr := tk
                  have E5 := Lib.hid (tk.apEnd HEND.out)
                  clear tk HJ HEND
                  go_wp2_with fail
                  go_roundw
                  case rel => exact ⟨k + 1, by omega, by omega, by go_num, E5⟩
                  case measure => simp [intOf]; omega
        · as_aux_lemma =>
            obtain ⟨A, hA⟩ : ∃ A : Ac, A = ⟨0, udL 2 2 Ta Fa 1 k, Ta, udF 2 2 Ta Fa 1⟩ := ⟨_, rfl⟩
            obtain ⟨B, hB⟩ : ∃ B : Ac, B = ⟨0, [], [], noF⟩ := ⟨_, rfl⟩
            have HEND : Hid (Ig A.T Tb A.F Fb) := Lib.hid (by rw [hA]; exact HI.out.df1)
            have HA_ := Lib.hid hA
            clear hA hB
            go_wp2_with fail
            go_quiet (fail)
            have TK1 := Lib.hid (TK.out.drewN nq)
            have hc1 : (wr.drewN nq).cell? ⟨gs, o + k, none⟩ = some (.int .i64 q) := hcell
            have hbw1 : gs < (wr.drewN nq).heap.size := hbw
            have BW := Lib.hid (bdrewN HS.out nq)
            have hgs : gs < wa.heap.size ∨ True := .inr trivial
            clear TK hP' hV' hcell hbw HS hgs
            generalize wr.drewN nq = wd at *
            go_wp2_with fail
            change Code.wp _ _ _ _ (((wd.alloc (.cells [Value.pointer (some ⟨a, 0, none⟩), .pointer (some ⟨b, 0, none⟩)].toArray 23)).alloc (.cells [Value.int .i64 0, .int .i64 0].toArray 51)).alloc (.cells [nil3, nil3].toArray 52))
            have t3 : Tk nos wa (apO a b wd.heap.size (wd.heap.size + 1) (wd.heap.size + 1 + 1) nil3 nil3 [] [] 0 0 Ta Tb Fa Fb) (((wd.alloc (.cells [Value.pointer (some ⟨a, 0, none⟩), .pointer (some ⟨b, 0, none⟩)].toArray 23)).alloc (.cells [Value.int .i64 0, .int .i64 0].toArray 51)).alloc (.cells [nil3, nil3].toArray 52)) := by
              have t1 := TK1.out.alloc 23 [Value.pointer (some ⟨a, 0, none⟩), .pointer (some ⟨b, 0, none⟩)]
              have t2 := t1.alloc 51 [Value.int .i64 0, .int .i64 0]
              have t3 := t2.alloc 52 [nil3, nil3]
              rw [show ((wd.alloc (.cells [Value.pointer (some ⟨a, 0, none⟩), .pointer (some ⟨b, 0, none⟩)].toArray 23)).alloc (.cells [Value.int .i64 0, .int .i64 0].toArray 51)).heap.size = wd.heap.size + 1 + 1 by simp, show (wd.alloc (.cells [Value.pointer (some ⟨a, 0, none⟩), .pointer (some ⟨b, 0, none⟩)].toArray 23)).heap.size = wd.heap.size + 1 by simp] at t3
              exact (t3.addR (v := nil3) (n := 0) (xs := []) (Below.refl _ _) ⟨rfl, .inl ⟨rfl, rfl⟩⟩).addR (v := nil3) (n := 0) (xs := []) (Below.refl _ _) ⟨rfl, .inl ⟨rfl, rfl⟩⟩
            have b3 : Below wd.heap.size wd (((wd.alloc (.cells [Value.pointer (some ⟨a, 0, none⟩), .pointer (some ⟨b, 0, none⟩)].toArray 23)).alloc (.cells [Value.int .i64 0, .int .i64 0].toArray 51)).alloc (.cells [nil3, nil3].toArray 52)) := (((Below.refl _ _).alloc (Nat.le_refl _) _).alloc (by simp) _).alloc (by simp; omega) _
            have J0 : Hid (ApJ wa a b wd.heap.size (wd.heap.size + 1) (wd.heap.size + 1 + 1) Ta Tb Fa Fb A B 0 _) := Lib.hid t3
            have hgi : wd.heap.size + 1 ≠ wd.heap.size + 1 + 1 := by omega
            clear t3 b3 TK1
            generalize ((wd.alloc (.cells [Value.pointer (some ⟨a, 0, none⟩), .pointer (some ⟨b, 0, none⟩)].toArray 23)).alloc (.cells [Value.int .i64 0, .int .i64 0].toArray 51)).alloc (.cells [nil3, nil3].toArray 52) = w3 at *
            generalize wd.heap.size + 1 + 1 = pi at *
            generalize wd.heap.size + 1 = pg at *
            generalize wd.heap.size = pb at *
            go_loopw [13] (fun i wq => ∃ (j : Nat), j ≤ 1 ∧ i = .int .i64 j ∧ Hid (ApJ wa a b pb pg pi Ta Tb Fa Fb A B j wq)) (fun i _ => 1 - (intOf i).toNat)
            case atStart => exact ⟨0, by omega, rfl, J0⟩
            case round =>
              clear J0 hc1 hbw1
              obtain ⟨j, hj, rfl, HJ⟩ := hrel
              have hbel : Below w.heap.size w wr := Below.down BA.out (show Below wa.heap.size wa wr by
                rcases (show j = 0 ∨ j = 1 ∨ j = 2 by omega) with rfl | rfl | rfl
                · exact (show Tk nos wa _ wr from HJ.out).below
                · obtain ⟨xa, t⟩ := HJ.out; exact Tk.below t
                · obtain ⟨xa, xb, t⟩ := HJ.out; exact Tk.below t) BA.out.size
              obtain ⟨_, _, _, e, hbw, hcell⟩ := sli_at (HV.out.below hbel) k hlt
              simp only [Value.slice.injEq, Option.some.injEq, Addr.mk.injEq] at e
              obtain ⟨⟨rfl, rfl, -⟩, -, -⟩ := e
              rw [HQ.out] at hcell
              clear hbel
              rcases (show j = 0 ∨ j = 1 by omega) with rfl | rfl
              · as_aux_lemma =>
                  have tk : Tk nos wa (apO a b pb pg pi nil3 nil3 [] [] 0 0 Ta Tb Fa Fb) wr := HJ.out
                  obtain ⟨⟨i0, i1, g0, g1, p0, p1⟩, z0, z1, z2, z3⟩ := ap_at tk
                  have cR := tk_udeliver_is (i := 6) (os' := apO a b pb pg pi nil3 nil3 [] [] 0 0 A.T Tb A.F Fb) 1 k A.L wr tk rfl (by rw [HA_.out]) (by rw [HA_.out]; rfl)
                  clear tk HJ i0 i1 g0 g1 z0 z1 z2 z3
                  go_wp2_with fail
                  refine cR.mono ?_
                  rintro e w4 ⟨x, rfl, t4⟩
                  obtain ⟨Ax, cx, rfl, -⟩ : ∃ Ay cp, x = .slice Ay A.L.length cp ∧ True := by obtain ⟨Ay, c, e, -⟩ := t4.sl (i := 0) rfl; exact ⟨Ay, c, e, trivial⟩
                  obtain ⟨⟨i0, i1, g0, g1, p0', p1'⟩, z0, z1, z2, z3⟩ := ap_at t4.tail
                  have T4 := Lib.hid t4
                  clear t4 cR hcell
                  have J1 : Hid (ApJ wa a b pb pg pi Ta Tb Fa Fb A B 1 (w4.setCell ⟨pi, 0, none⟩ (.slice Ax A.L.length cx))) := Lib.hid ⟨_, by have := T4.out.apX; rw [show A.c = 0 by rw [HA_.out]]; exact this⟩
                  clear T4
                  go_wp2_with fail
                  go_roundw
                  case rel => exact ⟨1, by omega, rfl, J1⟩
                  case measure => simp [intOf]
              · as_aux_lemma =>
                  obtain ⟨xa, tk⟩ := HJ.out
                  replace tk : Tk nos wa (apO a b pb pg pi xa nil3 A.L [] A.c 0 A.T Tb A.F Fb) wr := tk
                  have E5 := Lib.hid (tk.apEnd HEND.out)
                  clear tk HJ HEND
                  go_wp2_with fail
                  go_roundw
                  case rel => exact ⟨k + 1, by omega, by omega, by go_num, E5⟩
                  case measure => simp [intOf]; omega
        · as_aux_lemma =>
            obtain ⟨A, hA⟩ : ∃ A : Ac, A = ⟨ucC 2 1, [], rcT 2 Ta 1, ucF 2 2 Fa 1⟩ := ⟨_, rfl⟩
            obtain ⟨B, hB⟩ : ∃ B : Ac, B = ⟨0, [], [], noF⟩ := ⟨_, rfl⟩
            have HEND : Hid (Ig A.T Tb A.F Fb) := Lib.hid (by rw [hA]; exact HI.out.clear1)
            have HA_ := Lib.hid hA
            clear hA hB
            go_wp2_with fail
            go_quiet (fail)
            have TK1 := Lib.hid (TK.out.drewN nq)
            have hc1 : (wr.drewN nq).cell? ⟨gs, o + k, none⟩ = some (.int .i64 q) := hcell
            have hbw1 : gs < (wr.drewN nq).heap.size := hbw
            have BW := Lib.hid (bdrewN HS.out nq)
            have hgs : gs < wa.heap.size ∨ True := .inr trivial
            clear TK hP' hV' hcell hbw HS hgs
            generalize wr.drewN nq = wd at *
            go_wp2_with fail
            change Code.wp _ _ _ _ (((wd.alloc (.cells [Value.pointer (some ⟨a, 0, none⟩), .pointer (some ⟨b, 0, none⟩)].toArray 23)).alloc (.cells [Value.int .i64 0, .int .i64 0].toArray 51)).alloc (.cells [nil3, nil3].toArray 52))
            have t3 : Tk nos wa (apO a b wd.heap.size (wd.heap.size + 1) (wd.heap.size + 1 + 1) nil3 nil3 [] [] 0 0 Ta Tb Fa Fb) (((wd.alloc (.cells [Value.pointer (some ⟨a, 0, none⟩), .pointer (some ⟨b, 0, none⟩)].toArray 23)).alloc (.cells [Value.int .i64 0, .int .i64 0].toArray 51)).alloc (.cells [nil3, nil3].toArray 52)) := by
              have t1 := TK1.out.alloc 23 [Value.pointer (some ⟨a, 0, none⟩), .pointer (some ⟨b, 0, none⟩)]
              have t2 := t1.alloc 51 [Value.int .i64 0, .int .i64 0]
              have t3 := t2.alloc 52 [nil3, nil3]
              rw [show ((wd.alloc (.cells [Value.pointer (some ⟨a, 0, none⟩), .pointer (some ⟨b, 0, none⟩)].toArray 23)).alloc (.cells [Value.int .i64 0, .int .i64 0].toArray 51)).heap.size = wd.heap.size + 1 + 1 by simp, show (wd.alloc (.cells [Value.pointer (some ⟨a, 0, none⟩), .pointer (some ⟨b, 0, none⟩)].toArray 23)).heap.size = wd.heap.size + 1 by simp] at t3
              exact (t3.addR (v := nil3) (n := 0) (xs := []) (Below.refl _ _) ⟨rfl, .inl ⟨rfl, rfl⟩⟩).addR (v := nil3) (n := 0) (xs := []) (Below.refl _ _) ⟨rfl, .inl ⟨rfl, rfl⟩⟩
            have b3 : Below wd.heap.size wd (((wd.alloc (.cells [Value.pointer (some ⟨a, 0, none⟩), .pointer (some ⟨b, 0, none⟩)].toArray 23)).alloc (.cells [Value.int .i64 0, .int .i64 0].toArray 51)).alloc (.cells [nil3, nil3].toArray 52)) := (((Below.refl _ _).alloc (Nat.le_refl _) _).alloc (by simp) _).alloc (by simp; omega) _
            have J0 : Hid (ApJ wa a b wd.heap.size (wd.heap.size + 1) (wd.heap.size + 1 + 1) Ta Tb Fa Fb A B 0 _) := Lib.hid t3
            have hgi : wd.heap.size + 1 ≠ wd.heap.size + 1 + 1 := by omega
            clear t3 b3 TK1
            generalize ((wd.alloc (.cells [Value.pointer (some ⟨a, 0, none⟩), .pointer (some ⟨b, 0, none⟩)].toArray 23)).alloc (.cells [Value.int .i64 0, .int .i64 0].toArray 51)).alloc (.cells [nil3, nil3].toArray 52) = w3 at *
            generalize wd.heap.size + 1 + 1 = pi at *
            generalize wd.heap.size + 1 = pg at *
            generalize wd.heap.size = pb at *
            go_loopw [13] (fun i wq => ∃ (j : Nat), j ≤ 1 ∧ i = .int .i64 j ∧ Hid (ApJ wa a b pb pg pi Ta Tb Fa Fb A B j wq)) (fun i _ => 1 - (intOf i).toNat)
            case atStart => exact ⟨0, by omega, rfl, J0⟩
            case round =>
              clear J0 hc1 hbw1
              obtain ⟨j, hj, rfl, HJ⟩ := hrel
              have hbel : Below w.heap.size w wr := Below.down BA.out (show Below wa.heap.size wa wr by
                rcases (show j = 0 ∨ j = 1 ∨ j = 2 by omega) with rfl | rfl | rfl
                · exact (show Tk nos wa _ wr from HJ.out).below
                · obtain ⟨xa, t⟩ := HJ.out; exact Tk.below t
                · obtain ⟨xa, xb, t⟩ := HJ.out; exact Tk.below t) BA.out.size
              obtain ⟨_, _, _, e, hbw, hcell⟩ := sli_at (HV.out.below hbel) k hlt
              simp only [Value.slice.injEq, Option.some.injEq, Addr.mk.injEq] at e
              obtain ⟨⟨rfl, rfl, -⟩, -, -⟩ := e
              rw [HQ.out] at hcell
              clear hbel
              rcases (show j = 0 ∨ j = 1 by omega) with rfl | rfl
              · as_aux_lemma =>
                  have tk : Tk nos wa (apO a b pb pg pi nil3 nil3 [] [] 0 0 Ta Tb Fa Fb) wr := HJ.out
                  obtain ⟨⟨i0, i1, g0, g1, p0, p1⟩, z0, z1, z2, z3⟩ := ap_at tk
                  have cR := tk_uclear_is (i := 6) (os' := apO a b pb pg pi nil3 nil3 [] [] 0 0 A.T Tb A.F Fb) 1 A.c wr tk rfl (by rw [HA_.out]) (by rw [HA_.out]; rfl)
                  clear tk HJ i0 i1 g0 g1 z0 z1 z2 z3
                  go_wp2_with fail
                  refine cR.mono ?_
                  rintro e w4 ⟨rfl, t4⟩
                  obtain ⟨⟨i0, i1, g0, g1, p0', p1'⟩, z0, z1, z2, z3⟩ := ap_at t4
                  have T4 := Lib.hid t4
                  clear t4 cR hcell
                  go_wp2_with fail
                  refine (num_any _ _).mono ?_
                  rintro e w' ⟨rfl, rfl⟩
                  have J1 : Hid (ApJ wa a b pb pg pi Ta Tb Fa Fb A B 1 (w4.setCell ⟨pg, 0, none⟩ (.int .i64 A.c))) := Lib.hid ⟨nil3, by have := T4.out.apA A.c; rw [show A.L = [] by rw [HA_.out]]; exact this⟩
                  clear T4
                  go_wp2_with fail
                  go_roundw
                  case rel => exact ⟨1, by omega, rfl, J1⟩
                  case measure => simp [intOf]
              · as_aux_lemma =>
                  obtain ⟨xa, tk⟩ := HJ.out
                  replace tk : Tk nos wa (apO a b pb pg pi xa nil3 A.L [] A.c 0 A.T Tb A.F Fb) wr := tk
                  have E5 := Lib.hid (tk.apEnd HEND.out)
                  clear tk HJ HEND
                  go_wp2_with fail
                  go_roundw
                  case rel => exact ⟨k + 1, by omega, by omega, by go_num, E5⟩
                  case measure => simp [intOf]; omega
        · as_aux_lemma =>
            obtain ⟨A, hA⟩ : ∃ A : Ac, A = ⟨uaC 2 2 Ta 1 v 1, [], Ta, uaF 2 2 Ta Fa 1 v 1⟩ := ⟨_, rfl⟩
            obtain ⟨B, hB⟩ : ∃ B : Ac, B = ⟨0, [], [], noF⟩ := ⟨_, rfl⟩
            have HEND : Hid (Ig A.T Tb A.F Fb) := Lib.hid (by rw [hA]; exact HI.out.raise1 hv8)
            have HA_ := Lib.hid hA
            clear hA hB
            go_wp2_with fail
            go_quiet (fail)
            have TK1 := Lib.hid (TK.out.drewN nq)
            have hc1 : (wr.drewN nq).cell? ⟨gs, o + k, none⟩ = some (.int .i64 q) := hcell
            have hbw1 : gs < (wr.drewN nq).heap.size := hbw
            have BW := Lib.hid (bdrewN HS.out nq)
            have hgs : gs < wa.heap.size ∨ True := .inr trivial
            clear TK hP' hV' hcell hbw HS hgs
            generalize wr.drewN nq = wd at *
            go_wp2_with fail
            change Code.wp _ _ _ _ (((wd.alloc (.cells [Value.pointer (some ⟨a, 0, none⟩), .pointer (some ⟨b, 0, none⟩)].toArray 23)).alloc (.cells [Value.int .i64 0, .int .i64 0].toArray 51)).alloc (.cells [nil3, nil3].toArray 52))
            have t3 : Tk nos wa (apO a b wd.heap.size (wd.heap.size + 1) (wd.heap.size + 1 + 1) nil3 nil3 [] [] 0 0 Ta Tb Fa Fb) (((wd.alloc (.cells [Value.pointer (some ⟨a, 0, none⟩), .pointer (some ⟨b, 0, none⟩)].toArray 23)).alloc (.cells [Value.int .i64 0, .int .i64 0].toArray 51)).alloc (.cells [nil3, nil3].toArray 52)) := by
              have t1 := TK1.out.alloc 23 [Value.pointer (some ⟨a, 0, none⟩), .pointer (some ⟨b, 0, none⟩)]
              have t2 := t1.alloc 51 [Value.int .i64 0, .int .i64 0]
              have t3 := t2.alloc 52 [nil3, nil3]
              rw [show ((wd.alloc (.cells [Value.pointer (some ⟨a, 0, none⟩), .pointer (some ⟨b, 0, none⟩)].toArray 23)).alloc (.cells [Value.int .i64 0, .int .i64 0].toArray 51)).heap.size = wd.heap.size + 1 + 1 by simp, show (wd.alloc (.cells [Value.pointer (some ⟨a, 0, none⟩), .pointer (some ⟨b, 0, none⟩)].toArray 23)).heap.size = wd.heap.size + 1 by simp] at t3
              exact (t3.addR (v := nil3) (n := 0) (xs := []) (Below.refl _ _) ⟨rfl, .inl ⟨rfl, rfl⟩⟩).addR (v := nil3) (n := 0) (xs := []) (Below.refl _ _) ⟨rfl, .inl ⟨rfl, rfl⟩⟩
            have b3 : Below wd.heap.size wd (((wd.alloc (.cells [Value.pointer (some ⟨a, 0, none⟩), .pointer (some ⟨b, 0, none⟩)].toArray 23)).alloc (.cells [Value.int .i64 0, .int .i64 0].toArray 51)).alloc (.cells [nil3, nil3].toArray 52)) := (((Below.refl _ _).alloc (Nat.le_refl _) _).alloc (by simp) _).alloc (by simp; omega) _
            have J0 : Hid (ApJ wa a b wd.heap.size (wd.heap.size + 1) (wd.heap.size + 1 + 1) Ta Tb Fa Fb A B 0 _) := Lib.hid t3
            have hgi : wd.heap.size + 1 ≠ wd.heap.size + 1 + 1 := by omega
            clear t3 b3 TK1
            generalize ((wd.alloc (.cells [Value.pointer (some ⟨a, 0, none⟩), .pointer (some ⟨b, 0, none⟩)].toArray 23)).alloc (.cells [Value.int .i64 0, .int .i64 0].toArray 51)).alloc (.cells [nil3, nil3].toArray 52) = w3 at *
            generalize wd.heap.size + 1 + 1 = pi at *
            generalize wd.heap.size + 1 = pg at *
            generalize wd.heap.size = pb at *
            go_loopw [13] (fun i wq => ∃ (j : Nat), j ≤ 1 ∧ i = .int .i64 j ∧ Hid (ApJ wa a b pb pg pi Ta Tb Fa Fb A B j wq)) (fun i _ => 1 - (intOf i).toNat)
            case atStart => exact ⟨0, by omega, rfl, J0⟩
            case round =>
              clear J0 hc1 hbw1
              obtain ⟨j, hj, rfl, HJ⟩ := hrel
              have hbel : Below w.heap.size w wr := Below.down BA.out (show Below wa.heap.size wa wr by
                rcases (show j = 0 ∨ j = 1 ∨ j = 2 by omega) with rfl | rfl | rfl
                · exact (show Tk nos wa _ wr from HJ.out).below
                · obtain ⟨xa, t⟩ := HJ.out; exact Tk.below t
                · obtain ⟨xa, xb, t⟩ := HJ.out; exact Tk.below t) BA.out.size
              obtain ⟨_, _, _, e, hbw, hcell⟩ := sli_at (HV.out.below hbel) k hlt
              simp only [Value.slice.injEq, Option.some.injEq, Addr.mk.injEq] at e
              obtain ⟨⟨rfl, rfl, -⟩, -, -⟩ := e
              rw [HQ.out] at hcell
              clear hbel
              rcases (show j = 0 ∨ j = 1 by omega) with rfl | rfl
              · as_aux_lemma =>
                  have tk : Tk nos wa (apO a b pb pg pi nil3 nil3 [] [] 0 0 Ta Tb Fa Fb) wr := HJ.out
                  obtain ⟨⟨i0, i1, g0, g1, p0, p1⟩, z0, z1, z2, z3⟩ := ap_at tk
                  have cR := tk_uraise_is (i := 6) (os' := apO a b pb pg pi nil3 nil3 [] [] 0 0 A.T Tb A.F Fb) 1 v 1 A.c wr tk rfl (by rw [HA_.out]) (by rw [HA_.out]; rfl)
                  clear tk HJ i0 i1 g0 g1 z0 z1 z2 z3
                  go_wp2_with fail
                  refine cR.mono ?_
                  rintro e w4 ⟨rfl, t4⟩
                  obtain ⟨⟨i0, i1, g0, g1, p0', p1'⟩, z0, z1, z2, z3⟩ := ap_at t4
                  have T4 := Lib.hid t4
                  clear t4 cR hcell
                  go_wp2_with fail
                  refine (num_any _ _).mono ?_
                  rintro e w' ⟨rfl, rfl⟩
                  have J1 : Hid (ApJ wa a b pb pg pi Ta Tb Fa Fb A B 1 (w4.setCell ⟨pg, 0, none⟩ (.int .i64 A.c))) := Lib.hid ⟨nil3, by have := T4.out.apA A.c; rw [show A.L = [] by rw [HA_.out]]; exact this⟩
                  clear T4
                  go_wp2_with fail
                  go_roundw
                  case rel => exact ⟨1, by omega, rfl, J1⟩
                  case measure => simp [intOf]
              · as_aux_lemma =>
                  obtain ⟨xa, tk⟩ := HJ.out
                  replace tk : Tk nos wa (apO a b pb pg pi xa nil3 A.L [] A.c 0 A.T Tb A.F Fb) wr := tk
                  have E5 := Lib.hid (tk.apEnd HEND.out)
                  clear tk HJ HEND
                  go_wp2_with fail
                  go_roundw
                  case rel => exact ⟨k + 1, by omega, by omega, by go_num, E5⟩
                  case measure => simp [intOf]; omega
        · as_aux_lemma =>
            obtain ⟨A, hA⟩ : ∃ A : Ac, A = ⟨uaC 2 2 Ta 1 v 1, [], Ta, uaF 2 2 Ta Fa 1 v 1⟩ := ⟨_, rfl⟩
            obtain ⟨B, hB⟩ : ∃ B : Ac, B = ⟨0, [], [], noF⟩ := ⟨_, rfl⟩
            have HEND : Hid (Ig A.T Tb A.F Fb) := Lib.hid (by rw [hA]; exact HI.out.raise1 hv8)
            have HA_ := Lib.hid hA
            clear hA hB
            go_wp2_with fail
            go_quiet (fail)
            have TK1 := Lib.hid (TK.out.drewN nq)
            have hc1 : (wr.drewN nq).cell? ⟨gs, o + k, none⟩ = some (.int .i64 q) := hcell
            have hbw1 : gs < (wr.drewN nq).heap.size := hbw
            have BW := Lib.hid (bdrewN HS.out nq)
            have hgs : gs < wa.heap.size ∨ True := .inr trivial
            clear TK hP' hV' hcell hbw HS hgs
            generalize wr.drewN nq = wd at *
            go_wp2_with fail
            change Code.wp _ _ _ _ (((wd.alloc (.cells [Value.pointer (some ⟨a, 0, none⟩), .pointer (some ⟨b, 0, none⟩)].toArray 23)).alloc (.cells [Value.int .i64 0, .int .i64 0].toArray 51)).alloc (.cells [nil3, nil3].toArray 52))
            have t3 : Tk nos wa (apO a b wd.heap.size (wd.heap.size + 1) (wd.heap.size + 1 + 1) nil3 nil3 [] [] 0 0 Ta Tb Fa Fb) (((wd.alloc (.cells [Value.pointer (some ⟨a, 0, none⟩), .pointer (some ⟨b, 0, none⟩)].toArray 23)).alloc (.cells [Value.int .i64 0, .int .i64 0].toArray 51)).alloc (.cells [nil3, nil3].toArray 52)) := by
              have t1 := TK1.out.alloc 23 [Value.pointer (some ⟨a, 0, none⟩), .pointer (some ⟨b, 0, none⟩)]
              have t2 := t1.alloc 51 [Value.int .i64 0, .int .i64 0]
              have t3 := t2.alloc 52 [nil3, nil3]
              rw [show ((wd.alloc (.cells [Value.pointer (some ⟨a, 0, none⟩), .pointer (some ⟨b, 0, none⟩)].toArray 23)).alloc (.cells [Value.int .i64 0, .int .i64 0].toArray 51)).heap.size = wd.heap.size + 1 + 1 by simp, show (wd.alloc (.cells [Value.pointer (some ⟨a, 0, none⟩), .pointer (some ⟨b, 0, none⟩)].toArray 23)).heap.size = wd.heap.size + 1 by simp] at t3
              exact (t3.addR (v := nil3) (n := 0) (xs := []) (Below.refl _ _) ⟨rfl, .inl ⟨rfl, rfl⟩⟩).addR (v := nil3) (n := 0) (xs := []) (Below.refl _ _) ⟨rfl, .inl ⟨rfl, rfl⟩⟩
            have b3 : Below wd.heap.size wd (((wd.alloc (.cells [Value.pointer (some ⟨a, 0, none⟩), .pointer (some ⟨b, 0, none⟩)].toArray 23)).alloc (.cells [Value.int .i64 0, .int .i64 0].toArray 51)).alloc (.cells [nil3, nil3].toArray 52)) := (((Below.refl _ _).alloc (Nat.le_refl _) _).alloc (by simp) _).alloc (by simp; omega) _
            have J0 : Hid (ApJ wa a b wd.heap.size (wd.heap.size + 1) (wd.heap.size + 1 + 1) Ta Tb Fa Fb A B 0 _) := Lib.hid t3
            have hgi : wd.heap.size + 1 ≠ wd.heap.size + 1 + 1 := by omega
            clear t3 b3 TK1
            generalize ((wd.alloc (.cells [Value.pointer (some ⟨a, 0, none⟩), .pointer (some ⟨b, 0, none⟩)].toArray 23)).alloc (.cells [Value.int .i64 0, .int .i64 0].toArray 51)).alloc (.cells [nil3, nil3].toArray 52) = w3 at *
            generalize wd.heap.size + 1 + 1 = pi at *
            generalize wd.heap.size + 1 = pg at *
            generalize wd.heap.size = pb at *
            go_loopw [13] (fun i wq => ∃ (j : Nat), j ≤ 1 ∧ i = .int .i64 j ∧ Hid (ApJ wa a b pb pg pi Ta Tb Fa Fb A B j wq)) (fun i _ => 1 - (intOf i).toNat)
            case atStart => exact ⟨0, by omega, rfl, J0⟩
            case round =>
              clear J0 hc1 hbw1
              obtain ⟨j, hj, rfl, HJ⟩ := hrel
              have hbel : Below w.heap.size w wr := Below.down BA.out (show Below wa.heap.size wa wr by
                rcases (show j = 0 ∨ j = 1 ∨ j = 2 by omega) with rfl | rfl | rfl
                · exact (show Tk nos wa _ wr from HJ.out).below
                · obtain ⟨xa, t⟩ := HJ.out; exact Tk.below t
                · obtain ⟨xa, xb, t⟩ := HJ.out; exact Tk.below t) BA.out.size
              obtain ⟨_, _, _, e, hbw, hcell⟩ := sli_at (HV.out.below hbel) k hlt
              simp only [Value.slice.injEq, Option.some.injEq, Addr.mk.injEq] at e
              obtain ⟨⟨rfl, rfl, -⟩, -, -⟩ := e
              rw [HQ.out] at hcell
              clear hbel
              rcases (show j = 0 ∨ j = 1 by omega) with rfl | rfl
              · as_aux_lemma =>
                  have tk : Tk nos wa (apO a b pb pg pi nil3 nil3 [] [] 0 0 Ta Tb Fa Fb) wr := HJ.out
                  obtain ⟨⟨i0, i1, g0, g1, p0, p1⟩, z0, z1, z2, z3⟩ := ap_at tk
                  have cR := tk_uraise_is (i := 6) (os' := apO a b pb pg pi nil3 nil3 [] [] 0 0 A.T Tb A.F Fb) 1 v 1 A.c wr tk rfl (by rw [HA_.out]) (by rw [HA_.out]; rfl)
                  clear tk HJ i0 i1 g0 g1 z0 z1 z2 z3
                  go_wp2_with fail
                  refine cR.mono ?_
                  rintro e w4 ⟨rfl, t4⟩
                  obtain ⟨⟨i0, i1, g0, g1, p0', p1'⟩, z0, z1, z2, z3⟩ := ap_at t4
                  have T4 := Lib.hid t4
                  clear t4 cR hcell
                  go_wp2_with fail
                  refine (num_any _ _).mono ?_
                  rintro e w' ⟨rfl, rfl⟩
                  have J1 : Hid (ApJ wa a b pb pg pi Ta Tb Fa Fb A B 1 (w4.setCell ⟨pg, 0, none⟩ (.int .i64 A.c))) := Lib.hid ⟨nil3, by have := T4.out.apA A.c; rw [show A.L = [] by rw [HA_.out]]; exact this⟩
                  clear T4
                  go_wp2_with fail
                  go_roundw
                  case rel => exact ⟨1, by omega, rfl, J1⟩
                  case measure => simp [intOf]
              · as_aux_lemma =>
                  obtain ⟨xa, tk⟩ := HJ.out
                  replace tk : Tk nos wa (apO a b pb pg pi xa nil3 A.L [] A.c 0 A.T Tb A.F Fb) wr := tk
                  have E5 := Lib.hid (tk.apEnd HEND.out)
                  clear tk HJ HEND
                  go_wp2_with fail
                  go_roundw
                  case rel => exact ⟨k + 1, by omega, by omega, by go_num, E5⟩
                  case measure => simp [intOf]; omega
    · have hx : (k : Int) ≥ n ∨ ((k : Int) < n ∧ decide ((k : Int) < 60) = false) := by
        by_cases h1 : k < n
        · exact .inr ⟨by omega, by simp; omega⟩
        · exact .inl (by omega)
      obtain ⟨Ta, Tb, Fa, Fb, hI, tk⟩ := HA.out
      have HI := Lib.hid hI
      have TK := Lib.hid tk
      obtain ⟨L, hL⟩ : ∃ L, udL 2 2 Ta Fa 0 99 = L := ⟨_, rfl⟩
      have hl : L.length ≤ 32 := by rw [← hL]; exact udL_len ..
      have cA := tk_udeliver_is (i := 1) (os' := [obU b 2 2 Tb Fb, obU a 2 2 Ta (udF 2 2 Ta Fa 0)]) 0 99 L wr tk rfl hL rfl
      have cB := fun W x (tW : Tk nos wa (obI x L :: [obU b 2 2 Tb Fb, obU a 2 2 Ta (udF 2 2 Ta Fa 0)]) W) => tk_udeliver_is (i := 1) (os' := obI x L :: [obU b 2 2 Tb (udF 2 2 Tb Fb 0), obU a 2 2 Ta (udF 2 2 Ta Fa 0)]) 0 99 L W tW rfl (by rw [hI.dl]; exact hL) rfl
      have HL := Lib.hid hL
      clear hgo HA hI tk hL
      rcases hx with hx | ⟨hx, hx2⟩
      all_goals
        go_wp2_with fail
        refine cA.mono ?_
        rintro e w3 ⟨x, rfl, t3⟩
        have T3 := Lib.hid t3
        clear t3 cA
        go_wp2_with fail
        refine (cB w3 x T3.out).mono ?_
        rintro e w4 ⟨y, rfl, t4⟩
        have cS := same_iqs x y L.length L w4 (t4.sl (i := 1) rfl) (t4.sl (i := 0) rfl) rfl (by unfold maxLen; omega)
        have T4 := Lib.hid t4.tail.tail
        clear t4 cB T3
        go_wp2_with fail
        refine cS.mono ?_
        clear cS
        rintro e w' ⟨rfl, q6, rfl⟩
        have t5 := T4.out.drewN q6
        clear T4
        generalize w4.drewN q6 = w5 at *
        have c1 := tk_udeliver_is (i := 0) (os' := [obU b 2 2 Tb (udF 2 2 Tb (udF 2 2 Tb Fb 0) 1), obU a 2 2 Ta (udF 2 2 Ta Fa 0)]) 1 99 [] w5 t5 rfl (HI.out.df0.none1 99) rfl
        clear t5
        go_wp2_with fail
        refine c1.mono ?_
        clear c1
        rintro e w6 ⟨z, rfl, t6⟩
        obtain ⟨Az, cz, rfl, -⟩ : ∃ A cp, z = .slice A 0 cp ∧ True := by obtain ⟨A, c, e, -⟩ := t6.sl (i := 0) rfl; exact ⟨A, c, e, trivial⟩
        have BZ := Lib.hid (Below.down BA.out t6.below BA.out.size)
        clear t6
        go_wp2_with fail
        go_ret
        exact ⟨rfl, BZ.out⟩
end Go.Proofs.Ytjmdgjpepogogaa
