/-
  Layer 21's law ConfigForms.
-/
import Derived.Test.YtamhnnkmjhapmaaCh4
import Derived.Test.YtamhnnkmjhapmaaPlain2
import Derived.Deep.CutBlock
import Derived.Deep.DeepCutAuto
namespace Go.Proofs.Ytamhnnkmjhapmaa
open Go.RowKit
set_option linter.unusedVariables false
set_option linter.unusedSimpArgs false
set_option maxRecDepth 100000

section
variable {c : Cf}
theorem cfn_ps (h : psB c = false) : cfMay c = false := by unfold cfMay; rw [h]; simp
theorem cfn_ds (h : dsB c = false) : cfMay c = false := by unfold cfMay; rw [h]; simp
theorem cfn_un (h : unB c = false) : cfMay c = false := by unfold cfMay; rw [h]; simp
theorem cfn_gs (h : gsB c = false) : cfMay c = false := by unfold cfMay; rw [h]; simp
theorem cfn_qu (h : quB c = false) : cfMay c = false := by unfold cfMay; rw [h]; simp
theorem cfn_qt (h : qtB c = false) : cfMay c = false := by unfold cfMay; rw [h]; simp
end
theorem own_blk21 {w : World} {g B : Nat} {t : TypeId} {cs : List Value} (h : Blk w g t cs) (n size : Nat) (hl : cs.length = n * size) (hB : B ≤ g) (hn : n ≤ maxLen) : w.ownsRow B t size (.slice (some ⟨g, 0, none⟩) n n) n cs :=
  ⟨hl, .inr ⟨g, n, cs.toArray, rfl, hB, h, Nat.le_refl _, hn, by simpa using hl, by simp [← hl]⟩⟩

/-- What the config behind the switch is: one that may not be. -/
def FmG (w : World) (g : Nat) (wx : World) : Prop := ∃ c vp vd vw vg, Blk wx g 27 (cfc c vp vd vw vg) ∧ CfAt wx vp vd vw vg c ∧ cfMay c = false ∧ Below w.heap.size w wx

set_option maxHeartbeats 8000000 in
theorem law_ConfigForms (which x : Int) (w0 : (Lit.int .i64 which).wf = true) (w1' : (Lit.int .i64 x).wf = true) (w : World) :
    Calls Try.prog 5 #[.int .i64 which, .int .i64 x] w fun e w' => e = .returned (.bool true) ∧ Below w.heap.size w w' := by
  have hG := u64b which
  generalize hG' : IntKind.u64.wrap which = G at hG
  obtain ⟨hG0, hG1⟩ := hG
  have hI0 : 0 ≤ G % 25 := by omega
  have hI1 : G % 25 ≤ 24 := by omega
  generalize hI' : G % 25 = I at hI0 hI1
  have hM := band x 1023 (by omega) (by omega)
  generalize hM' : bits BinOp.and IntKind.i64 x 1023 = M at hM
  obtain ⟨hM0, hM1⟩ := hM
  clear w0 w1'
  have HP := Lib.hid plain_any
  go_enter Try.func5, Try.ntmps5
  go_wp2_with fail
  refine (cawake_any _).mono ?_
  rintro e w1 ⟨rfl, hb1⟩
  have HB1 := Lib.hid hb1
  clear hb1
  go_wp2_with fail
  refine (HP.out w1).mono ?_
  rintro e w2 ⟨b1, b2, b3, b4, b5, b6, b7, b8, b9, rfl, h9, hlo, hhi, hB⟩
  have hA : Below w2.heap.size w2 (w2.alloc (.cells #[.int .i64 16, .slice (some ⟨b4, 0, none⟩) 3 3, .slice (some ⟨b7, 0, none⟩) 2 2, .int .i64 6, .slice (some ⟨b8, 0, none⟩) 3 3, .slice (some ⟨b9, 0, none⟩) 1 1, .int .i64 10, .int .i64 6, .int .i64 2] 27)) := (Below.refl _ _).alloc (Nat.le_refl _) _
  have hV : Blk (w2.alloc (.cells #[.int .i64 16, .slice (some ⟨b4, 0, none⟩) 3 3, .slice (some ⟨b7, 0, none⟩) 2 2, .int .i64 6, .slice (some ⟨b8, 0, none⟩) 3 3, .slice (some ⟨b9, 0, none⟩) 1 1, .int .i64 10, .int .i64 6, .int .i64 2] 27)) w2.heap.size 27 (cfc plC (.slice (some ⟨b4, 0, none⟩) 3 3) (.slice (some ⟨b7, 0, none⟩) 2 2) (.slice (some ⟨b8, 0, none⟩) 3 3) (.slice (some ⟨b9, 0, none⟩) 1 1)) := Blk.new w2 _ (cfc plC (.slice (some ⟨b4, 0, none⟩) 3 3) (.slice (some ⟨b7, 0, none⟩) 2 2) (.slice (some ⟨b8, 0, none⟩) 3 3) (.slice (some ⟨b9, 0, none⟩) 1 1))
  have H9 := Lib.hid (h9.below hA); have HV := Lib.hid hV
  have HB3 := Lib.hid (Below.down (Below.down HB1.out hB HB1.out.size) hA (by have := HB1.out.size; have := hB.size; omega))
  have hzz : (w2.alloc (.cells #[.int .i64 16, .slice (some ⟨b4, 0, none⟩) 3 3, .slice (some ⟨b7, 0, none⟩) 2 2, .int .i64 6, .slice (some ⟨b8, 0, none⟩) 3 3, .slice (some ⟨b9, 0, none⟩) 1 1, .int .i64 10, .int .i64 6, .int .i64 2] 27)).heap.size = w2.heap.size + 1 := by simp
  have HZZ := Lib.hid hzz
  have hord := h9.ord
  have hwlo : w.heap.size ≤ b1 := by have := HB1.out.size; omega
  clear h9 hB hA hV hzz
  go_upto_block 0 with fail
  rw [hI']
  clear hI'
  generalize w2.alloc (.cells #[.int .i64 16, .slice (some ⟨b4, 0, none⟩) 3 3, .slice (some ⟨b7, 0, none⟩) 2 2, .int .i64 6, .slice (some ⟨b8, 0, none⟩) 3 3, .slice (some ⟨b9, 0, none⟩) 1 1, .int .i64 10, .int .i64 6, .int .i64 2] 27) = w3 at *
  generalize w2.heap.size = V at *
  go_cut [] (fun wx => Hid (FmG w V wx))
  case first =>
    obtain ⟨f0, f1, f2, f3, f4, f5, f6, f7, f8⟩ := cf_at HV.out

    have z0 := HV.out.frozen 0
    have z1 := HV.out.frozen 1
    have z2 := HV.out.frozen 2
    have z3 := HV.out.frozen 3
    have z4 := HV.out.frozen 4
    have z5 := HV.out.frozen 5
    have z6 := HV.out.frozen 6
    have z7 := HV.out.frozen 7
    have z8 := HV.out.frozen 8
    have c4_0 : w3.cell? ⟨b4, 0, none⟩ = some (.int .i64 0) := H9.out.k4.cell 0
    have y4_0 := H9.out.k4.frozen 0
    have c4_7 : w3.cell? ⟨b4, 7, none⟩ = some (.slice (some ⟨b2, 0, none⟩) 2 2) := H9.out.k4.cell 7
    have y4_7 := H9.out.k4.frozen 7
    have c4_13 : w3.cell? ⟨b4, 13, none⟩ = some (.int .i64 8) := H9.out.k4.cell 13
    have y4_13 := H9.out.k4.frozen 13
    have c2_0 : w3.cell? ⟨b2, 0, none⟩ = some (.int .i64 3) := H9.out.k2.cell 0
    have y2_0 := H9.out.k2.frozen 0
    have c2_1 : w3.cell? ⟨b2, 1, none⟩ = some (.int .i64 4) := H9.out.k2.cell 1
    have y2_1 := H9.out.k2.frozen 1
    have c7_0 : w3.cell? ⟨b7, 0, none⟩ = some (.int .i64 0) := H9.out.k7.cell 0
    have y7_0 := H9.out.k7.frozen 0
    have c7_1 : w3.cell? ⟨b7, 1, none⟩ = some (.slice (some ⟨b5, 0, none⟩) 3 3) := H9.out.k7.cell 1
    have y7_1 := H9.out.k7.frozen 1
    have c7_3 : w3.cell? ⟨b7, 3, none⟩ = some (.slice (some ⟨b6, 0, none⟩) 2 2) := H9.out.k7.cell 3
    have y7_3 := H9.out.k7.frozen 3
    have c6_0 : w3.cell? ⟨b6, 0, none⟩ = some (.int .i64 11) := H9.out.k6.cell 0
    have y6_0 := H9.out.k6.frozen 0
    have c9_0 : w3.cell? ⟨b9, 0, none⟩ = some (.int .i64 2) := H9.out.k9.cell 0
    have y9_0 := H9.out.k9.frozen 0
    have c9_1 : w3.cell? ⟨b9, 1, none⟩ = some (.int .i64 2) := H9.out.k9.cell 1
    have y9_1 := H9.out.k9.frozen 1
    rcases (show I = 0 ∨ I = 1 ∨ I = 2 ∨ I = 3 ∨ I = 4 ∨ I = 5 ∨ I = 6 ∨ I = 7 ∨ I = 8 ∨ I = 9 ∨ I = 10 ∨ I = 11 ∨ I = 12 ∨ I = 13 ∨ I = 14 ∨ I = 15 ∨ I = 16 ∨ I = 17 ∨ I = 18 ∨ I = 19 ∨ I = 20 ∨ I = 21 ∨ I = 22 ∨ I = 23 ∨ I = 24 by omega) with rfl | rfl | rfl | rfl | rfl | rfl | rfl | rfl | rfl | rfl | rfl | rfl | rfl | rfl | rfl | rfl | rfl | rfl | rfl | rfl | rfl | rfl | rfl | rfl | rfl
    · -- 0
      have h9 : Pl9 (w3.setCell ⟨V, 0, none⟩ (.int .i64 12)) b1 b2 b3 b4 b5 b6 b7 b8 b9 := H9.out.far (p := ⟨V, 0, none⟩) (.inr hhi) (.int .i64 12)
      have hv := HV.out.set 0 (.int .i64 12)
      have hcf : CfAt (w3.setCell ⟨V, 0, none⟩ (.int .i64 12)) (.slice (some ⟨b4, 0, none⟩) 3 3) (.slice (some ⟨b7, 0, none⟩) 2 2) (.slice (some ⟨b8, 0, none⟩) 3 3) (.slice (some ⟨b9, 0, none⟩) 1 1) ⟨12, plP, plD, 6, plW, plG, 10, 6, 2⟩ :=
        ⟨P9.ps h9, paz_pl, P9.ds h9, dez_pl, P9.ws h9, by simp [plW], some_nil, P9.gs h9, by simp [plG], some_nil⟩
      have hmy : cfMay ⟨12, plP, plD, 6, plW, plG, 10, 6, 2⟩ = false := by kernel_rfl
      have HF : Hid (FmG w V (w3.setCell ⟨V, 0, none⟩ (.int .i64 12))) := Lib.hid ⟨⟨12, plP, plD, 6, plW, plG, 10, 6, 2⟩, _, _, _, _, hv, hcf, hmy, HB3.out.setCell (p := ⟨V, 0, none⟩) (show w.heap.size ≤ V by omega) _⟩
      clear h9 hv hcf hmy
      go_wp2_with fail
      go_meet
      exact HF
    · -- 1
      have h9 : Pl9 (w3.setCell ⟨V, 8, none⟩ (.int .i64 (8 + (1 + M)))) b1 b2 b3 b4 b5 b6 b7 b8 b9 := H9.out.far (p := ⟨V, 8, none⟩) (.inr hhi) (.int .i64 (8 + (1 + M)))
      have hv := HV.out.set 8 (.int .i64 (8 + (1 + M)))
      have hcf : CfAt (w3.setCell ⟨V, 8, none⟩ (.int .i64 (8 + (1 + M)))) (.slice (some ⟨b4, 0, none⟩) 3 3) (.slice (some ⟨b7, 0, none⟩) 2 2) (.slice (some ⟨b8, 0, none⟩) 3 3) (.slice (some ⟨b9, 0, none⟩) 1 1) ⟨16, plP, plD, 6, plW, plG, 10, 6, 8 + (1 + M)⟩ :=
        ⟨P9.ps h9, paz_pl, P9.ds h9, dez_pl, P9.ws h9, by simp [plW], some_nil, P9.gs h9, by simp [plG], some_nil⟩
      have hmy : cfMay ⟨16, plP, plD, 6, plW, plG, 10, 6, 8 + (1 + M)⟩ = false := cfn_qt (by
            unfold qtB btw; exact decide_eq_false (show ¬ (1 ≤ 8 + (1 + M) ∧ 8 + (1 + M) ≤ (8 : Int)) by omega))
      have HF : Hid (FmG w V (w3.setCell ⟨V, 8, none⟩ (.int .i64 (8 + (1 + M))))) := Lib.hid ⟨⟨16, plP, plD, 6, plW, plG, 10, 6, 8 + (1 + M)⟩, _, _, _, _, hv, hcf, hmy, HB3.out.setCell (p := ⟨V, 8, none⟩) (show w.heap.size ≤ V by omega) _⟩
      clear h9 hv hcf hmy
      go_wp2_with fail
      go_meet
      exact HF
    · -- 2
      have h9 : Pl9 (w3.setCell ⟨V, 1, none⟩ (.slice none 0 0)) b1 b2 b3 b4 b5 b6 b7 b8 b9 := H9.out.far (p := ⟨V, 1, none⟩) (.inr hhi) (.slice none 0 0)
      have hv := HV.out.set 1 (.slice none 0 0)
      have hcf : CfAt (w3.setCell ⟨V, 1, none⟩ (.slice none 0 0)) (.slice none 0 0) (.slice (some ⟨b7, 0, none⟩) 2 2) (.slice (some ⟨b8, 0, none⟩) 3 3) (.slice (some ⟨b9, 0, none⟩) 1 1) ⟨16, [], plD, 6, plW, plG, 10, 6, 2⟩ :=
        ⟨PaS.nil _, paz_of (by simp) all0, P9.ds h9, dez_pl, P9.ws h9, by simp [plW], some_nil, P9.gs h9, by simp [plG], some_nil⟩
      have hmy : cfMay ⟨16, [], plD, 6, plW, plG, 10, 6, 2⟩ = false := by kernel_rfl
      have HF : Hid (FmG w V (w3.setCell ⟨V, 1, none⟩ (.slice none 0 0))) := Lib.hid ⟨⟨16, [], plD, 6, plW, plG, 10, 6, 2⟩, _, _, _, _, hv, hcf, hmy, HB3.out.setCell (p := ⟨V, 1, none⟩) (show w.heap.size ≤ V by omega) _⟩
      clear h9 hv hcf hmy
      go_wp2_with fail
      go_meet
      exact HF
    · -- 3
      have h9 := H9.out.s4 0 (.int .i64 (-(1 + M)))
      have hv := HV.out.far (p := ⟨b4, 0, none⟩) (show V ≠ b4 by omega) (.int .i64 (-(1 + M)))
      have hcf : CfAt (w3.setCell ⟨b4, 0, none⟩ (.int .i64 (-(1 + M)))) (.slice (some ⟨b4, 0, none⟩) 3 3) (.slice (some ⟨b7, 0, none⟩) 2 2) (.slice (some ⟨b8, 0, none⟩) 3 3) (.slice (some ⟨b9, 0, none⟩) 1 1) ⟨16, [⟨-(1 + M), 0, [0, 1, 2], 0, 4⟩, ⟨2, 0, [3, 4], 4, 4⟩, ⟨1, 2, [5, 6], 8, 2⟩], plD, 6, plW, plG, 10, 6, 2⟩ :=
        ⟨PaS.blk (L := [(⟨-(1 + M), 0, [0, 1, 2], 0, 4⟩, .slice (some ⟨b1, 0, none⟩) 3 3), (⟨2, 0, [3, 4], 4, 4⟩, .slice (some ⟨b2, 0, none⟩) 2 2), (⟨1, 2, [5, 6], 8, 2⟩, .slice (some ⟨b3, 0, none⟩) 2 2)]) rfl rfl h9.k4 (all3 (Rw.blk h9.k1 (by simp)) (Rw.blk h9.k2 (by simp)) (Rw.blk h9.k3 (by simp))), paz_of (by simp) (all3 (by simp) (by simp) (by simp)), P9.ds h9, dez_pl, P9.ws h9, by simp [plW], some_nil, P9.gs h9, by simp [plG], some_nil⟩
      have hmy : cfMay ⟨16, [⟨-(1 + M), 0, [0, 1, 2], 0, 4⟩, ⟨2, 0, [3, 4], 4, 4⟩, ⟨1, 2, [5, 6], 8, 2⟩], plD, 6, plW, plG, 10, 6, 2⟩ = false := cfn_ps (by
            unfold psB; rw [show (List.all _ paB) = false from List.all_eq_false.2 ⟨_, List.mem_cons_self .., by unfold paB; rw [lB_no _ _ (show ¬ (0 ≤ -(1 + M) ∧ -(1 + M) ≤ 3 ∧ (0:Int) ≤ 0 ∧ (0:Int) ≤ 15) by omega)]; simp⟩]; simp)
      have HF : Hid (FmG w V (w3.setCell ⟨b4, 0, none⟩ (.int .i64 (-(1 + M))))) := Lib.hid ⟨⟨16, [⟨-(1 + M), 0, [0, 1, 2], 0, 4⟩, ⟨2, 0, [3, 4], 4, 4⟩, ⟨1, 2, [5, 6], 8, 2⟩], plD, 6, plW, plG, 10, 6, 2⟩, _, _, _, _, hv, hcf, hmy, HB3.out.setCell (p := ⟨b4, 0, none⟩) (show w.heap.size ≤ b4 by omega) _⟩
      clear h9 hv hcf hmy
      go_wp2_with fail
      go_meet
      exact HF
    · -- 4
      have h9 := H9.out.s4 7 (.slice none 0 0)
      have hv := HV.out.far (p := ⟨b4, 7, none⟩) (show V ≠ b4 by omega) (.slice none 0 0)
      have hcf : CfAt (w3.setCell ⟨b4, 7, none⟩ (.slice none 0 0)) (.slice (some ⟨b4, 0, none⟩) 3 3) (.slice (some ⟨b7, 0, none⟩) 2 2) (.slice (some ⟨b8, 0, none⟩) 3 3) (.slice (some ⟨b9, 0, none⟩) 1 1) ⟨16, [⟨0, 0, [0, 1, 2], 0, 4⟩, ⟨2, 0, [], 4, 4⟩, ⟨1, 2, [5, 6], 8, 2⟩], plD, 6, plW, plG, 10, 6, 2⟩ :=
        ⟨PaS.blk (L := [(⟨0, 0, [0, 1, 2], 0, 4⟩, .slice (some ⟨b1, 0, none⟩) 3 3), (⟨2, 0, [], 4, 4⟩, .slice none 0 0), (⟨1, 2, [5, 6], 8, 2⟩, .slice (some ⟨b3, 0, none⟩) 2 2)]) rfl rfl h9.k4 (all3 (Rw.blk h9.k1 (by simp)) (Rw.nil _) (Rw.blk h9.k3 (by simp))), paz_of (by simp) (all3 (by simp) (by simp) (by simp)), P9.ds h9, dez_pl, P9.ws h9, by simp [plW], some_nil, P9.gs h9, by simp [plG], some_nil⟩
      have hmy : cfMay ⟨16, [⟨0, 0, [0, 1, 2], 0, 4⟩, ⟨2, 0, [], 4, 4⟩, ⟨1, 2, [5, 6], 8, 2⟩], plD, 6, plW, plG, 10, 6, 2⟩ = false := by kernel_rfl
      have HF : Hid (FmG w V (w3.setCell ⟨b4, 7, none⟩ (.slice none 0 0))) := Lib.hid ⟨⟨16, [⟨0, 0, [0, 1, 2], 0, 4⟩, ⟨2, 0, [], 4, 4⟩, ⟨1, 2, [5, 6], 8, 2⟩], plD, 6, plW, plG, 10, 6, 2⟩, _, _, _, _, hv, hcf, hmy, HB3.out.setCell (p := ⟨b4, 7, none⟩) (show w.heap.size ≤ b4 by omega) _⟩
      clear h9 hv hcf hmy
      go_wp2_with fail
      go_meet
      exact HF
    · -- 5
      have h9 := H9.out.s2 0 (.int .i64 0)
      have hv := HV.out.far (p := ⟨b2, 0, none⟩) (show V ≠ b2 by omega) (.int .i64 0)
      have hcf : CfAt (w3.setCell ⟨b2, 0, none⟩ (.int .i64 0)) (.slice (some ⟨b4, 0, none⟩) 3 3) (.slice (some ⟨b7, 0, none⟩) 2 2) (.slice (some ⟨b8, 0, none⟩) 3 3) (.slice (some ⟨b9, 0, none⟩) 1 1) ⟨16, [⟨0, 0, [0, 1, 2], 0, 4⟩, ⟨2, 0, [0, 4], 4, 4⟩, ⟨1, 2, [5, 6], 8, 2⟩], plD, 6, plW, plG, 10, 6, 2⟩ :=
        ⟨PaS.blk (L := [(⟨0, 0, [0, 1, 2], 0, 4⟩, .slice (some ⟨b1, 0, none⟩) 3 3), (⟨2, 0, [0, 4], 4, 4⟩, .slice (some ⟨b2, 0, none⟩) 2 2), (⟨1, 2, [5, 6], 8, 2⟩, .slice (some ⟨b3, 0, none⟩) 2 2)]) rfl rfl h9.k4 (all3 (Rw.blk h9.k1 (by simp)) (Rw.blk (l := [0, 4]) h9.k2 (by simp)) (Rw.blk h9.k3 (by simp))), paz_of (by simp) (all3 (by simp) (by simp) (by simp)), P9.ds h9, dez_pl, P9.ws h9, by simp [plW], some_nil, P9.gs h9, by simp [plG], some_nil⟩
      have hmy : cfMay ⟨16, [⟨0, 0, [0, 1, 2], 0, 4⟩, ⟨2, 0, [0, 4], 4, 4⟩, ⟨1, 2, [5, 6], 8, 2⟩], plD, 6, plW, plG, 10, 6, 2⟩ = false := by kernel_rfl
      have HF : Hid (FmG w V (w3.setCell ⟨b2, 0, none⟩ (.int .i64 0))) := Lib.hid ⟨⟨16, [⟨0, 0, [0, 1, 2], 0, 4⟩, ⟨2, 0, [0, 4], 4, 4⟩, ⟨1, 2, [5, 6], 8, 2⟩], plD, 6, plW, plG, 10, 6, 2⟩, _, _, _, _, hv, hcf, hmy, HB3.out.setCell (p := ⟨b2, 0, none⟩) (show w.heap.size ≤ b2 by omega) _⟩
      clear h9 hv hcf hmy
      go_wp2_with fail
      go_meet
      exact HF
    · -- 6
      have h9 := H9.out.s2 0 (.int .i64 (15 + (1 + M)))
      have hv := HV.out.far (p := ⟨b2, 0, none⟩) (show V ≠ b2 by omega) (.int .i64 (15 + (1 + M)))
      have hcf : CfAt (w3.setCell ⟨b2, 0, none⟩ (.int .i64 (15 + (1 + M)))) (.slice (some ⟨b4, 0, none⟩) 3 3) (.slice (some ⟨b7, 0, none⟩) 2 2) (.slice (some ⟨b8, 0, none⟩) 3 3) (.slice (some ⟨b9, 0, none⟩) 1 1) ⟨16, [⟨0, 0, [0, 1, 2], 0, 4⟩, ⟨2, 0, [15 + (1 + M), 4], 4, 4⟩, ⟨1, 2, [5, 6], 8, 2⟩], plD, 6, plW, plG, 10, 6, 2⟩ :=
        ⟨PaS.blk (L := [(⟨0, 0, [0, 1, 2], 0, 4⟩, .slice (some ⟨b1, 0, none⟩) 3 3), (⟨2, 0, [15 + (1 + M), 4], 4, 4⟩, .slice (some ⟨b2, 0, none⟩) 2 2), (⟨1, 2, [5, 6], 8, 2⟩, .slice (some ⟨b3, 0, none⟩) 2 2)]) rfl rfl h9.k4 (all3 (Rw.blk h9.k1 (by simp)) (Rw.blk (l := [15 + (1 + M), 4]) h9.k2 (by simp)) (Rw.blk h9.k3 (by simp))), paz_of (by simp) (all3 (by simp) (by simp) (by simp)), P9.ds h9, dez_pl, P9.ws h9, by simp [plW], some_nil, P9.gs h9, by simp [plG], some_nil⟩
      have hmy : cfMay ⟨16, [⟨0, 0, [0, 1, 2], 0, 4⟩, ⟨2, 0, [15 + (1 + M), 4], 4, 4⟩, ⟨1, 2, [5, 6], 8, 2⟩], plD, 6, plW, plG, 10, 6, 2⟩ = false := cfn_un (by
            have hx : ∀ T, fgB 16 T (15 + (1 + M)) = false := fun T => by unfold fgB; rw [decide_eq_false (show ¬ (0 ≤ 15 + (1 + M) ∧ 15 + (1 + M) < (16 : Int)) by omega)]; rfl
            simp [unB, gpB, giB, hx])
      have HF : Hid (FmG w V (w3.setCell ⟨b2, 0, none⟩ (.int .i64 (15 + (1 + M))))) := Lib.hid ⟨⟨16, [⟨0, 0, [0, 1, 2], 0, 4⟩, ⟨2, 0, [15 + (1 + M), 4], 4, 4⟩, ⟨1, 2, [5, 6], 8, 2⟩], plD, 6, plW, plG, 10, 6, 2⟩, _, _, _, _, hv, hcf, hmy, HB3.out.setCell (p := ⟨b2, 0, none⟩) (show w.heap.size ≤ b2 by omega) _⟩
      clear h9 hv hcf hmy
      go_wp2_with fail
      go_meet
      exact HF
    · -- 7
      have h9 := H9.out.s2 1 (.int .i64 (-(1 + M)))
      have hv := HV.out.far (p := ⟨b2, 1, none⟩) (show V ≠ b2 by omega) (.int .i64 (-(1 + M)))
      have hcf : CfAt (w3.setCell ⟨b2, 1, none⟩ (.int .i64 (-(1 + M)))) (.slice (some ⟨b4, 0, none⟩) 3 3) (.slice (some ⟨b7, 0, none⟩) 2 2) (.slice (some ⟨b8, 0, none⟩) 3 3) (.slice (some ⟨b9, 0, none⟩) 1 1) ⟨16, [⟨0, 0, [0, 1, 2], 0, 4⟩, ⟨2, 0, [3, -(1 + M)], 4, 4⟩, ⟨1, 2, [5, 6], 8, 2⟩], plD, 6, plW, plG, 10, 6, 2⟩ :=
        ⟨PaS.blk (L := [(⟨0, 0, [0, 1, 2], 0, 4⟩, .slice (some ⟨b1, 0, none⟩) 3 3), (⟨2, 0, [3, -(1 + M)], 4, 4⟩, .slice (some ⟨b2, 0, none⟩) 2 2), (⟨1, 2, [5, 6], 8, 2⟩, .slice (some ⟨b3, 0, none⟩) 2 2)]) rfl rfl h9.k4 (all3 (Rw.blk h9.k1 (by simp)) (Rw.blk (l := [3, -(1 + M)]) h9.k2 (by simp)) (Rw.blk h9.k3 (by simp))), paz_of (by simp) (all3 (by simp) (by simp) (by simp)), P9.ds h9, dez_pl, P9.ws h9, by simp [plW], some_nil, P9.gs h9, by simp [plG], some_nil⟩
      have hmy : cfMay ⟨16, [⟨0, 0, [0, 1, 2], 0, 4⟩, ⟨2, 0, [3, -(1 + M)], 4, 4⟩, ⟨1, 2, [5, 6], 8, 2⟩], plD, 6, plW, plG, 10, 6, 2⟩ = false := cfn_un (by
            have hx : ∀ T, fgB 16 T (-(1 + M)) = false := fun T => by unfold fgB; rw [decide_eq_false (show ¬ (0 ≤ -(1 + M) ∧ -(1 + M) < (16 : Int)) by omega)]; rfl
            simp [unB, gpB, giB, hx])
      have HF : Hid (FmG w V (w3.setCell ⟨b2, 1, none⟩ (.int .i64 (-(1 + M))))) := Lib.hid ⟨⟨16, [⟨0, 0, [0, 1, 2], 0, 4⟩, ⟨2, 0, [3, -(1 + M)], 4, 4⟩, ⟨1, 2, [5, 6], 8, 2⟩], plD, 6, plW, plG, 10, 6, 2⟩, _, _, _, _, hv, hcf, hmy, HB3.out.setCell (p := ⟨b2, 1, none⟩) (show w.heap.size ≤ b2 by omega) _⟩
      clear h9 hv hcf hmy
      go_wp2_with fail
      go_meet
      exact HF
    · -- 8
      have h9 : Pl9 (w3.setCell ⟨V, 2, none⟩ (.slice none 0 0)) b1 b2 b3 b4 b5 b6 b7 b8 b9 := H9.out.far (p := ⟨V, 2, none⟩) (.inr hhi) (.slice none 0 0)
      have hv := HV.out.set 2 (.slice none 0 0)
      have hcf : CfAt (w3.setCell ⟨V, 2, none⟩ (.slice none 0 0)) (.slice (some ⟨b4, 0, none⟩) 3 3) (.slice none 0 0) (.slice (some ⟨b8, 0, none⟩) 3 3) (.slice (some ⟨b9, 0, none⟩) 1 1) ⟨16, plP, [], 6, plW, plG, 10, 6, 2⟩ :=
        ⟨P9.ps h9, paz_pl, DeS.nil _, dez_of (by simp) all0, P9.ws h9, by simp [plW], some_nil, P9.gs h9, by simp [plG], some_nil⟩
      have hmy : cfMay ⟨16, plP, [], 6, plW, plG, 10, 6, 2⟩ = false := by kernel_rfl
      have HF : Hid (FmG w V (w3.setCell ⟨V, 2, none⟩ (.slice none 0 0))) := Lib.hid ⟨⟨16, plP, [], 6, plW, plG, 10, 6, 2⟩, _, _, _, _, hv, hcf, hmy, HB3.out.setCell (p := ⟨V, 2, none⟩) (show w.heap.size ≤ V by omega) _⟩
      clear h9 hv hcf hmy
      go_wp2_with fail
      go_meet
      exact HF
    · -- 9
      have h9 := H9.out.s7 0 (.int .i64 (2 + (1 + M)))
      have hv := HV.out.far (p := ⟨b7, 0, none⟩) (show V ≠ b7 by omega) (.int .i64 (2 + (1 + M)))
      have hcf : CfAt (w3.setCell ⟨b7, 0, none⟩ (.int .i64 (2 + (1 + M)))) (.slice (some ⟨b4, 0, none⟩) 3 3) (.slice (some ⟨b7, 0, none⟩) 2 2) (.slice (some ⟨b8, 0, none⟩) 3 3) (.slice (some ⟨b9, 0, none⟩) 1 1) ⟨16, plP, [⟨2 + (1 + M), [8, 9, 10]⟩, ⟨2, [11, 12]⟩], 6, plW, plG, 10, 6, 2⟩ :=
        ⟨P9.ps h9, paz_pl, DeS.blk (L := [(⟨2 + (1 + M), [8, 9, 10]⟩, .slice (some ⟨b5, 0, none⟩) 3 3), (⟨2, [11, 12]⟩, .slice (some ⟨b6, 0, none⟩) 2 2)]) rfl rfl h9.k7 (all2 (Rw.blk h9.k5 (by simp)) (Rw.blk h9.k6 (by simp))), dez_of (by simp) (all2 (by simp) (by simp)), P9.ws h9, by simp [plW], some_nil, P9.gs h9, by simp [plG], some_nil⟩
      have hmy : cfMay ⟨16, plP, [⟨2 + (1 + M), [8, 9, 10]⟩, ⟨2, [11, 12]⟩], 6, plW, plG, 10, 6, 2⟩ = false := cfn_ds (by
            unfold dsB; rw [show (List.all _ (dvB _)) = false from List.all_eq_false.2 ⟨_, List.mem_cons_self .., by unfold dvB; rw [show inP _ (2 + (1 + M)) = false from decide_eq_false (by simp only [plP, List.length_cons, List.length_nil]; omega)]; simp⟩]; simp)
      have HF : Hid (FmG w V (w3.setCell ⟨b7, 0, none⟩ (.int .i64 (2 + (1 + M))))) := Lib.hid ⟨⟨16, plP, [⟨2 + (1 + M), [8, 9, 10]⟩, ⟨2, [11, 12]⟩], 6, plW, plG, 10, 6, 2⟩, _, _, _, _, hv, hcf, hmy, HB3.out.setCell (p := ⟨b7, 0, none⟩) (show w.heap.size ≤ b7 by omega) _⟩
      clear h9 hv hcf hmy
      go_wp2_with fail
      go_meet
      exact HF
    · -- 10
      have h9 := H9.out.s7 0 (.int .i64 (-(1 + M)))
      have hv := HV.out.far (p := ⟨b7, 0, none⟩) (show V ≠ b7 by omega) (.int .i64 (-(1 + M)))
      have hcf : CfAt (w3.setCell ⟨b7, 0, none⟩ (.int .i64 (-(1 + M)))) (.slice (some ⟨b4, 0, none⟩) 3 3) (.slice (some ⟨b7, 0, none⟩) 2 2) (.slice (some ⟨b8, 0, none⟩) 3 3) (.slice (some ⟨b9, 0, none⟩) 1 1) ⟨16, plP, [⟨-(1 + M), [8, 9, 10]⟩, ⟨2, [11, 12]⟩], 6, plW, plG, 10, 6, 2⟩ :=
        ⟨P9.ps h9, paz_pl, DeS.blk (L := [(⟨-(1 + M), [8, 9, 10]⟩, .slice (some ⟨b5, 0, none⟩) 3 3), (⟨2, [11, 12]⟩, .slice (some ⟨b6, 0, none⟩) 2 2)]) rfl rfl h9.k7 (all2 (Rw.blk h9.k5 (by simp)) (Rw.blk h9.k6 (by simp))), dez_of (by simp) (all2 (by simp) (by simp)), P9.ws h9, by simp [plW], some_nil, P9.gs h9, by simp [plG], some_nil⟩
      have hmy : cfMay ⟨16, plP, [⟨-(1 + M), [8, 9, 10]⟩, ⟨2, [11, 12]⟩], 6, plW, plG, 10, 6, 2⟩ = false := cfn_ds (by
            unfold dsB; rw [show (List.all _ (dvB _)) = false from List.all_eq_false.2 ⟨_, List.mem_cons_self .., by unfold dvB; rw [show inP _ (-(1 + M)) = false from decide_eq_false (by simp only [plP, List.length_cons, List.length_nil]; omega)]; simp⟩]; simp)
      have HF : Hid (FmG w V (w3.setCell ⟨b7, 0, none⟩ (.int .i64 (-(1 + M))))) := Lib.hid ⟨⟨16, plP, [⟨-(1 + M), [8, 9, 10]⟩, ⟨2, [11, 12]⟩], 6, plW, plG, 10, 6, 2⟩, _, _, _, _, hv, hcf, hmy, HB3.out.setCell (p := ⟨b7, 0, none⟩) (show w.heap.size ≤ b7 by omega) _⟩
      clear h9 hv hcf hmy
      go_wp2_with fail
      go_meet
      exact HF
    · -- 11
      have ba : Below w3.heap.size (w3.setCell ⟨b7, 1, none⟩ (.slice (some ⟨w3.heap.size, 0, none⟩) 1 1)) ((w3.setCell ⟨b7, 1, none⟩ (.slice (some ⟨w3.heap.size, 0, none⟩) 1 1)).alloc (.cells #[.int .i64 8] 3)) := (Below.refl _ _).alloc (by simp [World.setCell]) _
      have h9 := ((H9.out.s7 1 (.slice (some ⟨w3.heap.size, 0, none⟩) 1 1)).below (w' := ((w3.setCell ⟨b7, 1, none⟩ (.slice (some ⟨w3.heap.size, 0, none⟩) 1 1)).alloc (.cells #[.int .i64 8] 3))) ((Below.refl _ _).alloc (Nat.le_refl _) _))
      have hv := (HV.out.far (p := ⟨b7, 1, none⟩) (show V ≠ b7 by omega) (.slice (some ⟨w3.heap.size, 0, none⟩) 1 1)).alloc (.cells #[.int .i64 8] 3)
      have hnb : Blk ((w3.setCell ⟨b7, 1, none⟩ (.slice (some ⟨w3.heap.size, 0, none⟩) 1 1)).alloc (.cells #[.int .i64 8] 3)) w3.heap.size 3 (ints [8]) := by
        have := Blk.new (w3.setCell ⟨b7, 1, none⟩ (.slice (some ⟨w3.heap.size, 0, none⟩) 1 1)) 3 (ints [8])
        rw [show (w3.setCell ⟨b7, 1, none⟩ (.slice (some ⟨w3.heap.size, 0, none⟩) 1 1)).heap.size = w3.heap.size by simp [World.setCell]] at this
        exact this
      have hka := H9.out.k7.alloc (.cells #[.int .i64 8] 3)
      have ca : (w3.alloc (.cells #[.int .i64 8] 3)).cell? ⟨b7, 1, none⟩ = some (.slice (some ⟨b5, 0, none⟩) 3 3) := hka.cell 1
      have ya := hka.frozen 1
      have hb7l := H9.out.k7.lt
      have hcf : CfAt ((w3.setCell ⟨b7, 1, none⟩ (.slice (some ⟨w3.heap.size, 0, none⟩) 1 1)).alloc (.cells #[.int .i64 8] 3)) (.slice (some ⟨b4, 0, none⟩) 3 3) (.slice (some ⟨b7, 0, none⟩) 2 2) (.slice (some ⟨b8, 0, none⟩) 3 3) (.slice (some ⟨b9, 0, none⟩) 1 1) ⟨16, plP, [⟨0, [8]⟩, ⟨2, [11, 12]⟩], 6, plW, plG, 10, 6, 2⟩ :=
        ⟨P9.ps h9, paz_pl, DeS.blk (L := [(⟨0, [8]⟩, .slice (some ⟨w3.heap.size, 0, none⟩) 1 1), (⟨2, [11, 12]⟩, .slice (some ⟨b6, 0, none⟩) 2 2)]) rfl rfl h9.k7 (all2 (Rw.blk (l := [8]) hnb (by simp)) (Rw.blk h9.k6 (by simp))), dez_of (by simp) (all2 (by simp) (by simp)), P9.ws h9, by simp [plW], some_nil, P9.gs h9, by simp [plG], some_nil⟩
      have hmy : cfMay ⟨16, plP, [⟨0, [8]⟩, ⟨2, [11, 12]⟩], 6, plW, plG, 10, 6, 2⟩ = false := by kernel_rfl
      have HF : Hid (FmG w V ((w3.setCell ⟨b7, 1, none⟩ (.slice (some ⟨w3.heap.size, 0, none⟩) 1 1)).alloc (.cells #[.int .i64 8] 3))) := Lib.hid ⟨⟨16, plP, [⟨0, [8]⟩, ⟨2, [11, 12]⟩], 6, plW, plG, 10, 6, 2⟩, _, _, _, _, hv, hcf, hmy, (HB3.out.setCell (p := ⟨b7, 1, none⟩) (show w.heap.size ≤ b7 by omega) _).alloc (by simp [World.setCell]; have := HZZ.out; omega) _⟩
      clear h9 hv hcf hmy
      go_wp2_with fail
      go_meet
      exact HF
    · -- 12
      have ba : Below w3.heap.size (w3.setCell ⟨b7, 1, none⟩ (.slice (some ⟨w3.heap.size, 0, none⟩) 6 6)) ((w3.setCell ⟨b7, 1, none⟩ (.slice (some ⟨w3.heap.size, 0, none⟩) 6 6)).alloc (.cells #[.int .i64 8, .int .i64 9, .int .i64 10, .int .i64 13, .int .i64 14, .int .i64 15] 3)) := (Below.refl _ _).alloc (by simp [World.setCell]) _
      have h9 := ((H9.out.s7 1 (.slice (some ⟨w3.heap.size, 0, none⟩) 6 6)).below (w' := ((w3.setCell ⟨b7, 1, none⟩ (.slice (some ⟨w3.heap.size, 0, none⟩) 6 6)).alloc (.cells #[.int .i64 8, .int .i64 9, .int .i64 10, .int .i64 13, .int .i64 14, .int .i64 15] 3))) ((Below.refl _ _).alloc (Nat.le_refl _) _))
      have hv := (HV.out.far (p := ⟨b7, 1, none⟩) (show V ≠ b7 by omega) (.slice (some ⟨w3.heap.size, 0, none⟩) 6 6)).alloc (.cells #[.int .i64 8, .int .i64 9, .int .i64 10, .int .i64 13, .int .i64 14, .int .i64 15] 3)
      have hnb : Blk ((w3.setCell ⟨b7, 1, none⟩ (.slice (some ⟨w3.heap.size, 0, none⟩) 6 6)).alloc (.cells #[.int .i64 8, .int .i64 9, .int .i64 10, .int .i64 13, .int .i64 14, .int .i64 15] 3)) w3.heap.size 3 (ints [8, 9, 10, 13, 14, 15]) := by
        have := Blk.new (w3.setCell ⟨b7, 1, none⟩ (.slice (some ⟨w3.heap.size, 0, none⟩) 6 6)) 3 (ints [8, 9, 10, 13, 14, 15])
        rw [show (w3.setCell ⟨b7, 1, none⟩ (.slice (some ⟨w3.heap.size, 0, none⟩) 6 6)).heap.size = w3.heap.size by simp [World.setCell]] at this
        exact this
      have hka := H9.out.k7.alloc (.cells #[.int .i64 8, .int .i64 9, .int .i64 10, .int .i64 13, .int .i64 14, .int .i64 15] 3)
      have ca : (w3.alloc (.cells #[.int .i64 8, .int .i64 9, .int .i64 10, .int .i64 13, .int .i64 14, .int .i64 15] 3)).cell? ⟨b7, 1, none⟩ = some (.slice (some ⟨b5, 0, none⟩) 3 3) := hka.cell 1
      have ya := hka.frozen 1
      have hb7l := H9.out.k7.lt
      have hcf : CfAt ((w3.setCell ⟨b7, 1, none⟩ (.slice (some ⟨w3.heap.size, 0, none⟩) 6 6)).alloc (.cells #[.int .i64 8, .int .i64 9, .int .i64 10, .int .i64 13, .int .i64 14, .int .i64 15] 3)) (.slice (some ⟨b4, 0, none⟩) 3 3) (.slice (some ⟨b7, 0, none⟩) 2 2) (.slice (some ⟨b8, 0, none⟩) 3 3) (.slice (some ⟨b9, 0, none⟩) 1 1) ⟨16, plP, [⟨0, [8, 9, 10, 13, 14, 15]⟩, ⟨2, [11, 12]⟩], 6, plW, plG, 10, 6, 2⟩ :=
        ⟨P9.ps h9, paz_pl, DeS.blk (L := [(⟨0, [8, 9, 10, 13, 14, 15]⟩, .slice (some ⟨w3.heap.size, 0, none⟩) 6 6), (⟨2, [11, 12]⟩, .slice (some ⟨b6, 0, none⟩) 2 2)]) rfl rfl h9.k7 (all2 (Rw.blk (l := [8, 9, 10, 13, 14, 15]) hnb (by simp)) (Rw.blk h9.k6 (by simp))), dez_of (by simp) (all2 (by simp) (by simp)), P9.ws h9, by simp [plW], some_nil, P9.gs h9, by simp [plG], some_nil⟩
      have hmy : cfMay ⟨16, plP, [⟨0, [8, 9, 10, 13, 14, 15]⟩, ⟨2, [11, 12]⟩], 6, plW, plG, 10, 6, 2⟩ = false := by kernel_rfl
      have HF : Hid (FmG w V ((w3.setCell ⟨b7, 1, none⟩ (.slice (some ⟨w3.heap.size, 0, none⟩) 6 6)).alloc (.cells #[.int .i64 8, .int .i64 9, .int .i64 10, .int .i64 13, .int .i64 14, .int .i64 15] 3))) := Lib.hid ⟨⟨16, plP, [⟨0, [8, 9, 10, 13, 14, 15]⟩, ⟨2, [11, 12]⟩], 6, plW, plG, 10, 6, 2⟩, _, _, _, _, hv, hcf, hmy, (HB3.out.setCell (p := ⟨b7, 1, none⟩) (show w.heap.size ≤ b7 by omega) _).alloc (by simp [World.setCell]; have := HZZ.out; omega) _⟩
      clear h9 hv hcf hmy
      go_wp2_with fail
      go_meet
      exact HF
    · -- 13
      have h9 := H9.out.s6 0 (.int .i64 8)
      have hv := HV.out.far (p := ⟨b6, 0, none⟩) (show V ≠ b6 by omega) (.int .i64 8)
      have hcf : CfAt (w3.setCell ⟨b6, 0, none⟩ (.int .i64 8)) (.slice (some ⟨b4, 0, none⟩) 3 3) (.slice (some ⟨b7, 0, none⟩) 2 2) (.slice (some ⟨b8, 0, none⟩) 3 3) (.slice (some ⟨b9, 0, none⟩) 1 1) ⟨16, plP, [⟨0, [8, 9, 10]⟩, ⟨2, [8, 12]⟩], 6, plW, plG, 10, 6, 2⟩ :=
        ⟨P9.ps h9, paz_pl, DeS.blk (L := [(⟨0, [8, 9, 10]⟩, .slice (some ⟨b5, 0, none⟩) 3 3), (⟨2, [8, 12]⟩, .slice (some ⟨b6, 0, none⟩) 2 2)]) rfl rfl h9.k7 (all2 (Rw.blk h9.k5 (by simp)) (Rw.blk (l := [8, 12]) h9.k6 (by simp))), dez_of (by simp) (all2 (by simp) (by simp)), P9.ws h9, by simp [plW], some_nil, P9.gs h9, by simp [plG], some_nil⟩
      have hmy : cfMay ⟨16, plP, [⟨0, [8, 9, 10]⟩, ⟨2, [8, 12]⟩], 6, plW, plG, 10, 6, 2⟩ = false := by kernel_rfl
      have HF : Hid (FmG w V (w3.setCell ⟨b6, 0, none⟩ (.int .i64 8))) := Lib.hid ⟨⟨16, plP, [⟨0, [8, 9, 10]⟩, ⟨2, [8, 12]⟩], 6, plW, plG, 10, 6, 2⟩, _, _, _, _, hv, hcf, hmy, HB3.out.setCell (p := ⟨b6, 0, none⟩) (show w.heap.size ≤ b6 by omega) _⟩
      clear h9 hv hcf hmy
      go_wp2_with fail
      go_meet
      exact HF
    · -- 14
      have h9 := H9.out.s6 0 (.int .i64 5)
      have hv := HV.out.far (p := ⟨b6, 0, none⟩) (show V ≠ b6 by omega) (.int .i64 5)
      have hcf : CfAt (w3.setCell ⟨b6, 0, none⟩ (.int .i64 5)) (.slice (some ⟨b4, 0, none⟩) 3 3) (.slice (some ⟨b7, 0, none⟩) 2 2) (.slice (some ⟨b8, 0, none⟩) 3 3) (.slice (some ⟨b9, 0, none⟩) 1 1) ⟨16, plP, [⟨0, [8, 9, 10]⟩, ⟨2, [5, 12]⟩], 6, plW, plG, 10, 6, 2⟩ :=
        ⟨P9.ps h9, paz_pl, DeS.blk (L := [(⟨0, [8, 9, 10]⟩, .slice (some ⟨b5, 0, none⟩) 3 3), (⟨2, [5, 12]⟩, .slice (some ⟨b6, 0, none⟩) 2 2)]) rfl rfl h9.k7 (all2 (Rw.blk h9.k5 (by simp)) (Rw.blk (l := [5, 12]) h9.k6 (by simp))), dez_of (by simp) (all2 (by simp) (by simp)), P9.ws h9, by simp [plW], some_nil, P9.gs h9, by simp [plG], some_nil⟩
      have hmy : cfMay ⟨16, plP, [⟨0, [8, 9, 10]⟩, ⟨2, [5, 12]⟩], 6, plW, plG, 10, 6, 2⟩ = false := by kernel_rfl
      have HF : Hid (FmG w V (w3.setCell ⟨b6, 0, none⟩ (.int .i64 5))) := Lib.hid ⟨⟨16, plP, [⟨0, [8, 9, 10]⟩, ⟨2, [5, 12]⟩], 6, plW, plG, 10, 6, 2⟩, _, _, _, _, hv, hcf, hmy, HB3.out.setCell (p := ⟨b6, 0, none⟩) (show w.heap.size ≤ b6 by omega) _⟩
      clear h9 hv hcf hmy
      go_wp2_with fail
      go_meet
      exact HF
    · -- 15
      have h9 : Pl9 (w3.setCell ⟨V, 4, none⟩ (.slice (some ⟨b8, 0, none⟩) 2 3)) b1 b2 b3 b4 b5 b6 b7 b8 b9 := H9.out.far (p := ⟨V, 4, none⟩) (.inr hhi) (.slice (some ⟨b8, 0, none⟩) 2 3)
      have hv := HV.out.set 4 (.slice (some ⟨b8, 0, none⟩) 2 3)
      have hcf : CfAt (w3.setCell ⟨V, 4, none⟩ (.slice (some ⟨b8, 0, none⟩) 2 3)) (.slice (some ⟨b4, 0, none⟩) 3 3) (.slice (some ⟨b7, 0, none⟩) 2 2) (.slice (some ⟨b8, 0, none⟩) 2 3) (.slice (some ⟨b9, 0, none⟩) 1 1) ⟨16, plP, plD, 6, [⟨0, 0, 2, 1⟩, ⟨1, 2, 2, 2⟩], plG, 10, 6, 2⟩ :=
        ⟨P9.ps h9, paz_pl, P9.ds h9, dez_pl, ⟨Sl.blk (ys := ints [2, 4, 2, 5]) h9.k8 (by decide) rfl, rfl, by unfold maxLen; simp, all2 (plW64 _ (by simp [plW])) (plW64 _ (by simp [plW]))⟩, by simp [plW], some_nil, P9.gs h9, by simp [plG], some_nil⟩
      have hmy : cfMay ⟨16, plP, plD, 6, [⟨0, 0, 2, 1⟩, ⟨1, 2, 2, 2⟩], plG, 10, 6, 2⟩ = false := by kernel_rfl
      have HF : Hid (FmG w V (w3.setCell ⟨V, 4, none⟩ (.slice (some ⟨b8, 0, none⟩) 2 3))) := Lib.hid ⟨⟨16, plP, plD, 6, [⟨0, 0, 2, 1⟩, ⟨1, 2, 2, 2⟩], plG, 10, 6, 2⟩, _, _, _, _, hv, hcf, hmy, HB3.out.setCell (p := ⟨V, 4, none⟩) (show w.heap.size ≤ V by omega) _⟩
      clear h9 hv hcf hmy
      go_wp2_with fail
      go_meet
      exact HF
    · -- 16
      have h9 : Pl9 (w3.setCell ⟨V, 3, none⟩ (.int .i64 5)) b1 b2 b3 b4 b5 b6 b7 b8 b9 := H9.out.far (p := ⟨V, 3, none⟩) (.inr hhi) (.int .i64 5)
      have hv := HV.out.set 3 (.int .i64 5)
      have hcf : CfAt (w3.setCell ⟨V, 3, none⟩ (.int .i64 5)) (.slice (some ⟨b4, 0, none⟩) 3 3) (.slice (some ⟨b7, 0, none⟩) 2 2) (.slice (some ⟨b8, 0, none⟩) 3 3) (.slice (some ⟨b9, 0, none⟩) 1 1) ⟨16, plP, plD, 5, plW, plG, 10, 6, 2⟩ :=
        ⟨P9.ps h9, paz_pl, P9.ds h9, dez_pl, P9.ws h9, by simp [plW], some_nil, P9.gs h9, by simp [plG], some_nil⟩
      have hmy : cfMay ⟨16, plP, plD, 5, plW, plG, 10, 6, 2⟩ = false := by kernel_rfl
      have HF : Hid (FmG w V (w3.setCell ⟨V, 3, none⟩ (.int .i64 5))) := Lib.hid ⟨⟨16, plP, plD, 5, plW, plG, 10, 6, 2⟩, _, _, _, _, hv, hcf, hmy, HB3.out.setCell (p := ⟨V, 3, none⟩) (show w.heap.size ≤ V by omega) _⟩
      clear h9 hv hcf hmy
      go_wp2_with fail
      go_meet
      exact HF
    · -- 17
      have h9 := H9.out.s9 0 (.int .i64 7)
      have hv := HV.out.far (p := ⟨b9, 0, none⟩) (show V ≠ b9 by omega) (.int .i64 7)
      have hcf : CfAt (w3.setCell ⟨b9, 0, none⟩ (.int .i64 7)) (.slice (some ⟨b4, 0, none⟩) 3 3) (.slice (some ⟨b7, 0, none⟩) 2 2) (.slice (some ⟨b8, 0, none⟩) 3 3) (.slice (some ⟨b9, 0, none⟩) 1 1) ⟨16, plP, plD, 6, plW, [⟨7, 2, false⟩], 10, 6, 2⟩ :=
        ⟨P9.ps h9, paz_pl, P9.ds h9, dez_pl, P9.ws h9, by simp [plW], some_nil, Sl.blk0 h9.k9 (by decide) rfl, by simp [plG], some_nil⟩
      have hmy : cfMay ⟨16, plP, plD, 6, plW, [⟨7, 2, false⟩], 10, 6, 2⟩ = false := by kernel_rfl
      have HF : Hid (FmG w V (w3.setCell ⟨b9, 0, none⟩ (.int .i64 7))) := Lib.hid ⟨⟨16, plP, plD, 6, plW, [⟨7, 2, false⟩], 10, 6, 2⟩, _, _, _, _, hv, hcf, hmy, HB3.out.setCell (p := ⟨b9, 0, none⟩) (show w.heap.size ≤ b9 by omega) _⟩
      clear h9 hv hcf hmy
      go_wp2_with fail
      go_meet
      exact HF
    · -- 18
      have h9 := H9.out.s9 0 (.int .i64 8)
      have hv := HV.out.far (p := ⟨b9, 0, none⟩) (show V ≠ b9 by omega) (.int .i64 8)
      have hcf : CfAt (w3.setCell ⟨b9, 0, none⟩ (.int .i64 8)) (.slice (some ⟨b4, 0, none⟩) 3 3) (.slice (some ⟨b7, 0, none⟩) 2 2) (.slice (some ⟨b8, 0, none⟩) 3 3) (.slice (some ⟨b9, 0, none⟩) 1 1) ⟨16, plP, plD, 6, plW, [⟨8, 2, false⟩], 10, 6, 2⟩ :=
        ⟨P9.ps h9, paz_pl, P9.ds h9, dez_pl, P9.ws h9, by simp [plW], some_nil, Sl.blk0 h9.k9 (by decide) rfl, by simp [plG], some_nil⟩
      have hmy : cfMay ⟨16, plP, plD, 6, plW, [⟨8, 2, false⟩], 10, 6, 2⟩ = false := by kernel_rfl
      have HF : Hid (FmG w V (w3.setCell ⟨b9, 0, none⟩ (.int .i64 8))) := Lib.hid ⟨⟨16, plP, plD, 6, plW, [⟨8, 2, false⟩], 10, 6, 2⟩, _, _, _, _, hv, hcf, hmy, HB3.out.setCell (p := ⟨b9, 0, none⟩) (show w.heap.size ≤ b9 by omega) _⟩
      clear h9 hv hcf hmy
      go_wp2_with fail
      go_meet
      exact HF
    · -- 19
      have h9 := H9.out.s9 1 (.int .i64 (2 + (1 + M)))
      have hv := HV.out.far (p := ⟨b9, 1, none⟩) (show V ≠ b9 by omega) (.int .i64 (2 + (1 + M)))
      have hcf : CfAt (w3.setCell ⟨b9, 1, none⟩ (.int .i64 (2 + (1 + M)))) (.slice (some ⟨b4, 0, none⟩) 3 3) (.slice (some ⟨b7, 0, none⟩) 2 2) (.slice (some ⟨b8, 0, none⟩) 3 3) (.slice (some ⟨b9, 0, none⟩) 1 1) ⟨16, plP, plD, 6, plW, [⟨2, 2 + (1 + M), false⟩], 10, 6, 2⟩ :=
        ⟨P9.ps h9, paz_pl, P9.ds h9, dez_pl, P9.ws h9, by simp [plW], some_nil, Sl.blk0 h9.k9 (by decide) rfl, by simp [plG], some_nil⟩
      have hmy : cfMay ⟨16, plP, plD, 6, plW, [⟨2, 2 + (1 + M), false⟩], 10, 6, 2⟩ = false := cfn_gs (by
            have hx : inP plP.length (2 + (1 + M)) = false := decide_eq_false (by simp only [plP, List.length_cons, List.length_nil]; omega)
            simp [gsB, grB, okG, hx])
      have HF : Hid (FmG w V (w3.setCell ⟨b9, 1, none⟩ (.int .i64 (2 + (1 + M))))) := Lib.hid ⟨⟨16, plP, plD, 6, plW, [⟨2, 2 + (1 + M), false⟩], 10, 6, 2⟩, _, _, _, _, hv, hcf, hmy, HB3.out.setCell (p := ⟨b9, 1, none⟩) (show w.heap.size ≤ b9 by omega) _⟩
      clear h9 hv hcf hmy
      go_wp2_with fail
      go_meet
      exact HF
    · -- 20
      obtain ⟨i0, hi, hy0, hy1, hy2⟩ := info_parts infoGrH
      have HI := Lib.hid hi; have HY0 := Lib.hid hy0; have HY1 := Lib.hid hy1; have HY2 := Lib.hid hy2
      have HOWN := Lib.hid (own_blk21 (B := 0) H9.out.k9 1 3 rfl (Nat.zero_le _) (by decide))
      have HNW : Hid (∀ j u, [Value.int .i64 2, .int .i64 2, .bool true][j]? = some u → (w3.alloc (.cells #[.int .i64 2, .int .i64 2, .bool true] 44)).cell? ((⟨w3.heap.size, 0, none⟩ : Addr).add j) = some u) := Lib.hid (row_new w3 [.int .i64 2, .int .i64 2, .bool true] _)
      clear hi hy0 hy1 hy2
      go_wp2_with (at_builtin; refine wpList_append_own _ rfl _ _ 25 rfl 0 44 i0 _ 3 24 Try.underlying25 HI.out HY0.out HY1.out HY2.out rfl (by decide) _ 1 (grs plG) rfl (HOWN.out.alloc _) ⟨w3.heap.size, 0, none⟩ 1 1 [.int .i64 2, .int .i64 2, .bool true] rfl rfl (by exact HNW.out) ?h1 (by unfold maxLen; omega) (by omega) (by omega) ?_)
      case h1 =>
        intro u hu
        simp only [List.mem_cons, List.not_mem_nil, or_false] at hu
        rcases hu with rfl | rfl | rfl <;> rfl
      intro v4 w4 ho4 hg4 _
      obtain ⟨A4, c4, e4, hn4⟩ := own_nilcap ho4
      subst e4
      rw [show (Value.slice (some ⟨b9, 0, none⟩) 1 1).ownBlock = some b9 from rfl] at hg4
      have hv4 := (HV.out.alloc (.cells #[.int .i64 2, .int .i64 2, .bool true] 44)).grown hg4 (by intro e; injection e with e; omega)
      have hbl4 : Below w.heap.size w w4 := (HB3.out.alloc (by have := HZZ.out; omega) _).grown hg4 (by simp; have := HZZ.out; omega) (fun x hx => by injection hx with hx; omega)
      have hne := own_apart_blk ho4 hv4 (by decide)
      have ho5 : (w4.setCell ⟨V, 5, none⟩ (.slice A4 (1 + 1) c4)).ownsRow 0 44 3 (.slice A4 (1 + 1) c4) (1 + 1) (grs [⟨2, 2, false⟩, ⟨2, 2, true⟩]) :=
        own_stay ho4 (fun x hx => Below.heap_setCell w4 ⟨V, 5, none⟩ _ x (by intro e; subst e; exact hne hx))
      have hv5 := hv4.set 5 (.slice A4 (1 + 1) c4)
      have k1 := ((H9.out.k1.alloc (.cells #[.int .i64 2, .int .i64 2, .bool true] 44)).grown hg4 (by intro e; injection e with e; omega)).far (p := ⟨V, 5, none⟩) (show b1 ≠ V by omega) (.slice A4 (1 + 1) c4)
      have k2 := ((H9.out.k2.alloc (.cells #[.int .i64 2, .int .i64 2, .bool true] 44)).grown hg4 (by intro e; injection e with e; omega)).far (p := ⟨V, 5, none⟩) (show b2 ≠ V by omega) (.slice A4 (1 + 1) c4)
      have k3 := ((H9.out.k3.alloc (.cells #[.int .i64 2, .int .i64 2, .bool true] 44)).grown hg4 (by intro e; injection e with e; omega)).far (p := ⟨V, 5, none⟩) (show b3 ≠ V by omega) (.slice A4 (1 + 1) c4)
      have k4 := ((H9.out.k4.alloc (.cells #[.int .i64 2, .int .i64 2, .bool true] 44)).grown hg4 (by intro e; injection e with e; omega)).far (p := ⟨V, 5, none⟩) (show b4 ≠ V by omega) (.slice A4 (1 + 1) c4)
      have k5 := ((H9.out.k5.alloc (.cells #[.int .i64 2, .int .i64 2, .bool true] 44)).grown hg4 (by intro e; injection e with e; omega)).far (p := ⟨V, 5, none⟩) (show b5 ≠ V by omega) (.slice A4 (1 + 1) c4)
      have k6 := ((H9.out.k6.alloc (.cells #[.int .i64 2, .int .i64 2, .bool true] 44)).grown hg4 (by intro e; injection e with e; omega)).far (p := ⟨V, 5, none⟩) (show b6 ≠ V by omega) (.slice A4 (1 + 1) c4)
      have k7 := ((H9.out.k7.alloc (.cells #[.int .i64 2, .int .i64 2, .bool true] 44)).grown hg4 (by intro e; injection e with e; omega)).far (p := ⟨V, 5, none⟩) (show b7 ≠ V by omega) (.slice A4 (1 + 1) c4)
      have k8 := ((H9.out.k8.alloc (.cells #[.int .i64 2, .int .i64 2, .bool true] 44)).grown hg4 (by intro e; injection e with e; omega)).far (p := ⟨V, 5, none⟩) (show b8 ≠ V by omega) (.slice A4 (1 + 1) c4)
      have hcf : CfAt (w4.setCell ⟨V, 5, none⟩ (.slice A4 (1 + 1) c4)) (.slice (some ⟨b4, 0, none⟩) 3 3) (.slice (some ⟨b7, 0, none⟩) 2 2) (.slice (some ⟨b8, 0, none⟩) 3 3) (.slice A4 (1 + 1) c4) ⟨16, plP, plD, 6, plW, [⟨2, 2, false⟩, ⟨2, 2, true⟩], 10, 6, 2⟩ :=
        ⟨PaS.blk rfl rfl k4 (all3 (Rw.blk k1 (by decide)) (Rw.blk k2 (by decide)) (Rw.blk k3 (by decide))), paz_pl, DeS.blk rfl rfl k7 (all2 (Rw.blk k5 (by decide)) (Rw.blk k6 (by decide))), dez_pl, ⟨Sl.blk0 k8 (by decide) rfl, rfl, by unfold maxLen; simp [plW], plW64⟩, by simp [plW], some_nil, Sl.own ho5, by simp, fun m k e => by simp only [Value.slice.injEq] at e; rw [← e.2.2]; exact hn4 e.1⟩
      have hmy : cfMay ⟨16, plP, plD, 6, plW, [⟨2, 2, false⟩, ⟨2, 2, true⟩], 10, 6, 2⟩ = false := by kernel_rfl
      have HF : Hid (FmG w V (w4.setCell ⟨V, 5, none⟩ (.slice A4 (1 + 1) c4))) := Lib.hid ⟨⟨16, plP, plD, 6, plW, [⟨2, 2, false⟩, ⟨2, 2, true⟩], 10, 6, 2⟩, _, _, _, _, hv5, hcf, hmy, hbl4.setCell (p := ⟨V, 5, none⟩) (show w.heap.size ≤ V by omega) _⟩
      have w5c := hv4.cell 5
      have w5e : (cfc plC (.slice (some ⟨b4, 0, none⟩) 3 3) (.slice (some ⟨b7, 0, none⟩) 2 2) (.slice (some ⟨b8, 0, none⟩) 3 3) (.slice (some ⟨b9, 0, none⟩) 1 1))[5]? = some (.slice (some ⟨b9, 0, none⟩) 1 1) := rfl
      rw [w5e] at w5c
      have w5z := hv4.frozen 5
      clear ho4 hg4 hv4 hbl4 hne ho5 hv5 hcf hmy w5e k1 k2 k3 k4 k5 k6 k7 k8 f0 f1 f2 f3 f4 f5 f6 f7 f8
      go_wp2_with fail
      go_meet
      exact HF
    · -- 21
      have h9 : Pl9 (w3.setCell ⟨V, 6, none⟩ (.int .i64 9)) b1 b2 b3 b4 b5 b6 b7 b8 b9 := H9.out.far (p := ⟨V, 6, none⟩) (.inr hhi) (.int .i64 9)
      have hv := HV.out.set 6 (.int .i64 9)
      have hcf : CfAt (w3.setCell ⟨V, 6, none⟩ (.int .i64 9)) (.slice (some ⟨b4, 0, none⟩) 3 3) (.slice (some ⟨b7, 0, none⟩) 2 2) (.slice (some ⟨b8, 0, none⟩) 3 3) (.slice (some ⟨b9, 0, none⟩) 1 1) ⟨16, plP, plD, 6, plW, plG, 9, 6, 2⟩ :=
        ⟨P9.ps h9, paz_pl, P9.ds h9, dez_pl, P9.ws h9, by simp [plW], some_nil, P9.gs h9, by simp [plG], some_nil⟩
      have hmy : cfMay ⟨16, plP, plD, 6, plW, plG, 9, 6, 2⟩ = false := by kernel_rfl
      have HF : Hid (FmG w V (w3.setCell ⟨V, 6, none⟩ (.int .i64 9))) := Lib.hid ⟨⟨16, plP, plD, 6, plW, plG, 9, 6, 2⟩, _, _, _, _, hv, hcf, hmy, HB3.out.setCell (p := ⟨V, 6, none⟩) (show w.heap.size ≤ V by omega) _⟩
      clear h9 hv hcf hmy
      go_wp2_with fail
      go_meet
      exact HF
    · -- 22
      have h9 := H9.out.s4 13 (.int .i64 7)
      have hv := HV.out.far (p := ⟨b4, 13, none⟩) (show V ≠ b4 by omega) (.int .i64 7)
      have hcf : CfAt (w3.setCell ⟨b4, 13, none⟩ (.int .i64 7)) (.slice (some ⟨b4, 0, none⟩) 3 3) (.slice (some ⟨b7, 0, none⟩) 2 2) (.slice (some ⟨b8, 0, none⟩) 3 3) (.slice (some ⟨b9, 0, none⟩) 1 1) ⟨16, [⟨0, 0, [0, 1, 2], 0, 4⟩, ⟨2, 0, [3, 4], 4, 4⟩, ⟨1, 2, [5, 6], 7, 2⟩], plD, 6, plW, plG, 10, 6, 2⟩ :=
        ⟨PaS.blk (L := [(⟨0, 0, [0, 1, 2], 0, 4⟩, .slice (some ⟨b1, 0, none⟩) 3 3), (⟨2, 0, [3, 4], 4, 4⟩, .slice (some ⟨b2, 0, none⟩) 2 2), (⟨1, 2, [5, 6], 7, 2⟩, .slice (some ⟨b3, 0, none⟩) 2 2)]) rfl rfl h9.k4 (all3 (Rw.blk h9.k1 (by simp)) (Rw.blk h9.k2 (by simp)) (Rw.blk h9.k3 (by simp))), paz_of (by simp) (all3 (by simp) (by simp) (by simp)), P9.ds h9, dez_pl, P9.ws h9, by simp [plW], some_nil, P9.gs h9, by simp [plG], some_nil⟩
      have hmy : cfMay ⟨16, [⟨0, 0, [0, 1, 2], 0, 4⟩, ⟨2, 0, [3, 4], 4, 4⟩, ⟨1, 2, [5, 6], 7, 2⟩], plD, 6, plW, plG, 10, 6, 2⟩ = false := by kernel_rfl
      have HF : Hid (FmG w V (w3.setCell ⟨b4, 13, none⟩ (.int .i64 7))) := Lib.hid ⟨⟨16, [⟨0, 0, [0, 1, 2], 0, 4⟩, ⟨2, 0, [3, 4], 4, 4⟩, ⟨1, 2, [5, 6], 7, 2⟩], plD, 6, plW, plG, 10, 6, 2⟩, _, _, _, _, hv, hcf, hmy, HB3.out.setCell (p := ⟨b4, 13, none⟩) (show w.heap.size ≤ b4 by omega) _⟩
      clear h9 hv hcf hmy
      go_wp2_with fail
      go_meet
      exact HF
    · -- 23
      have h9 : Pl9 (w3.setCell ⟨V, 7, none⟩ (.int .i64 (64 + (1 + M)))) b1 b2 b3 b4 b5 b6 b7 b8 b9 := H9.out.far (p := ⟨V, 7, none⟩) (.inr hhi) (.int .i64 (64 + (1 + M)))
      have hv := HV.out.set 7 (.int .i64 (64 + (1 + M)))
      have hcf : CfAt (w3.setCell ⟨V, 7, none⟩ (.int .i64 (64 + (1 + M)))) (.slice (some ⟨b4, 0, none⟩) 3 3) (.slice (some ⟨b7, 0, none⟩) 2 2) (.slice (some ⟨b8, 0, none⟩) 3 3) (.slice (some ⟨b9, 0, none⟩) 1 1) ⟨16, plP, plD, 6, plW, plG, 10, 64 + (1 + M), 2⟩ :=
        ⟨P9.ps h9, paz_pl, P9.ds h9, dez_pl, P9.ws h9, by simp [plW], some_nil, P9.gs h9, by simp [plG], some_nil⟩
      have hmy : cfMay ⟨16, plP, plD, 6, plW, plG, 10, 64 + (1 + M), 2⟩ = false := cfn_qu (by
            unfold quB btw; exact decide_eq_false (show ¬ (0 ≤ 64 + (1 + M) ∧ 64 + (1 + M) ≤ (64 : Int)) by omega))
      have HF : Hid (FmG w V (w3.setCell ⟨V, 7, none⟩ (.int .i64 (64 + (1 + M))))) := Lib.hid ⟨⟨16, plP, plD, 6, plW, plG, 10, 64 + (1 + M), 2⟩, _, _, _, _, hv, hcf, hmy, HB3.out.setCell (p := ⟨V, 7, none⟩) (show w.heap.size ≤ V by omega) _⟩
      clear h9 hv hcf hmy
      go_wp2_with fail
      go_meet
      exact HF
    · -- 24
      have h9 : Pl9 (w3.setCell ⟨V, 8, none⟩ (.int .i64 (8 + (1 + M)))) b1 b2 b3 b4 b5 b6 b7 b8 b9 := H9.out.far (p := ⟨V, 8, none⟩) (.inr hhi) (.int .i64 (8 + (1 + M)))
      have hv := HV.out.set 8 (.int .i64 (8 + (1 + M)))
      have hcf : CfAt (w3.setCell ⟨V, 8, none⟩ (.int .i64 (8 + (1 + M)))) (.slice (some ⟨b4, 0, none⟩) 3 3) (.slice (some ⟨b7, 0, none⟩) 2 2) (.slice (some ⟨b8, 0, none⟩) 3 3) (.slice (some ⟨b9, 0, none⟩) 1 1) ⟨16, plP, plD, 6, plW, plG, 10, 6, 8 + (1 + M)⟩ :=
        ⟨P9.ps h9, paz_pl, P9.ds h9, dez_pl, P9.ws h9, by simp [plW], some_nil, P9.gs h9, by simp [plG], some_nil⟩
      have hmy : cfMay ⟨16, plP, plD, 6, plW, plG, 10, 6, 8 + (1 + M)⟩ = false := cfn_qt (by
            unfold qtB btw; exact decide_eq_false (show ¬ (1 ≤ 8 + (1 + M) ∧ 8 + (1 + M) ≤ (8 : Int)) by omega))
      have HF : Hid (FmG w V (w3.setCell ⟨V, 8, none⟩ (.int .i64 (8 + (1 + M))))) := Lib.hid ⟨⟨16, plP, plD, 6, plW, plG, 10, 6, 8 + (1 + M)⟩, _, _, _, _, hv, hcf, hmy, HB3.out.setCell (p := ⟨V, 8, none⟩) (show w.heap.size ≤ V by omega) _⟩
      clear h9 hv hcf hmy
      go_wp2_with fail
      go_meet
      exact HF
  case rest =>
    obtain ⟨c, vp, vd, vw, vg, hv, hcf, hmy, hbl⟩ := hcut.out
    generalize wc = w4 at *
    have HC := Lib.hid hcf; have HK := Lib.hid hv; have HMY := Lib.hid hmy; have HBL := Lib.hid hbl
    obtain ⟨f0, f1, f2, f3, f4, f5, f6, f7, f8⟩ := cf_at hv
    clear hv hcf hmy hbl hcut
    go_wp2_with fail
    refine (may_is HC.out false HMY.out).mono ?_
    rintro e w5 ⟨rfl, b5⟩
    clear f0 f1 f2 f3 f4 f5 f6 f7 f8
    obtain ⟨f0, f1, f2, f3, f4, f5, f6, f7, f8⟩ := cf_at (HK.out.below b5 HK.out.lt)
    go_wp2_with fail
    refine (reads_is (HC.out.below b5) _ _ _ false (alB_no HMY.out _ _ _ _)).mono ?_
    rintro e w6 ⟨rfl, b6⟩
    have b6' := Below.down b5 b6 b5.size
    clear f0 f1 f2 f3 f4 f5 f6 f7 f8 b5 b6
    obtain ⟨f0, f1, f2, f3, f4, f5, f6, f7, f8⟩ := cf_at (HK.out.below b6' HK.out.lt)
    go_wp2_with fail
    refine (writes_is (HC.out.below b6') _ _ _ false (alB_no HMY.out _ _ _ _)).mono ?_
    rintro e w7 ⟨rfl, b7'⟩
    have b8' := Below.down b6' b7' b6'.size
    clear f0 f1 f2 f3 f4 f5 f6 f7 f8 b6' b7'
    go_wp2_with fail
    refine (HP.out w7).mono ?_
    rintro e w8 ⟨d1, d2, d3, d4, d5, d6, d7, d8, d9, rfl, h9, -, -, hB⟩
    have HCF := Lib.hid (Pl9.cf h9)
    have b9' := Below.down b8' hB b8'.size
    clear h9 hB b8'
    go_wp2_with fail
    refine (may_is HCF.out true pl_may).mono ?_
    rintro e w9 ⟨rfl, b10⟩
    have HFIN := Lib.hid (Below.down HBL.out (Below.down b9' b10 b9'.size) HBL.out.size)
    clear b9' b10
    go_wp2_with (go_at_call 18; refine (num_any _ _).mono ?_; rintro e w' ⟨rfl, rfl⟩)
    go_ret
    exact ⟨rfl, HFIN.out⟩

end Go.Proofs.Ytamhnnkmjhapmaa
