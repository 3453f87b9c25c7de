/-
  Layer 21's law ConfigGrants.
-/
import Derived.Test.YtamhnnkmjhapmaaCfLaw
import Derived.Test.YtamhnnkmjhapmaaCfRuns
import Derived.Deep.CutBlock
import Derived.Deep.DeepCutAuto
namespace Go.Proofs.Ytamhnnkmjhapmaa
open Go.RowKit
set_option linter.unusedVariables false
set_option linter.unusedSimpArgs false
set_option maxRecDepth 100000

/-- Plain without grants; with one. -/
def pgN : Cf := { plC with gs := [] }
def pgC (f p : Int) (b : Bool) : Cf := { plC with gs := [⟨f, p, b⟩] }
/-- Is a frame a partition's own? -/
def ownG (f p : Int) : Bool := decide (f < 3 ∧ p = 0 ∨ (f = 3 ∨ f = 4) ∧ p = 1 ∨ 4 < f ∧ p = 2)
theorem pg_may0 : cfMay pgN = true := by kernel_rfl
theorem pg_all : (List.range 7).all (fun f => (List.range 3).all (fun p => [true, false].all (fun b => cfMay (pgC (f : Nat) (p : Nat) b) == !ownG (f : Nat) (p : Nat)))) = true := by kernel_rfl
theorem pg_may {f p : Nat} (b : Bool) (hf : f < 7) (hp : p < 3) : cfMay (pgC f p b) = !ownG f p := by
  have h := range_all_iff.1 (range_all_iff.1 pg_all f hf) p hp
  rw [List.all_eq_true] at h
  have := h b (by cases b <;> simp)
  simpa using this
/-- One frame. -/
theorem al_frame {c : Cf} (hm : cfMay c = true) {q g : Nat} (hq : q < c.ps.length) (hg : ((g : Int) + 1) * 64 ≤ c.fr * 64) (wr : Bool) : alB c (q : Nat) ((g : Int) * 64) 64 wr = rcB c (q : Nat) (g : Nat) wr := by
  unfold alB
  rw [hm, inP_at hq, Bool.true_and, Bool.true_and]
  have e1 : spl (g * 64) 64 = [(g, 0, 64)] := by
    rw [spl_step (g * 64) 64 (by omega)]
    have h1 : g * 64 / 64 = g := by omega
    have h2 : g * 64 % 64 = 0 := by omega
    rw [h1, h2]
    show _ :: spl _ 0 = _
    rw [spl_zero]
    rfl
  have e2 : fitB ((g : Int) * 64) 64 (c.fr * 64) = true := by
    unfold fitB
    exact decide_eq_true (by omega)
  have e3 : spl ((g : Int) * 64).toNat (64 : Int).toNat = [(g, 0, 64)] := by
    rw [show ((g : Int) * 64).toNat = g * 64 by omega]
    exact e1
  rw [e2, e3]
  simp
theorem rc_pgN (q f : Int) (wr : Bool) : rcB pgN q f wr = decide (ownF plC f = q) := by
  unfold rcB
  show (decide (ownF plC f = q) || [].any _) = _
  simp
theorem rc_pgC (f p : Int) (b : Bool) (q g : Int) (wr : Bool) : rcB (pgC f p b) q g wr = (decide (ownF plC g = q) || (decide (f = g ∧ p = q) && (b || !wr))) := by
  unfold rcB
  show (decide (ownF plC g = q) || [(⟨f, p, b⟩ : Gr)].any _) = _
  simp

set_option maxHeartbeats 8000000 in
theorem law_ConfigGrants (a0 a1 : Int) (wb : Bool) (w0 : (Lit.int .i64 a0).wf = true) (w1' : (Lit.int .i64 a1).wf = true) (w : World) :
    Calls Try.prog 7 #[.int .i64 a0, .int .i64 a1, .bool wb] w fun e w' => e = .returned (.bool true) ∧ Below w.heap.size w w' := by
  have hA := u64b a0
  generalize hA' : IntKind.u64.wrap a0 = A at hA
  have hB := u64b a1
  generalize hB' : IntKind.u64.wrap a1 = B at hB
  have hF0 : 0 ≤ A % 7 := by omega
  have hF1 : A % 7 ≤ 6 := by omega
  generalize hF' : A % 7 = F at hF0 hF1
  have hP0 : 0 ≤ B % 3 := by omega
  have hP1 : B % 3 ≤ 2 := by omega
  generalize hP' : B % 3 = P at hP0 hP1
  obtain ⟨hA0, hA1⟩ := hA
  obtain ⟨hB0, hB1⟩ := hB
  clear w0 w1'
  have HPL := Lib.hid plain_any
  go_enter Try.func7, Try.ntmps7
  go_wp2_with fail
  refine (cawake_any _).mono ?_
  rintro e w1 ⟨rfl, hb1⟩
  have HB1 := Lib.hid hb1
  clear hb1
  go_wp2_with fail
  refine (HPL.out w1).mono ?_
  rintro e w2 ⟨b1, b2, b3, b4, b5, b6, b7, b8, b9, rfl, h9, hlo, hhi, hB2⟩
  have H9b := Lib.hid h9; have HB2 := Lib.hid hB2
  clear h9 hB2
  go_wp2_with fail
  refine (HPL.out w2).mono ?_
  rintro e w3 ⟨d1, d2, d3, d4, d5, d6, d7, d8, d9, rfl, h9, hlo2, hhi2, hB3⟩
  have H9d := Lib.hid h9
  have hB4 : Below w3.heap.size w3 (w3.alloc (.cells #[.int .i64 16, .slice (some ⟨b4, 0, none⟩) 3 3, .slice (some ⟨b7, 0, none⟩) 2 2, .int .i64 6, .slice (some ⟨b8, 0, none⟩) 3 3, .slice (some ⟨b9, 0, none⟩) 1 1, .int .i64 10, .int .i64 6, .int .i64 2] 27)) := (Below.refl _ _).alloc (Nat.le_refl _) _
  have hB5 : Below w3.heap.size w3 ((w3.alloc (.cells #[.int .i64 16, .slice (some ⟨b4, 0, none⟩) 3 3, .slice (some ⟨b7, 0, none⟩) 2 2, .int .i64 6, .slice (some ⟨b8, 0, none⟩) 3 3, .slice (some ⟨b9, 0, none⟩) 1 1, .int .i64 10, .int .i64 6, .int .i64 2] 27)).alloc (.cells #[.int .i64 16, .slice (some ⟨d4, 0, none⟩) 3 3, .slice (some ⟨d7, 0, none⟩) 2 2, .int .i64 6, .slice (some ⟨d8, 0, none⟩) 3 3, .slice (some ⟨d9, 0, none⟩) 1 1, .int .i64 10, .int .i64 6, .int .i64 2] 27)) := hB4.alloc hB4.size _
  have hv7 : Blk ((w3.alloc (.cells #[.int .i64 16, .slice (some ⟨b4, 0, none⟩) 3 3, .slice (some ⟨b7, 0, none⟩) 2 2, .int .i64 6, .slice (some ⟨b8, 0, none⟩) 3 3, .slice (some ⟨b9, 0, none⟩) 1 1, .int .i64 10, .int .i64 6, .int .i64 2] 27)).alloc (.cells #[.int .i64 16, .slice (some ⟨d4, 0, none⟩) 3 3, .slice (some ⟨d7, 0, none⟩) 2 2, .int .i64 6, .slice (some ⟨d8, 0, none⟩) 3 3, .slice (some ⟨d9, 0, none⟩) 1 1, .int .i64 10, .int .i64 6, .int .i64 2] 27)) w3.heap.size 27 (cfc plC (.slice (some ⟨b4, 0, none⟩) 3 3) (.slice (some ⟨b7, 0, none⟩) 2 2) (.slice (some ⟨b8, 0, none⟩) 3 3) (.slice (some ⟨b9, 0, none⟩) 1 1)) := (Blk.new w3 27 (cfc plC (.slice (some ⟨b4, 0, none⟩) 3 3) (.slice (some ⟨b7, 0, none⟩) 2 2) (.slice (some ⟨b8, 0, none⟩) 3 3) (.slice (some ⟨b9, 0, none⟩) 1 1))).alloc (.cells #[.int .i64 16, .slice (some ⟨d4, 0, none⟩) 3 3, .slice (some ⟨d7, 0, none⟩) 2 2, .int .i64 6, .slice (some ⟨d8, 0, none⟩) 3 3, .slice (some ⟨d9, 0, none⟩) 1 1, .int .i64 10, .int .i64 6, .int .i64 2] 27)
  have HV7 := Lib.hid hv7
  have hsz4 : (w3.alloc (.cells #[.int .i64 16, .slice (some ⟨b4, 0, none⟩) 3 3, .slice (some ⟨b7, 0, none⟩) 2 2, .int .i64 6, .slice (some ⟨b8, 0, none⟩) 3 3, .slice (some ⟨b9, 0, none⟩) 1 1, .int .i64 10, .int .i64 6, .int .i64 2] 27)).heap.size = w3.heap.size + 1 := by simp
  have hv8 : Blk ((w3.alloc (.cells #[.int .i64 16, .slice (some ⟨b4, 0, none⟩) 3 3, .slice (some ⟨b7, 0, none⟩) 2 2, .int .i64 6, .slice (some ⟨b8, 0, none⟩) 3 3, .slice (some ⟨b9, 0, none⟩) 1 1, .int .i64 10, .int .i64 6, .int .i64 2] 27)).alloc (.cells #[.int .i64 16, .slice (some ⟨d4, 0, none⟩) 3 3, .slice (some ⟨d7, 0, none⟩) 2 2, .int .i64 6, .slice (some ⟨d8, 0, none⟩) 3 3, .slice (some ⟨d9, 0, none⟩) 1 1, .int .i64 10, .int .i64 6, .int .i64 2] 27)) (w3.alloc (.cells #[.int .i64 16, .slice (some ⟨b4, 0, none⟩) 3 3, .slice (some ⟨b7, 0, none⟩) 2 2, .int .i64 6, .slice (some ⟨b8, 0, none⟩) 3 3, .slice (some ⟨b9, 0, none⟩) 1 1, .int .i64 10, .int .i64 6, .int .i64 2] 27)).heap.size 27 (cfc plC (.slice (some ⟨d4, 0, none⟩) 3 3) (.slice (some ⟨d7, 0, none⟩) 2 2) (.slice (some ⟨d8, 0, none⟩) 3 3) (.slice (some ⟨d9, 0, none⟩) 1 1)) := Blk.new (w3.alloc (.cells #[.int .i64 16, .slice (some ⟨b4, 0, none⟩) 3 3, .slice (some ⟨b7, 0, none⟩) 2 2, .int .i64 6, .slice (some ⟨b8, 0, none⟩) 3 3, .slice (some ⟨b9, 0, none⟩) 1 1, .int .i64 10, .int .i64 6, .int .i64 2] 27)) 27 (cfc plC (.slice (some ⟨d4, 0, none⟩) 3 3) (.slice (some ⟨d7, 0, none⟩) 2 2) (.slice (some ⟨d8, 0, none⟩) 3 3) (.slice (some ⟨d9, 0, none⟩) 1 1))
  rw [hsz4] at hv8
  have HV8 := Lib.hid hv8
  have HCb := Lib.hid ((H9b.out.below hB3).below hB5)
  have HCd := Lib.hid (H9d.out.below hB5)
  have HB5 := Lib.hid (Below.down (Below.down (Below.down HB1.out HB2.out HB1.out.size) hB3 (by have := HB1.out.size; have := HB2.out.size; omega)) hB5 (by have := HB1.out.size; have := HB2.out.size; have := hB3.size; omega))
  have HSZ : Hid (((w3.alloc (.cells #[.int .i64 16, .slice (some ⟨b4, 0, none⟩) 3 3, .slice (some ⟨b7, 0, none⟩) 2 2, .int .i64 6, .slice (some ⟨b8, 0, none⟩) 3 3, .slice (some ⟨b9, 0, none⟩) 1 1, .int .i64 10, .int .i64 6, .int .i64 2] 27)).alloc (.cells #[.int .i64 16, .slice (some ⟨d4, 0, none⟩) 3 3, .slice (some ⟨d7, 0, none⟩) 2 2, .int .i64 6, .slice (some ⟨d8, 0, none⟩) 3 3, .slice (some ⟨d9, 0, none⟩) 1 1, .int .i64 10, .int .i64 6, .int .i64 2] 27)).heap.size = w3.heap.size + 1 + 1) := Lib.hid (by simp)
  have hwv : w.heap.size ≤ w3.heap.size := by have := HB1.out.size; have := HB2.out.size; have := hB3.size; omega
  clear h9 hB3 hB4 hB5 hsz4 hv8 hv7
  go_upto_region 4 with fail
  generalize (w3.alloc (.cells #[.int .i64 16, .slice (some ⟨b4, 0, none⟩) 3 3, .slice (some ⟨b7, 0, none⟩) 2 2, .int .i64 6, .slice (some ⟨b8, 0, none⟩) 3 3, .slice (some ⟨b9, 0, none⟩) 1 1, .int .i64 10, .int .i64 6, .int .i64 2] 27)).alloc (.cells #[.int .i64 16, .slice (some ⟨d4, 0, none⟩) 3 3, .slice (some ⟨d7, 0, none⟩) 2 2, .int .i64 6, .slice (some ⟨d8, 0, none⟩) 3 3, .slice (some ⟨d9, 0, none⟩) 1 1, .int .i64 10, .int .i64 6, .int .i64 2] 27) = w4 at *
  generalize w3.heap.size = V7 at *
  have u7 := HV7.out.cell 5
  have e7 : (cfc plC (.slice (some ⟨b4, 0, none⟩) 3 3) (.slice (some ⟨b7, 0, none⟩) 2 2) (.slice (some ⟨b8, 0, none⟩) 3 3) (.slice (some ⟨b9, 0, none⟩) 1 1))[5]? = some (.slice (some ⟨b9, 0, none⟩) 1 1) := rfl
  rw [e7] at u7
  have z7 := HV7.out.frozen 5
  have u8 := HV8.out.cell 5
  have e8 : (cfc plC (.slice (some ⟨d4, 0, none⟩) 3 3) (.slice (some ⟨d7, 0, none⟩) 2 2) (.slice (some ⟨d8, 0, none⟩) 3 3) (.slice (some ⟨d9, 0, none⟩) 1 1))[5]? = some (.slice (some ⟨d9, 0, none⟩) 1 1) := rfl
  rw [e8] at u8
  have z8 := HV8.out.frozen 5
  have u7a := (HV7.out.alloc (.cells #[.int .i64 F, .int .i64 P, .bool wb] 44)).cell 5
  rw [e7] at u7a
  have u8a := (HV8.out.alloc (.cells #[.int .i64 F, .int .i64 P, .bool wb] 44)).cell 5
  rw [e8] at u8a
  have z7a := (HV7.out.alloc (.cells #[.int .i64 F, .int .i64 P, .bool wb] 44)).frozen 5
  have z8a := (HV8.out.alloc (.cells #[.int .i64 F, .int .i64 P, .bool wb] 44)).frozen 5
  have hl7 := HV7.out.lt
  have hl8 := HV8.out.lt
  clear e7 e8
  go_upto_region 8 with fail
  clear u7 u8 z7 z8 u7a u8a z7a z8a hl7 hl8
  have hb9 : b9 < V7 := by
    have := H9d.out.ord; omega
  have hd9 : d9 < V7 := hhi2
  have hSZ2 : ((w4.setCell ⟨V7 + 1, 5, none⟩ (.slice (some ⟨w4.heap.size, 0, none⟩) 1 1)).setCell ⟨V7, 5, none⟩ (.slice none 0 0)).heap.size = w4.heap.size := by simp
  have kg : Blk (((w4.setCell ⟨V7 + 1, 5, none⟩ (.slice (some ⟨w4.heap.size, 0, none⟩) 1 1)).setCell ⟨V7, 5, none⟩ (.slice none 0 0)).alloc (.cells #[.int .i64 F, .int .i64 P, .bool wb] 44)) w4.heap.size 44 (grs [⟨F, P, wb⟩]) := by
    have h := Blk.new ((w4.setCell ⟨V7 + 1, 5, none⟩ (.slice (some ⟨w4.heap.size, 0, none⟩) 1 1)).setCell ⟨V7, 5, none⟩ (.slice none 0 0)) 44 (grs [⟨F, P, wb⟩])
    rw [hSZ2] at h
    exact h
  have kA : Below ((w4.setCell ⟨V7 + 1, 5, none⟩ (.slice (some ⟨w4.heap.size, 0, none⟩) 1 1)).setCell ⟨V7, 5, none⟩ (.slice none 0 0)).heap.size ((w4.setCell ⟨V7 + 1, 5, none⟩ (.slice (some ⟨w4.heap.size, 0, none⟩) 1 1)).setCell ⟨V7, 5, none⟩ (.slice none 0 0)) (((w4.setCell ⟨V7 + 1, 5, none⟩ (.slice (some ⟨w4.heap.size, 0, none⟩) 1 1)).setCell ⟨V7, 5, none⟩ (.slice none 0 0)).alloc (.cells #[.int .i64 F, .int .i64 P, .bool wb] 44)) := (Below.refl _ _).alloc (Nat.le_refl _) _
  have kb : Below w.heap.size w (((w4.setCell ⟨V7 + 1, 5, none⟩ (.slice (some ⟨w4.heap.size, 0, none⟩) 1 1)).setCell ⟨V7, 5, none⟩ (.slice none 0 0)).alloc (.cells #[.int .i64 F, .int .i64 P, .bool wb] 44)) := by
    have h := (HB5.out.setCell (p := ⟨V7 + 1, 5, none⟩) (show w.heap.size ≤ V7 + 1 by omega) (.slice (some ⟨w4.heap.size, 0, none⟩) 1 1)).setCell (p := ⟨V7, 5, none⟩) hwv (.slice none 0 0)
    exact h.alloc h.size _
  have kS : CgS (((w4.setCell ⟨V7 + 1, 5, none⟩ (.slice (some ⟨w4.heap.size, 0, none⟩) 1 1)).setCell ⟨V7, 5, none⟩ (.slice none 0 0)).alloc (.cells #[.int .i64 F, .int .i64 P, .bool wb] 44)) plC (.slice (some ⟨b4, 0, none⟩) 3 3) (.slice (some ⟨b7, 0, none⟩) 2 2) (.slice (some ⟨b8, 0, none⟩) 3 3) (.slice none 0 0) (.slice (some ⟨d4, 0, none⟩) 3 3) (.slice (some ⟨d7, 0, none⟩) 2 2) (.slice (some ⟨d8, 0, none⟩) 3 3) (.slice (some ⟨w4.heap.size, 0, none⟩) 1 1) V7 (V7 + 1) (((w4.setCell ⟨V7 + 1, 5, none⟩ (.slice (some ⟨w4.heap.size, 0, none⟩) 1 1)).setCell ⟨V7, 5, none⟩ (.slice none 0 0)).alloc (.cells #[.int .i64 F, .int .i64 P, .bool wb] 44)) :=
    ⟨((HV7.out.far (p := ⟨V7 + 1, 5, none⟩) (show V7 ≠ V7 + 1 by omega) (.slice (some ⟨w4.heap.size, 0, none⟩) 1 1)).set 5 (.slice none 0 0)).alloc _,
      ((HV8.out.set 5 (.slice (some ⟨w4.heap.size, 0, none⟩) 1 1)).far (p := ⟨V7, 5, none⟩) (show V7 + 1 ≠ V7 by omega) (.slice none 0 0)).alloc _, Below.refl _ _⟩
  have p9b := ((HCb.out.far (p := ⟨V7 + 1, 5, none⟩) (.inr (show b9 < V7 + 1 by omega)) (.slice (some ⟨w4.heap.size, 0, none⟩) 1 1)).far (p := ⟨V7, 5, none⟩) (.inr hb9) (.slice none 0 0)).below kA
  have p9d := ((HCd.out.far (p := ⟨V7 + 1, 5, none⟩) (.inr (show d9 < V7 + 1 by omega)) (.slice (some ⟨w4.heap.size, 0, none⟩) 1 1)).far (p := ⟨V7, 5, none⟩) (.inr hd9) (.slice none 0 0)).below kA
  have kc : CfAt (((w4.setCell ⟨V7 + 1, 5, none⟩ (.slice (some ⟨w4.heap.size, 0, none⟩) 1 1)).setCell ⟨V7, 5, none⟩ (.slice none 0 0)).alloc (.cells #[.int .i64 F, .int .i64 P, .bool wb] 44)) (.slice (some ⟨b4, 0, none⟩) 3 3) (.slice (some ⟨b7, 0, none⟩) 2 2) (.slice (some ⟨b8, 0, none⟩) 3 3) (.slice none 0 0) pgN :=
    ⟨P9.ps p9b, paz_pl, P9.ds p9b, dez_pl, P9.ws p9b, by simp [pgN, plC, plW], some_nil, Gs.nil _, by simp [pgN], none_nil⟩
  have kd : CfAt (((w4.setCell ⟨V7 + 1, 5, none⟩ (.slice (some ⟨w4.heap.size, 0, none⟩) 1 1)).setCell ⟨V7, 5, none⟩ (.slice none 0 0)).alloc (.cells #[.int .i64 F, .int .i64 P, .bool wb] 44)) (.slice (some ⟨d4, 0, none⟩) 3 3) (.slice (some ⟨d7, 0, none⟩) 2 2) (.slice (some ⟨d8, 0, none⟩) 3 3) (.slice (some ⟨w4.heap.size, 0, none⟩) 1 1) (pgC F P wb) :=
    ⟨P9.ps p9d, paz_pl, P9.ds p9d, dez_pl, P9.ws p9d, by simp [pgC, plC, plW], some_nil, Sl.blk0 kg (by decide) rfl, by simp [pgC], some_nil⟩
  clear hSZ2 kg kA p9b p9d
  clear HV7 HV8 HCb HCd HB5 HSZ
  generalize hw6 : (((w4.setCell ⟨V7 + 1, 5, none⟩ (.slice (some ⟨w4.heap.size, 0, none⟩) 1 1)).setCell ⟨V7, 5, none⟩ (.slice none 0 0)).alloc (.cells #[.int .i64 F, .int .i64 P, .bool wb] 44)) = w6 at *
  generalize w4.heap.size = z at *
  clear hw6
  have HKB := Lib.hid kb; have HS6 := Lib.hid kS
  have HF' := Lib.hid hF'; have HP' := Lib.hid hP'
  obtain ⟨f, rfl⟩ := Int.eq_ofNat_of_zero_le hF0
  obtain ⟨p, rfl⟩ := Int.eq_ofNat_of_zero_le hP0
  have hF7 : f < 7 := by omega
  have hP3 : p < 3 := by omega
  have HMD : Hid (∀ (W : World), Below w6.heap.size w6 W → Calls Try.prog 9 #[.agg #[.int .i64 16, .slice (some ⟨d4, 0, none⟩) 3 3, .slice (some ⟨d7, 0, none⟩) 2 2, .int .i64 6, .slice (some ⟨d8, 0, none⟩) 3 3, .slice (some ⟨z, 0, none⟩) 1 1, .int .i64 10, .int .i64 6, .int .i64 2]] W fun e w' => e = .returned (.bool (!ownG (f : Int) (p : Int))) ∧ Below W.heap.size W w') := Lib.hid (fun W hW => may_is (kd.below hW) _ (pg_may (f := f) (p := p) wb hF7 hP3))
  have HRC : Hid (∀ (W : World), Below w6.heap.size w6 W → ∀ q a : Int, Calls Try.prog 11 #[.agg #[.int .i64 16, .slice (some ⟨b4, 0, none⟩) 3 3, .slice (some ⟨b7, 0, none⟩) 2 2, .int .i64 6, .slice (some ⟨b8, 0, none⟩) 3 3, .slice none 0 0, .int .i64 10, .int .i64 6, .int .i64 2], .int .i64 q, .int .i64 a, .int .i64 64] W fun e w' => e = .returned (.bool (alB pgN q a 64 false)) ∧ Below W.heap.size W w') := Lib.hid (fun W hW q a => creads_any (kc.below hW) q a 64)
  have HWC : Hid (∀ (W : World), Below w6.heap.size w6 W → ∀ q a : Int, Calls Try.prog 13 #[.agg #[.int .i64 16, .slice (some ⟨b4, 0, none⟩) 3 3, .slice (some ⟨b7, 0, none⟩) 2 2, .int .i64 6, .slice (some ⟨b8, 0, none⟩) 3 3, .slice none 0 0, .int .i64 10, .int .i64 6, .int .i64 2], .int .i64 q, .int .i64 a, .int .i64 64] W fun e w' => e = .returned (.bool (alB pgN q a 64 true)) ∧ Below W.heap.size W w') := Lib.hid (fun W hW q a => cwrites_any (kc.below hW) q a 64)
  have HRD : Hid (∀ (W : World), Below w6.heap.size w6 W → ∀ q a : Int, Calls Try.prog 11 #[.agg #[.int .i64 16, .slice (some ⟨d4, 0, none⟩) 3 3, .slice (some ⟨d7, 0, none⟩) 2 2, .int .i64 6, .slice (some ⟨d8, 0, none⟩) 3 3, .slice (some ⟨z, 0, none⟩) 1 1, .int .i64 10, .int .i64 6, .int .i64 2], .int .i64 q, .int .i64 a, .int .i64 64] W fun e w' => e = .returned (.bool (alB (pgC f p wb) q a 64 false)) ∧ Below W.heap.size W w') := Lib.hid (fun W hW q a => creads_any (kd.below hW) q a 64)
  have HWD : Hid (∀ (W : World), Below w6.heap.size w6 W → ∀ q a : Int, Calls Try.prog 13 #[.agg #[.int .i64 16, .slice (some ⟨d4, 0, none⟩) 3 3, .slice (some ⟨d7, 0, none⟩) 2 2, .int .i64 6, .slice (some ⟨d8, 0, none⟩) 3 3, .slice (some ⟨z, 0, none⟩) 1 1, .int .i64 10, .int .i64 6, .int .i64 2], .int .i64 q, .int .i64 a, .int .i64 64] W fun e w' => e = .returned (.bool (alB (pgC f p wb) q a 64 true)) ∧ Below W.heap.size W w') := Lib.hid (fun W hW q a => cwrites_any (kd.below hW) q a 64)
  have HPM := Lib.hid (pg_may (f := f) (p := p) wb hF7 hP3)
  clear kb kS kc kd hF' hP' hA' hB' hA0 hA1 hB0 hB1 hF0 hF1 hP0 hP1
  go_cut [11] (fun v wx => v = .bool (ownG (f : Int) (p : Int)) ∧ wx = w6)
  case first =>
    rcases (show (f < 3 ∨ f = 3 ∨ f = 4 ∨ 4 < f) by omega) with hf | hf | hf | hf
    all_goals rcases (show (p = 0 ∨ p = 1 ∨ p = 2) by omega) with hp | hp | hp
    all_goals
      subst hp
      first
        | (subst hf; go_wp2_with fail; go_meet; exact ⟨congrArg Value.bool (Eq.symm (by unfold ownG; first | exact decide_eq_true (by omega) | exact decide_eq_false (by omega))), rfl⟩)
        | (have c1 : ((f : Int) < 3) := by omega
           have c1' : decide ((f : Int) < 3) = true := decide_eq_true c1
           have c2 : ((f : Int) ≠ 3) := by omega
           have c3 : ((f : Int) ≠ 4) := by omega
           have c4 : decide ((4 : Int) < f) = false := decide_eq_false (by omega)
           go_wp2_with fail; go_meet; exact ⟨congrArg Value.bool (Eq.symm (by unfold ownG; first | exact decide_eq_true (by omega) | exact decide_eq_false (by omega))), rfl⟩)
        | (have c1 : decide ((f : Int) < 3) = false := decide_eq_false (by omega)
           have c2 : ((f : Int) ≠ 3) := by omega
           have c3 : ((f : Int) ≠ 4) := by omega
           have c4 : decide ((4 : Int) < f) = true := decide_eq_true (by omega)
           go_wp2_with fail; go_meet; exact ⟨congrArg Value.bool (Eq.symm (by unfold ownG; first | exact decide_eq_true (by omega) | exact decide_eq_false (by omega))), rfl⟩)
  case rest =>
    obtain ⟨rfl, hw⟩ := hcut
    rw [hw]
    clear hw
    obtain ⟨⟨f0, f1, f2, f3, f4, f5, f6, f7, f8⟩, ⟨x0, x1, x2, x3, x4, x5, x6, x7, x8⟩, -⟩ := HS6.out.all
    go_wp2_with fail
    refine (HMD.out _ (Below.refl _ _)).mono ?_
    rintro e w7 ⟨rfl, b7'⟩
    have HS7 := Lib.hid (HS6.out.next b7')
    clear b7' HMD HS6
    generalize ownG (f : Int) (p : Int) = O at *
    cases O with
    | true =>
      go_wp2_with fail
      go_ret
      exact ⟨rfl, Below.down HKB.out HS7.out.below HKB.out.size⟩
    | false =>
      have HN := Lib.hid (fun (q g : Nat) (hq : q < 3) (hg : g < 16) (wr : Bool) => (al_frame pg_may0 (q := q) (g := g) (show q < 3 from hq) (show ((g : Int) + 1) * 64 ≤ 16 * 64 by omega) wr).trans (rc_pgN q g wr))
      have HD := Lib.hid (fun (q g : Nat) (hq : q < 3) (hg : g < 16) (wr : Bool) => (al_frame (c := pgC f p wb) HPM.out (q := q) (g := g) (show q < 3 from hq) (show ((g : Int) + 1) * 64 ≤ 16 * 64 by omega) wr).trans (rc_pgC f p wb q g wr))
      go_wp2_with fail
      go_loopw [12, 13, 14] (fun i _ _ wr => ∃ (g : Nat), g ≤ 16 ∧ i = .int .i64 g ∧ Hid (CgS w6 plC (.slice (some ⟨b4, 0, none⟩) 3 3) (.slice (some ⟨b7, 0, none⟩) 2 2) (.slice (some ⟨b8, 0, none⟩) 3 3) (.slice none 0 0) (.slice (some ⟨d4, 0, none⟩) 3 3) (.slice (some ⟨d7, 0, none⟩) 2 2) (.slice (some ⟨d8, 0, none⟩) 3 3) (.slice (some ⟨z, 0, none⟩) 1 1) V7 (V7 + 1) wr)) (fun i _ _ _ => 16 - (intOf i).toNat)
      case atStart => exact ⟨0, by omega, rfl, HS7⟩
      case round =>
        obtain ⟨g, hg, rfl, HS⟩ := hrel
        by_cases hlt : g < 16
        · have hd16 : decide ((g : Int) < 16) = true := decide_eq_true (by omega)
          go_wp2_with fail
          go_loopw [13, 14] (fun j _ wr => ∃ (q : Nat), q ≤ 3 ∧ j = .int .i64 q ∧ Hid (CgS w6 plC (.slice (some ⟨b4, 0, none⟩) 3 3) (.slice (some ⟨b7, 0, none⟩) 2 2) (.slice (some ⟨b8, 0, none⟩) 3 3) (.slice none 0 0) (.slice (some ⟨d4, 0, none⟩) 3 3) (.slice (some ⟨d7, 0, none⟩) 2 2) (.slice (some ⟨d8, 0, none⟩) 3 3) (.slice (some ⟨z, 0, none⟩) 1 1) V7 (V7 + 1) wr)) (fun j _ _ => 3 - (intOf j).toNat)
          case atStart => exact ⟨0, by omega, rfl, HS⟩
          case round =>
            obtain ⟨q, hq, rfl, HS⟩ := hrel
            obtain ⟨⟨f0, f1, f2, f3, f4, f5, f6, f7, f8⟩, ⟨x0, x1, x2, x3, x4, x5, x6, x7, x8⟩, hS'⟩ := HS.out.all
            by_cases hlt2 : q < 3
            · have hd3 : decide ((q : Int) < 3) = true := decide_eq_true (by omega)
              have hmul : IntKind.i64.wrap ((g : Int) * 64) = (g : Int) * 64 := IntWalk.i64_in _ (by omega)
              have EN := fun wr => HN.out q g hlt2 hlt wr
              have ED := fun wr => HD.out q g hlt2 hlt wr
              by_cases ho : ownF plC (g : Int) = (q : Int)
              · have ERD : Hid (alB (pgC f p wb) (q : Int) ((g : Int) * 64) 64 false = true) := Lib.hid (by rw [ED, decide_eq_true ho, Bool.true_or])
                have ERC : Hid (alB pgN (q : Int) ((g : Int) * 64) 64 false = true) := Lib.hid (by rw [EN, decide_eq_true ho])
                have EWD : Hid (alB (pgC f p wb) (q : Int) ((g : Int) * 64) 64 true = true) := Lib.hid (by rw [ED, decide_eq_true ho, Bool.true_or])
                have EWC : Hid (alB pgN (q : Int) ((g : Int) * 64) 64 true = true) := Lib.hid (by rw [EN, decide_eq_true ho])
                clear ED EN ho
                by_cases hgf : g = f
                · subst hgf
                  by_cases hqp : q = p
                  · subst hqp
                    go_wp2_with fail
                    refine wp_region_held_drew (S := (fun w' => (w'.cell? ⟨V7, 0, none⟩ = some (.int .i64 16) ∧ w'.cell? ⟨V7, 1, none⟩ = some (.slice (some ⟨b4, 0, none⟩) 3 3) ∧ w'.cell? ⟨V7, 2, none⟩ = some (.slice (some ⟨b7, 0, none⟩) 2 2) ∧ w'.cell? ⟨V7, 3, none⟩ = some (.int .i64 6) ∧ w'.cell? ⟨V7, 4, none⟩ = some (.slice (some ⟨b8, 0, none⟩) 3 3) ∧ w'.cell? ⟨V7, 5, none⟩ = some (.slice none 0 0) ∧ w'.cell? ⟨V7, 6, none⟩ = some (.int .i64 10) ∧ w'.cell? ⟨V7, 7, none⟩ = some (.int .i64 6) ∧ w'.cell? ⟨V7, 8, none⟩ = some (.int .i64 2)) ∧ (w'.cell? ⟨V7 + 1, 0, none⟩ = some (.int .i64 16) ∧ w'.cell? ⟨V7 + 1, 1, none⟩ = some (.slice (some ⟨d4, 0, none⟩) 3 3) ∧ w'.cell? ⟨V7 + 1, 2, none⟩ = some (.slice (some ⟨d7, 0, none⟩) 2 2) ∧ w'.cell? ⟨V7 + 1, 3, none⟩ = some (.int .i64 6) ∧ w'.cell? ⟨V7 + 1, 4, none⟩ = some (.slice (some ⟨d8, 0, none⟩) 3 3) ∧ w'.cell? ⟨V7 + 1, 5, none⟩ = some (.slice (some ⟨z, 0, none⟩) 1 1) ∧ w'.cell? ⟨V7 + 1, 6, none⟩ = some (.int .i64 10) ∧ w'.cell? ⟨V7 + 1, 7, none⟩ = some (.int .i64 6) ∧ w'.cell? ⟨V7 + 1, 8, none⟩ = some (.int .i64 2)) ∧ CgS w6 plC (.slice (some ⟨b4, 0, none⟩) 3 3) (.slice (some ⟨b7, 0, none⟩) 2 2) (.slice (some ⟨b8, 0, none⟩) 3 3) (.slice none 0 0) (.slice (some ⟨d4, 0, none⟩) 3 3) (.slice (some ⟨d7, 0, none⟩) 2 2) (.slice (some ⟨d8, 0, none⟩) 3 3) (.slice (some ⟨z, 0, none⟩) 1 1) V7 (V7 + 1) w')) (by kernel_rfl) ?_ (fun hHeld => ?_)
                    · try dsimp only
                      (go_split_ands; refine CgS.all (c := plC) ?_; (first | assumption | (exact CgS.drew (by assumption)) | (exact CgS.next (by assumption) (by assumption))))
                    refine wpAnyH_take (i := 0) (v := ?v0zoa) rfl (by kernel_rfl) (by kernel_rfl) (by kernel_rfl) (fun _ _ _ h => h) (Or.inl ⟨by rfl, ?hy0zoa⟩) (by assumption) ?rest0zoa
                    case hy0zoa => intro w hSw; (try dsimp only at hSw); first | (go_simp; done) | (go_simp; with_reducible rfl)
                    try simp only [Act.put, List.getElem_toArray, List.getElem_cons_succ, List.getElem_cons_zero, List.setIfInBounds_toArray, List.set_cons_zero, List.set_cons_succ]
                    refine wpAnyH_take (i := 1) (v := ?v1zoa) rfl (by kernel_rfl) (by kernel_rfl) (by kernel_rfl) (fun _ _ _ h => h) (Or.inl ⟨by rfl, ?hy1zoa⟩) (by assumption) ?rest1zoa
                    case hy1zoa => intro w hSw; (try dsimp only at hSw); first | (go_simp; done) | (go_simp; with_reducible rfl)
                    try simp only [Act.put, List.getElem_toArray, List.getElem_cons_succ, List.getElem_cons_zero, List.setIfInBounds_toArray, List.set_cons_zero, List.set_cons_succ]
                    refine wpAnyH_take (i := 2) (v := ?v2zoa) rfl (by kernel_rfl) (by kernel_rfl) (by kernel_rfl) (fun _ _ _ h => h) (Or.inl ⟨by rfl, ?hy2zoa⟩) (by assumption) ?rest2zoa
                    case hy2zoa => intro w hSw; (try dsimp only at hSw); first | (go_simp; done) | (go_simp; with_reducible rfl)
                    try simp only [Act.put, List.getElem_toArray, List.getElem_cons_succ, List.getElem_cons_zero, List.setIfInBounds_toArray, List.set_cons_zero, List.set_cons_succ]
                    refine wpAnyH_take (i := 3) (v := ?v3zoa) rfl (by kernel_rfl) (by kernel_rfl) (by kernel_rfl) (fun _ _ _ h => h) (Or.inl ⟨by rfl, ?hy3zoa⟩) (by assumption) ?rest3zoa
                    case hy3zoa => intro w hSw; (try dsimp only at hSw); first | (go_simp; done) | (go_simp; with_reducible rfl)
                    try simp only [Act.put, List.getElem_toArray, List.getElem_cons_succ, List.getElem_cons_zero, List.setIfInBounds_toArray, List.set_cons_zero, List.set_cons_succ]
                    refine wpAnyH_take (i := 5) (v := ?v5zoa) rfl (by kernel_rfl) (by kernel_rfl) (by kernel_rfl) (fun _ _ _ h => h) (Or.inl ⟨by rfl, ?hy5zoa⟩) (by assumption) ?rest5zoa
                    case hy5zoa => intro w hSw; (try dsimp only at hSw); first | (go_simp; done) | (go_simp; with_reducible rfl)
                    try simp only [Act.put, List.getElem_toArray, List.getElem_cons_succ, List.getElem_cons_zero, List.setIfInBounds_toArray, List.set_cons_zero, List.set_cons_succ]
                    refine wpAnyH_take (i := 6) (v := ?v6zoa) rfl (by kernel_rfl) (by kernel_rfl) (by kernel_rfl) (fun _ _ _ h => h) (Or.inl ⟨by rfl, ?hy6zoa⟩) (by assumption) ?rest6zoa
                    case hy6zoa => intro w hSw; (try dsimp only at hSw); first | (go_simp; done) | (go_simp; with_reducible rfl)
                    try simp only [Act.put, List.getElem_toArray, List.getElem_cons_succ, List.getElem_cons_zero, List.setIfInBounds_toArray, List.set_cons_zero, List.set_cons_succ]
                    refine wpAnyH_take (i := 7) (v := ?v7zoa) rfl (by kernel_rfl) (by kernel_rfl) (by kernel_rfl) (fun _ _ _ h => h) (Or.inl ⟨by rfl, ?hy7zoa⟩) (by assumption) ?rest7zoa
                    case hy7zoa => intro w hSw; (try dsimp only at hSw); first | (go_simp; done) | (go_simp; with_reducible rfl)
                    try simp only [Act.put, List.getElem_toArray, List.getElem_cons_succ, List.getElem_cons_zero, List.setIfInBounds_toArray, List.set_cons_zero, List.set_cons_succ]
                    refine wpAnyH_take (i := 8) (v := ?v8zoa) rfl (by kernel_rfl) (by kernel_rfl) (by kernel_rfl) (fun _ _ _ h => h) (Or.inl ⟨by rfl, ?hy8zoa⟩) (by assumption) ?rest8zoa
                    case hy8zoa => intro w hSw; (try dsimp only at hSw); first | (go_simp; done) | (go_simp; with_reducible rfl)
                    try simp only [Act.put, List.getElem_toArray, List.getElem_cons_succ, List.getElem_cons_zero, List.setIfInBounds_toArray, List.set_cons_zero, List.set_cons_succ]
                    refine wpAnyH_ready (rs := [4]) (by kernel_rfl) (by simp) ?_
                    refine AllReadyH.cons rfl (fun K hK => ?_) AllReadyH.nil
                    go_simp
                    refine (HRD.out _ hHeld.2.2.below (q : Int) ((g : Int) * 64)).mono ?_
                    rintro e wk ⟨rfl, hbk⟩
                    rw [ERD.out]
                    go_wp2_with fail
                    refine hK.out _ _ ?_ (fun hHeld2 => ?_)
                    · try dsimp only
                      (go_split_ands; refine CgS.all (c := plC) ?_; (first | assumption | (exact CgS.drew (by assumption)) | (exact CgS.next (by assumption) (by assumption))))
                    clear hK K hHeld
                    have hHeld := hHeld2; clear hHeld2
                    try simp only [Act.put, List.getElem_toArray, List.getElem_cons_succ, List.getElem_cons_zero, List.setIfInBounds_toArray, List.set_cons_zero, List.set_cons_succ]
                    refine wpAnyH_ready (rs := [9]) (by kernel_rfl) (by simp) ?_
                    refine AllReadyH.cons rfl (fun K hK => ?_) AllReadyH.nil
                    go_simp
                    refine (HRC.out _ hHeld.2.2.below (q : Int) ((g : Int) * 64)).mono ?_
                    rintro e wk ⟨rfl, hbk⟩
                    rw [ERC.out]
                    go_wp2_with fail
                    refine hK.out _ _ ?_ (fun hHeld2 => ?_)
                    · try dsimp only
                      (go_split_ands; refine CgS.all (c := plC) ?_; (first | assumption | (exact CgS.drew (by assumption)) | (exact CgS.next (by assumption) (by assumption))))
                    clear hK K hHeld
                    have hHeld := hHeld2; clear hHeld2
                    try simp only [Act.put, List.getElem_toArray, List.getElem_cons_succ, List.getElem_cons_zero, List.setIfInBounds_toArray, List.set_cons_zero, List.set_cons_succ]
                    refine wpAnyH_take (i := 10) (v := ?v10zoa) rfl (by kernel_rfl) (by kernel_rfl) (by kernel_rfl) (fun _ _ _ h => h) (Or.inl ⟨by rfl, ?hy10zoa⟩) (by assumption) ?rest10zoa
                    case hy10zoa => intro w hSw; (try dsimp only at hSw); first | (go_simp; done) | (go_simp; with_reducible rfl)
                    try simp only [Act.put, List.getElem_toArray, List.getElem_cons_succ, List.getElem_cons_zero, List.setIfInBounds_toArray, List.set_cons_zero, List.set_cons_succ]
                    refine wpAnyH_take (i := 11) (v := undef) rfl (by kernel_rfl) (by kernel_rfl) (by kernel_rfl) (fun _ _ _ h => h) (Or.inr ⟨by rfl, rfl⟩) (by assumption) ?rest11zoa
                    try simp only [Act.put, List.getElem_toArray, List.getElem_cons_succ, List.getElem_cons_zero, List.setIfInBounds_toArray, List.set_cons_zero, List.set_cons_succ]
                    refine wpAnyH_take (i := 12) (v := ?v12zoa) rfl (by kernel_rfl) (by kernel_rfl) (by kernel_rfl) (fun _ _ _ h => h) (Or.inl ⟨by rfl, ?hy12zoa⟩) (by assumption) ?rest12zoa
                    case hy12zoa => intro w hSw; (try dsimp only at hSw); first | (go_simp; done) | (go_simp; with_reducible rfl)
                    try simp only [Act.put, List.getElem_toArray, List.getElem_cons_succ, List.getElem_cons_zero, List.setIfInBounds_toArray, List.set_cons_zero, List.set_cons_succ]
                    refine wpAnyH_take (i := 13) (v := ?v13zoa) rfl (by kernel_rfl) (by kernel_rfl) (by kernel_rfl) (fun _ _ _ h => h) (Or.inl ⟨by rfl, ?hy13zoa⟩) (by assumption) ?rest13zoa
                    case hy13zoa => intro w hSw; (try dsimp only at hSw); first | (go_simp; done) | (go_simp; with_reducible rfl)
                    try simp only [Act.put, List.getElem_toArray, List.getElem_cons_succ, List.getElem_cons_zero, List.setIfInBounds_toArray, List.set_cons_zero, List.set_cons_succ]
                    refine wpAnyH_take (i := 14) (v := ?v14zoa) rfl (by kernel_rfl) (by kernel_rfl) (by kernel_rfl) (fun _ _ _ h => h) (Or.inl ⟨by rfl, ?hy14zoa⟩) (by assumption) ?rest14zoa
                    case hy14zoa => intro w hSw; (try dsimp only at hSw); first | (go_simp; done) | (go_simp; with_reducible rfl)
                    try simp only [Act.put, List.getElem_toArray, List.getElem_cons_succ, List.getElem_cons_zero, List.setIfInBounds_toArray, List.set_cons_zero, List.set_cons_succ]
                    refine wpAnyH_take (i := 15) (v := ?v15zoa) rfl (by kernel_rfl) (by kernel_rfl) (by kernel_rfl) (fun _ _ _ h => h) (Or.inl ⟨by rfl, ?hy15zoa⟩) (by assumption) ?rest15zoa
                    case hy15zoa => intro w hSw; (try dsimp only at hSw); first | (go_simp; done) | (go_simp; with_reducible rfl)
                    try simp only [Act.put, List.getElem_toArray, List.getElem_cons_succ, List.getElem_cons_zero, List.setIfInBounds_toArray, List.set_cons_zero, List.set_cons_succ]
                    refine wpAnyH_take (i := 16) (v := ?v16zoa) rfl (by kernel_rfl) (by kernel_rfl) (by kernel_rfl) (fun _ _ _ h => h) (Or.inl ⟨by rfl, ?hy16zoa⟩) (by assumption) ?rest16zoa
                    case hy16zoa => intro w hSw; (try dsimp only at hSw); first | (go_simp; done) | (go_simp; with_reducible rfl)
                    try simp only [Act.put, List.getElem_toArray, List.getElem_cons_succ, List.getElem_cons_zero, List.setIfInBounds_toArray, List.set_cons_zero, List.set_cons_succ]
                    refine wpAnyH_take (i := 17) (v := ?v17zoa) rfl (by kernel_rfl) (by kernel_rfl) (by kernel_rfl) (fun _ _ _ h => h) (Or.inl ⟨by rfl, ?hy17zoa⟩) (by assumption) ?rest17zoa
                    case hy17zoa => intro w hSw; (try dsimp only at hSw); first | (go_simp; done) | (go_simp; with_reducible rfl)
                    try simp only [Act.put, List.getElem_toArray, List.getElem_cons_succ, List.getElem_cons_zero, List.setIfInBounds_toArray, List.set_cons_zero, List.set_cons_succ]
                    refine wpAnyH_take (i := 18) (v := ?v18zoa) rfl (by kernel_rfl) (by kernel_rfl) (by kernel_rfl) (fun _ _ _ h => h) (Or.inl ⟨by rfl, ?hy18zoa⟩) (by assumption) ?rest18zoa
                    case hy18zoa => intro w hSw; (try dsimp only at hSw); first | (go_simp; done) | (go_simp; with_reducible rfl)
                    try simp only [Act.put, List.getElem_toArray, List.getElem_cons_succ, List.getElem_cons_zero, List.setIfInBounds_toArray, List.set_cons_zero, List.set_cons_succ]
                    refine wpAnyH_take (i := 20) (v := ?v20zoa) rfl (by kernel_rfl) (by kernel_rfl) (by kernel_rfl) (fun _ _ _ h => h) (Or.inl ⟨by rfl, ?hy20zoa⟩) (by assumption) ?rest20zoa
                    case hy20zoa => intro w hSw; (try dsimp only at hSw); first | (go_simp; done) | (go_simp; with_reducible rfl)
                    try simp only [Act.put, List.getElem_toArray, List.getElem_cons_succ, List.getElem_cons_zero, List.setIfInBounds_toArray, List.set_cons_zero, List.set_cons_succ]
                    refine wpAnyH_take (i := 21) (v := ?v21zoa) rfl (by kernel_rfl) (by kernel_rfl) (by kernel_rfl) (fun _ _ _ h => h) (Or.inl ⟨by rfl, ?hy21zoa⟩) (by assumption) ?rest21zoa
                    case hy21zoa => intro w hSw; (try dsimp only at hSw); first | (go_simp; done) | (go_simp; with_reducible rfl)
                    try simp only [Act.put, List.getElem_toArray, List.getElem_cons_succ, List.getElem_cons_zero, List.setIfInBounds_toArray, List.set_cons_zero, List.set_cons_succ]
                    refine wpAnyH_take (i := 22) (v := ?v22zoa) rfl (by kernel_rfl) (by kernel_rfl) (by kernel_rfl) (fun _ _ _ h => h) (Or.inl ⟨by rfl, ?hy22zoa⟩) (by assumption) ?rest22zoa
                    case hy22zoa => intro w hSw; (try dsimp only at hSw); first | (go_simp; done) | (go_simp; with_reducible rfl)
                    try simp only [Act.put, List.getElem_toArray, List.getElem_cons_succ, List.getElem_cons_zero, List.setIfInBounds_toArray, List.set_cons_zero, List.set_cons_succ]
                    refine wpAnyH_take (i := 23) (v := ?v23zoa) rfl (by kernel_rfl) (by kernel_rfl) (by kernel_rfl) (fun _ _ _ h => h) (Or.inl ⟨by rfl, ?hy23zoa⟩) (by assumption) ?rest23zoa
                    case hy23zoa => intro w hSw; (try dsimp only at hSw); first | (go_simp; done) | (go_simp; with_reducible rfl)
                    try simp only [Act.put, List.getElem_toArray, List.getElem_cons_succ, List.getElem_cons_zero, List.setIfInBounds_toArray, List.set_cons_zero, List.set_cons_succ]
                    refine wpAnyH_ready (rs := [19]) (by kernel_rfl) (by simp) ?_
                    refine AllReadyH.cons rfl (fun K hK => ?_) AllReadyH.nil
                    go_simp
                    refine (HWD.out _ hHeld.2.2.below (q : Int) ((g : Int) * 64)).mono ?_
                    rintro e wk ⟨rfl, hbk⟩
                    rw [EWD.out]
                    go_wp2_with fail
                    refine hK.out _ _ ?_ (fun hHeld2 => ?_)
                    · try dsimp only
                      (go_split_ands; refine CgS.all (c := plC) ?_; (first | assumption | (exact CgS.drew (by assumption)) | (exact CgS.next (by assumption) (by assumption))))
                    clear hK K hHeld
                    have hHeld := hHeld2; clear hHeld2
                    try simp only [Act.put, List.getElem_toArray, List.getElem_cons_succ, List.getElem_cons_zero, List.setIfInBounds_toArray, List.set_cons_zero, List.set_cons_succ]
                    refine wpAnyH_ready (rs := [24]) (by kernel_rfl) (by simp) ?_
                    refine AllReadyH.cons rfl (fun K hK => ?_) AllReadyH.nil
                    go_simp
                    refine (HWC.out _ hHeld.2.2.below (q : Int) ((g : Int) * 64)).mono ?_
                    rintro e wk ⟨rfl, hbk⟩
                    rw [EWC.out]
                    go_wp2_with fail
                    refine hK.out _ _ ?_ (fun hHeld2 => ?_)
                    · try dsimp only
                      (go_split_ands; refine CgS.all (c := plC) ?_; (first | assumption | (exact CgS.drew (by assumption)) | (exact CgS.next (by assumption) (by assumption))))
                    clear hK K hHeld
                    have hHeld := hHeld2; clear hHeld2
                    try simp only [Act.put, List.getElem_toArray, List.getElem_cons_succ, List.getElem_cons_zero, List.setIfInBounds_toArray, List.set_cons_zero, List.set_cons_succ]
                    refine wpAnyH_take (i := 25) (v := ?v25zoa) rfl (by kernel_rfl) (by kernel_rfl) (by kernel_rfl) (fun _ _ _ h => h) (Or.inl ⟨by rfl, ?hy25zoa⟩) (by assumption) ?rest25zoa
                    case hy25zoa => intro w hSw; (try dsimp only at hSw); first | (go_simp; done) | (go_simp; with_reducible rfl)
                    try simp only [Act.put, List.getElem_toArray, List.getElem_cons_succ, List.getElem_cons_zero, List.setIfInBounds_toArray, List.set_cons_zero, List.set_cons_succ]
                    refine wpAnyH_take (i := 26) (v := undef) rfl (by kernel_rfl) (by kernel_rfl) (by kernel_rfl) (fun _ _ _ h => h) (Or.inr ⟨by rfl, rfl⟩) (by assumption) ?rest26zoa
                    try simp only [Act.put, List.getElem_toArray, List.getElem_cons_succ, List.getElem_cons_zero, List.setIfInBounds_toArray, List.set_cons_zero, List.set_cons_succ]
                    refine wpAnyH_take (i := 27) (v := undef) rfl (by kernel_rfl) (by kernel_rfl) (by kernel_rfl) (fun _ _ _ h => h) (Or.inr ⟨by rfl, rfl⟩) (by assumption) ?rest27zoa
                    try simp only [Act.put, List.getElem_toArray, List.getElem_cons_succ, List.getElem_cons_zero, List.setIfInBounds_toArray, List.set_cons_zero, List.set_cons_succ]
                    refine wpAnyH_take (i := 28) (v := undef) rfl (by kernel_rfl) (by kernel_rfl) (by kernel_rfl) (fun _ _ _ h => h) (Or.inr ⟨by rfl, rfl⟩) (by assumption) ?rest28zoa
                    try simp only [Act.put, List.getElem_toArray, List.getElem_cons_succ, List.getElem_cons_zero, List.setIfInBounds_toArray, List.set_cons_zero, List.set_cons_succ]
                    refine wpAnyH_take (i := 29) (v := undef) rfl (by kernel_rfl) (by kernel_rfl) (by kernel_rfl) (fun _ _ _ h => h) (Or.inr ⟨by rfl, rfl⟩) (by assumption) ?rest29zoa
                    try simp only [Act.put, List.getElem_toArray, List.getElem_cons_succ, List.getElem_cons_zero, List.setIfInBounds_toArray, List.set_cons_zero, List.set_cons_succ]
                    refine wpAnyH_take (i := 30) (v := ?v30zoa) rfl (by kernel_rfl) (by kernel_rfl) (by kernel_rfl) (fun _ _ _ h => h) (Or.inl ⟨by rfl, ?hy30zoa⟩) (by assumption) ?rest30zoa
                    case hy30zoa => intro w hSw; (try dsimp only at hSw); first | (go_simp; done) | (go_simp; with_reducible rfl)
                    try simp only [Act.put, List.getElem_toArray, List.getElem_cons_succ, List.getElem_cons_zero, List.setIfInBounds_toArray, List.set_cons_zero, List.set_cons_succ]
                    refine wpAnyH_take (i := 31) (v := ?v31zoa) rfl (by kernel_rfl) (by kernel_rfl) (by kernel_rfl) (fun _ _ _ h => h) (Or.inl ⟨by rfl, ?hy31zoa⟩) (by assumption) ?rest31zoa
                    case hy31zoa => intro w hSw; (try dsimp only at hSw); first | (go_simp; done) | (go_simp; with_reducible rfl)
                    try simp only [Act.put, List.getElem_toArray, List.getElem_cons_succ, List.getElem_cons_zero, List.setIfInBounds_toArray, List.set_cons_zero, List.set_cons_succ]
                    refine wpAnyH_take (i := 32) (v := ?v32zoa) rfl (by kernel_rfl) (by kernel_rfl) (by kernel_rfl) (fun _ _ _ h => h) (Or.inl ⟨by rfl, ?hy32zoa⟩) (by assumption) ?rest32zoa
                    case hy32zoa => intro w hSw; (try dsimp only at hSw); first | (go_simp; done) | (go_simp; with_reducible rfl)
                    try simp only [Act.put, List.getElem_toArray, List.getElem_cons_succ, List.getElem_cons_zero, List.setIfInBounds_toArray, List.set_cons_zero, List.set_cons_succ]
                    refine wpAnyH_done (by kernel_rfl) ?_ _
                    all_goals
                      have hS6 := hHeld.2.2
                      have HS6 := Lib.hid hS6
                      clear hHeld hS6
                      go_wp2_with fail
                      go_roundw
                      case rel => exact ⟨q + 1, by omega, by go_num, HS6⟩
                      case measure => simp [intOf]; omega
                  · have hn : (((q : Int) == (p : Int)) = false) := beq_eq_false_iff_ne.2 (by omega)
                    go_wp2_with fail
                    refine wp_region_held_drew (S := (fun w' => (w'.cell? ⟨V7, 0, none⟩ = some (.int .i64 16) ∧ w'.cell? ⟨V7, 1, none⟩ = some (.slice (some ⟨b4, 0, none⟩) 3 3) ∧ w'.cell? ⟨V7, 2, none⟩ = some (.slice (some ⟨b7, 0, none⟩) 2 2) ∧ w'.cell? ⟨V7, 3, none⟩ = some (.int .i64 6) ∧ w'.cell? ⟨V7, 4, none⟩ = some (.slice (some ⟨b8, 0, none⟩) 3 3) ∧ w'.cell? ⟨V7, 5, none⟩ = some (.slice none 0 0) ∧ w'.cell? ⟨V7, 6, none⟩ = some (.int .i64 10) ∧ w'.cell? ⟨V7, 7, none⟩ = some (.int .i64 6) ∧ w'.cell? ⟨V7, 8, none⟩ = some (.int .i64 2)) ∧ (w'.cell? ⟨V7 + 1, 0, none⟩ = some (.int .i64 16) ∧ w'.cell? ⟨V7 + 1, 1, none⟩ = some (.slice (some ⟨d4, 0, none⟩) 3 3) ∧ w'.cell? ⟨V7 + 1, 2, none⟩ = some (.slice (some ⟨d7, 0, none⟩) 2 2) ∧ w'.cell? ⟨V7 + 1, 3, none⟩ = some (.int .i64 6) ∧ w'.cell? ⟨V7 + 1, 4, none⟩ = some (.slice (some ⟨d8, 0, none⟩) 3 3) ∧ w'.cell? ⟨V7 + 1, 5, none⟩ = some (.slice (some ⟨z, 0, none⟩) 1 1) ∧ w'.cell? ⟨V7 + 1, 6, none⟩ = some (.int .i64 10) ∧ w'.cell? ⟨V7 + 1, 7, none⟩ = some (.int .i64 6) ∧ w'.cell? ⟨V7 + 1, 8, none⟩ = some (.int .i64 2)) ∧ CgS w6 plC (.slice (some ⟨b4, 0, none⟩) 3 3) (.slice (some ⟨b7, 0, none⟩) 2 2) (.slice (some ⟨b8, 0, none⟩) 3 3) (.slice none 0 0) (.slice (some ⟨d4, 0, none⟩) 3 3) (.slice (some ⟨d7, 0, none⟩) 2 2) (.slice (some ⟨d8, 0, none⟩) 3 3) (.slice (some ⟨z, 0, none⟩) 1 1) V7 (V7 + 1) w')) (by kernel_rfl) ?_ (fun hHeld => ?_)
                    · try dsimp only
                      (go_split_ands; refine CgS.all (c := plC) ?_; (first | assumption | (exact CgS.drew (by assumption)) | (exact CgS.next (by assumption) (by assumption))))
                    refine wpAnyH_take (i := 0) (v := ?v0zob) rfl (by kernel_rfl) (by kernel_rfl) (by kernel_rfl) (fun _ _ _ h => h) (Or.inl ⟨by rfl, ?hy0zob⟩) (by assumption) ?rest0zob
                    case hy0zob => intro w hSw; (try dsimp only at hSw); first | (go_simp; done) | (go_simp; with_reducible rfl)
                    try simp only [Act.put, List.getElem_toArray, List.getElem_cons_succ, List.getElem_cons_zero, List.setIfInBounds_toArray, List.set_cons_zero, List.set_cons_succ]
                    refine wpAnyH_take (i := 1) (v := ?v1zob) rfl (by kernel_rfl) (by kernel_rfl) (by kernel_rfl) (fun _ _ _ h => h) (Or.inl ⟨by rfl, ?hy1zob⟩) (by assumption) ?rest1zob
                    case hy1zob => intro w hSw; (try dsimp only at hSw); first | (go_simp; done) | (go_simp; with_reducible rfl)
                    try simp only [Act.put, List.getElem_toArray, List.getElem_cons_succ, List.getElem_cons_zero, List.setIfInBounds_toArray, List.set_cons_zero, List.set_cons_succ]
                    refine wpAnyH_take (i := 2) (v := ?v2zob) rfl (by kernel_rfl) (by kernel_rfl) (by kernel_rfl) (fun _ _ _ h => h) (Or.inl ⟨by rfl, ?hy2zob⟩) (by assumption) ?rest2zob
                    case hy2zob => intro w hSw; (try dsimp only at hSw); first | (go_simp; done) | (go_simp; with_reducible rfl)
                    try simp only [Act.put, List.getElem_toArray, List.getElem_cons_succ, List.getElem_cons_zero, List.setIfInBounds_toArray, List.set_cons_zero, List.set_cons_succ]
                    refine wpAnyH_take (i := 3) (v := ?v3zob) rfl (by kernel_rfl) (by kernel_rfl) (by kernel_rfl) (fun _ _ _ h => h) (Or.inl ⟨by rfl, ?hy3zob⟩) (by assumption) ?rest3zob
                    case hy3zob => intro w hSw; (try dsimp only at hSw); first | (go_simp; done) | (go_simp; with_reducible rfl)
                    try simp only [Act.put, List.getElem_toArray, List.getElem_cons_succ, List.getElem_cons_zero, List.setIfInBounds_toArray, List.set_cons_zero, List.set_cons_succ]
                    refine wpAnyH_take (i := 5) (v := ?v5zob) rfl (by kernel_rfl) (by kernel_rfl) (by kernel_rfl) (fun _ _ _ h => h) (Or.inl ⟨by rfl, ?hy5zob⟩) (by assumption) ?rest5zob
                    case hy5zob => intro w hSw; (try dsimp only at hSw); first | (go_simp; done) | (go_simp; with_reducible rfl)
                    try simp only [Act.put, List.getElem_toArray, List.getElem_cons_succ, List.getElem_cons_zero, List.setIfInBounds_toArray, List.set_cons_zero, List.set_cons_succ]
                    refine wpAnyH_take (i := 6) (v := ?v6zob) rfl (by kernel_rfl) (by kernel_rfl) (by kernel_rfl) (fun _ _ _ h => h) (Or.inl ⟨by rfl, ?hy6zob⟩) (by assumption) ?rest6zob
                    case hy6zob => intro w hSw; (try dsimp only at hSw); first | (go_simp; done) | (go_simp; with_reducible rfl)
                    try simp only [Act.put, List.getElem_toArray, List.getElem_cons_succ, List.getElem_cons_zero, List.setIfInBounds_toArray, List.set_cons_zero, List.set_cons_succ]
                    refine wpAnyH_take (i := 7) (v := ?v7zob) rfl (by kernel_rfl) (by kernel_rfl) (by kernel_rfl) (fun _ _ _ h => h) (Or.inl ⟨by rfl, ?hy7zob⟩) (by assumption) ?rest7zob
                    case hy7zob => intro w hSw; (try dsimp only at hSw); first | (go_simp; done) | (go_simp; with_reducible rfl)
                    try simp only [Act.put, List.getElem_toArray, List.getElem_cons_succ, List.getElem_cons_zero, List.setIfInBounds_toArray, List.set_cons_zero, List.set_cons_succ]
                    refine wpAnyH_take (i := 8) (v := ?v8zob) rfl (by kernel_rfl) (by kernel_rfl) (by kernel_rfl) (fun _ _ _ h => h) (Or.inl ⟨by rfl, ?hy8zob⟩) (by assumption) ?rest8zob
                    case hy8zob => intro w hSw; (try dsimp only at hSw); first | (go_simp; done) | (go_simp; with_reducible rfl)
                    try simp only [Act.put, List.getElem_toArray, List.getElem_cons_succ, List.getElem_cons_zero, List.setIfInBounds_toArray, List.set_cons_zero, List.set_cons_succ]
                    refine wpAnyH_ready (rs := [4]) (by kernel_rfl) (by simp) ?_
                    refine AllReadyH.cons rfl (fun K hK => ?_) AllReadyH.nil
                    go_simp
                    refine (HRD.out _ hHeld.2.2.below (q : Int) ((g : Int) * 64)).mono ?_
                    rintro e wk ⟨rfl, hbk⟩
                    rw [ERD.out]
                    go_wp2_with fail
                    refine hK.out _ _ ?_ (fun hHeld2 => ?_)
                    · try dsimp only
                      (go_split_ands; refine CgS.all (c := plC) ?_; (first | assumption | (exact CgS.drew (by assumption)) | (exact CgS.next (by assumption) (by assumption))))
                    clear hK K hHeld
                    have hHeld := hHeld2; clear hHeld2
                    try simp only [Act.put, List.getElem_toArray, List.getElem_cons_succ, List.getElem_cons_zero, List.setIfInBounds_toArray, List.set_cons_zero, List.set_cons_succ]
                    refine wpAnyH_ready (rs := [9]) (by kernel_rfl) (by simp) ?_
                    refine AllReadyH.cons rfl (fun K hK => ?_) AllReadyH.nil
                    go_simp
                    refine (HRC.out _ hHeld.2.2.below (q : Int) ((g : Int) * 64)).mono ?_
                    rintro e wk ⟨rfl, hbk⟩
                    rw [ERC.out]
                    go_wp2_with fail
                    refine hK.out _ _ ?_ (fun hHeld2 => ?_)
                    · try dsimp only
                      (go_split_ands; refine CgS.all (c := plC) ?_; (first | assumption | (exact CgS.drew (by assumption)) | (exact CgS.next (by assumption) (by assumption))))
                    clear hK K hHeld
                    have hHeld := hHeld2; clear hHeld2
                    try simp only [Act.put, List.getElem_toArray, List.getElem_cons_succ, List.getElem_cons_zero, List.setIfInBounds_toArray, List.set_cons_zero, List.set_cons_succ]
                    refine wpAnyH_take (i := 10) (v := ?v10zob) rfl (by kernel_rfl) (by kernel_rfl) (by kernel_rfl) (fun _ _ _ h => h) (Or.inl ⟨by rfl, ?hy10zob⟩) (by assumption) ?rest10zob
                    case hy10zob => intro w hSw; (try dsimp only at hSw); first | (go_simp; done) | (go_simp; with_reducible rfl)
                    try simp only [Act.put, List.getElem_toArray, List.getElem_cons_succ, List.getElem_cons_zero, List.setIfInBounds_toArray, List.set_cons_zero, List.set_cons_succ]
                    refine wpAnyH_take (i := 11) (v := undef) rfl (by kernel_rfl) (by kernel_rfl) (by kernel_rfl) (fun _ _ _ h => h) (Or.inr ⟨by rfl, rfl⟩) (by assumption) ?rest11zob
                    try simp only [Act.put, List.getElem_toArray, List.getElem_cons_succ, List.getElem_cons_zero, List.setIfInBounds_toArray, List.set_cons_zero, List.set_cons_succ]
                    refine wpAnyH_take (i := 12) (v := ?v12zob) rfl (by kernel_rfl) (by kernel_rfl) (by kernel_rfl) (fun _ _ _ h => h) (Or.inl ⟨by rfl, ?hy12zob⟩) (by assumption) ?rest12zob
                    case hy12zob => intro w hSw; (try dsimp only at hSw); first | (go_simp; done) | (go_simp; with_reducible rfl)
                    try simp only [Act.put, List.getElem_toArray, List.getElem_cons_succ, List.getElem_cons_zero, List.setIfInBounds_toArray, List.set_cons_zero, List.set_cons_succ]
                    refine wpAnyH_take (i := 13) (v := ?v13zob) rfl (by kernel_rfl) (by kernel_rfl) (by kernel_rfl) (fun _ _ _ h => h) (Or.inl ⟨by rfl, ?hy13zob⟩) (by assumption) ?rest13zob
                    case hy13zob => intro w hSw; (try dsimp only at hSw); first | (go_simp; done) | (go_simp; with_reducible rfl)
                    try simp only [Act.put, List.getElem_toArray, List.getElem_cons_succ, List.getElem_cons_zero, List.setIfInBounds_toArray, List.set_cons_zero, List.set_cons_succ]
                    refine wpAnyH_take (i := 14) (v := ?v14zob) rfl (by kernel_rfl) (by kernel_rfl) (by kernel_rfl) (fun _ _ _ h => h) (Or.inl ⟨by rfl, ?hy14zob⟩) (by assumption) ?rest14zob
                    case hy14zob => intro w hSw; (try dsimp only at hSw); first | (go_simp; done) | (go_simp; with_reducible rfl)
                    try simp only [Act.put, List.getElem_toArray, List.getElem_cons_succ, List.getElem_cons_zero, List.setIfInBounds_toArray, List.set_cons_zero, List.set_cons_succ]
                    refine wpAnyH_take (i := 15) (v := ?v15zob) rfl (by kernel_rfl) (by kernel_rfl) (by kernel_rfl) (fun _ _ _ h => h) (Or.inl ⟨by rfl, ?hy15zob⟩) (by assumption) ?rest15zob
                    case hy15zob => intro w hSw; (try dsimp only at hSw); first | (go_simp; done) | (go_simp; with_reducible rfl)
                    try simp only [Act.put, List.getElem_toArray, List.getElem_cons_succ, List.getElem_cons_zero, List.setIfInBounds_toArray, List.set_cons_zero, List.set_cons_succ]
                    refine wpAnyH_take (i := 16) (v := ?v16zob) rfl (by kernel_rfl) (by kernel_rfl) (by kernel_rfl) (fun _ _ _ h => h) (Or.inl ⟨by rfl, ?hy16zob⟩) (by assumption) ?rest16zob
                    case hy16zob => intro w hSw; (try dsimp only at hSw); first | (go_simp; done) | (go_simp; with_reducible rfl)
                    try simp only [Act.put, List.getElem_toArray, List.getElem_cons_succ, List.getElem_cons_zero, List.setIfInBounds_toArray, List.set_cons_zero, List.set_cons_succ]
                    refine wpAnyH_take (i := 17) (v := ?v17zob) rfl (by kernel_rfl) (by kernel_rfl) (by kernel_rfl) (fun _ _ _ h => h) (Or.inl ⟨by rfl, ?hy17zob⟩) (by assumption) ?rest17zob
                    case hy17zob => intro w hSw; (try dsimp only at hSw); first | (go_simp; done) | (go_simp; with_reducible rfl)
                    try simp only [Act.put, List.getElem_toArray, List.getElem_cons_succ, List.getElem_cons_zero, List.setIfInBounds_toArray, List.set_cons_zero, List.set_cons_succ]
                    refine wpAnyH_take (i := 18) (v := ?v18zob) rfl (by kernel_rfl) (by kernel_rfl) (by kernel_rfl) (fun _ _ _ h => h) (Or.inl ⟨by rfl, ?hy18zob⟩) (by assumption) ?rest18zob
                    case hy18zob => intro w hSw; (try dsimp only at hSw); first | (go_simp; done) | (go_simp; with_reducible rfl)
                    try simp only [Act.put, List.getElem_toArray, List.getElem_cons_succ, List.getElem_cons_zero, List.setIfInBounds_toArray, List.set_cons_zero, List.set_cons_succ]
                    refine wpAnyH_take (i := 20) (v := ?v20zob) rfl (by kernel_rfl) (by kernel_rfl) (by kernel_rfl) (fun _ _ _ h => h) (Or.inl ⟨by rfl, ?hy20zob⟩) (by assumption) ?rest20zob
                    case hy20zob => intro w hSw; (try dsimp only at hSw); first | (go_simp; done) | (go_simp; with_reducible rfl)
                    try simp only [Act.put, List.getElem_toArray, List.getElem_cons_succ, List.getElem_cons_zero, List.setIfInBounds_toArray, List.set_cons_zero, List.set_cons_succ]
                    refine wpAnyH_take (i := 21) (v := ?v21zob) rfl (by kernel_rfl) (by kernel_rfl) (by kernel_rfl) (fun _ _ _ h => h) (Or.inl ⟨by rfl, ?hy21zob⟩) (by assumption) ?rest21zob
                    case hy21zob => intro w hSw; (try dsimp only at hSw); first | (go_simp; done) | (go_simp; with_reducible rfl)
                    try simp only [Act.put, List.getElem_toArray, List.getElem_cons_succ, List.getElem_cons_zero, List.setIfInBounds_toArray, List.set_cons_zero, List.set_cons_succ]
                    refine wpAnyH_take (i := 22) (v := ?v22zob) rfl (by kernel_rfl) (by kernel_rfl) (by kernel_rfl) (fun _ _ _ h => h) (Or.inl ⟨by rfl, ?hy22zob⟩) (by assumption) ?rest22zob
                    case hy22zob => intro w hSw; (try dsimp only at hSw); first | (go_simp; done) | (go_simp; with_reducible rfl)
                    try simp only [Act.put, List.getElem_toArray, List.getElem_cons_succ, List.getElem_cons_zero, List.setIfInBounds_toArray, List.set_cons_zero, List.set_cons_succ]
                    refine wpAnyH_take (i := 23) (v := ?v23zob) rfl (by kernel_rfl) (by kernel_rfl) (by kernel_rfl) (fun _ _ _ h => h) (Or.inl ⟨by rfl, ?hy23zob⟩) (by assumption) ?rest23zob
                    case hy23zob => intro w hSw; (try dsimp only at hSw); first | (go_simp; done) | (go_simp; with_reducible rfl)
                    try simp only [Act.put, List.getElem_toArray, List.getElem_cons_succ, List.getElem_cons_zero, List.setIfInBounds_toArray, List.set_cons_zero, List.set_cons_succ]
                    refine wpAnyH_ready (rs := [19]) (by kernel_rfl) (by simp) ?_
                    refine AllReadyH.cons rfl (fun K hK => ?_) AllReadyH.nil
                    go_simp
                    refine (HWD.out _ hHeld.2.2.below (q : Int) ((g : Int) * 64)).mono ?_
                    rintro e wk ⟨rfl, hbk⟩
                    rw [EWD.out]
                    go_wp2_with fail
                    refine hK.out _ _ ?_ (fun hHeld2 => ?_)
                    · try dsimp only
                      (go_split_ands; refine CgS.all (c := plC) ?_; (first | assumption | (exact CgS.drew (by assumption)) | (exact CgS.next (by assumption) (by assumption))))
                    clear hK K hHeld
                    have hHeld := hHeld2; clear hHeld2
                    try simp only [Act.put, List.getElem_toArray, List.getElem_cons_succ, List.getElem_cons_zero, List.setIfInBounds_toArray, List.set_cons_zero, List.set_cons_succ]
                    refine wpAnyH_ready (rs := [24]) (by kernel_rfl) (by simp) ?_
                    refine AllReadyH.cons rfl (fun K hK => ?_) AllReadyH.nil
                    go_simp
                    refine (HWC.out _ hHeld.2.2.below (q : Int) ((g : Int) * 64)).mono ?_
                    rintro e wk ⟨rfl, hbk⟩
                    rw [EWC.out]
                    go_wp2_with fail
                    refine hK.out _ _ ?_ (fun hHeld2 => ?_)
                    · try dsimp only
                      (go_split_ands; refine CgS.all (c := plC) ?_; (first | assumption | (exact CgS.drew (by assumption)) | (exact CgS.next (by assumption) (by assumption))))
                    clear hK K hHeld
                    have hHeld := hHeld2; clear hHeld2
                    try simp only [Act.put, List.getElem_toArray, List.getElem_cons_succ, List.getElem_cons_zero, List.setIfInBounds_toArray, List.set_cons_zero, List.set_cons_succ]
                    refine wpAnyH_take (i := 25) (v := ?v25zob) rfl (by kernel_rfl) (by kernel_rfl) (by kernel_rfl) (fun _ _ _ h => h) (Or.inl ⟨by rfl, ?hy25zob⟩) (by assumption) ?rest25zob
                    case hy25zob => intro w hSw; (try dsimp only at hSw); first | (go_simp; done) | (go_simp; with_reducible rfl)
                    try simp only [Act.put, List.getElem_toArray, List.getElem_cons_succ, List.getElem_cons_zero, List.setIfInBounds_toArray, List.set_cons_zero, List.set_cons_succ]
                    refine wpAnyH_take (i := 26) (v := undef) rfl (by kernel_rfl) (by kernel_rfl) (by kernel_rfl) (fun _ _ _ h => h) (Or.inr ⟨by rfl, rfl⟩) (by assumption) ?rest26zob
                    try simp only [Act.put, List.getElem_toArray, List.getElem_cons_succ, List.getElem_cons_zero, List.setIfInBounds_toArray, List.set_cons_zero, List.set_cons_succ]
                    refine wpAnyH_take (i := 27) (v := undef) rfl (by kernel_rfl) (by kernel_rfl) (by kernel_rfl) (fun _ _ _ h => h) (Or.inr ⟨by rfl, rfl⟩) (by assumption) ?rest27zob
                    try simp only [Act.put, List.getElem_toArray, List.getElem_cons_succ, List.getElem_cons_zero, List.setIfInBounds_toArray, List.set_cons_zero, List.set_cons_succ]
                    refine wpAnyH_take (i := 28) (v := undef) rfl (by kernel_rfl) (by kernel_rfl) (by kernel_rfl) (fun _ _ _ h => h) (Or.inr ⟨by rfl, rfl⟩) (by assumption) ?rest28zob
                    try simp only [Act.put, List.getElem_toArray, List.getElem_cons_succ, List.getElem_cons_zero, List.setIfInBounds_toArray, List.set_cons_zero, List.set_cons_succ]
                    refine wpAnyH_take (i := 29) (v := undef) rfl (by kernel_rfl) (by kernel_rfl) (by kernel_rfl) (fun _ _ _ h => h) (Or.inr ⟨by rfl, rfl⟩) (by assumption) ?rest29zob
                    try simp only [Act.put, List.getElem_toArray, List.getElem_cons_succ, List.getElem_cons_zero, List.setIfInBounds_toArray, List.set_cons_zero, List.set_cons_succ]
                    refine wpAnyH_take (i := 30) (v := ?v30zob) rfl (by kernel_rfl) (by kernel_rfl) (by kernel_rfl) (fun _ _ _ h => h) (Or.inl ⟨by rfl, ?hy30zob⟩) (by assumption) ?rest30zob
                    case hy30zob => intro w hSw; (try dsimp only at hSw); first | (go_simp; done) | (go_simp; with_reducible rfl)
                    try simp only [Act.put, List.getElem_toArray, List.getElem_cons_succ, List.getElem_cons_zero, List.setIfInBounds_toArray, List.set_cons_zero, List.set_cons_succ]
                    refine wpAnyH_take (i := 31) (v := ?v31zob) rfl (by kernel_rfl) (by kernel_rfl) (by kernel_rfl) (fun _ _ _ h => h) (Or.inl ⟨by rfl, ?hy31zob⟩) (by assumption) ?rest31zob
                    case hy31zob => intro w hSw; (try dsimp only at hSw); first | (go_simp; done) | (go_simp; with_reducible rfl)
                    try simp only [Act.put, List.getElem_toArray, List.getElem_cons_succ, List.getElem_cons_zero, List.setIfInBounds_toArray, List.set_cons_zero, List.set_cons_succ]
                    refine wpAnyH_take (i := 32) (v := ?v32zob) rfl (by kernel_rfl) (by kernel_rfl) (by kernel_rfl) (fun _ _ _ h => h) (Or.inl ⟨by rfl, ?hy32zob⟩) (by assumption) ?rest32zob
                    case hy32zob => intro w hSw; (try dsimp only at hSw); first | (go_simp; done) | (go_simp; with_reducible rfl)
                    try simp only [Act.put, List.getElem_toArray, List.getElem_cons_succ, List.getElem_cons_zero, List.setIfInBounds_toArray, List.set_cons_zero, List.set_cons_succ]
                    refine wpAnyH_done (by kernel_rfl) ?_ _
                    all_goals
                      have hS6 := hHeld.2.2
                      have HS6 := Lib.hid hS6
                      clear hHeld hS6
                      go_wp2_with fail
                      go_roundw
                      case rel => exact ⟨q + 1, by omega, by go_num, HS6⟩
                      case measure => simp [intOf]; omega
                · have hn : (((g : Int) == (f : Int)) = false) := beq_eq_false_iff_ne.2 (by omega)
                  go_wp2_with fail
                  refine wp_region_held_drew (S := (fun w' => (w'.cell? ⟨V7, 0, none⟩ = some (.int .i64 16) ∧ w'.cell? ⟨V7, 1, none⟩ = some (.slice (some ⟨b4, 0, none⟩) 3 3) ∧ w'.cell? ⟨V7, 2, none⟩ = some (.slice (some ⟨b7, 0, none⟩) 2 2) ∧ w'.cell? ⟨V7, 3, none⟩ = some (.int .i64 6) ∧ w'.cell? ⟨V7, 4, none⟩ = some (.slice (some ⟨b8, 0, none⟩) 3 3) ∧ w'.cell? ⟨V7, 5, none⟩ = some (.slice none 0 0) ∧ w'.cell? ⟨V7, 6, none⟩ = some (.int .i64 10) ∧ w'.cell? ⟨V7, 7, none⟩ = some (.int .i64 6) ∧ w'.cell? ⟨V7, 8, none⟩ = some (.int .i64 2)) ∧ (w'.cell? ⟨V7 + 1, 0, none⟩ = some (.int .i64 16) ∧ w'.cell? ⟨V7 + 1, 1, none⟩ = some (.slice (some ⟨d4, 0, none⟩) 3 3) ∧ w'.cell? ⟨V7 + 1, 2, none⟩ = some (.slice (some ⟨d7, 0, none⟩) 2 2) ∧ w'.cell? ⟨V7 + 1, 3, none⟩ = some (.int .i64 6) ∧ w'.cell? ⟨V7 + 1, 4, none⟩ = some (.slice (some ⟨d8, 0, none⟩) 3 3) ∧ w'.cell? ⟨V7 + 1, 5, none⟩ = some (.slice (some ⟨z, 0, none⟩) 1 1) ∧ w'.cell? ⟨V7 + 1, 6, none⟩ = some (.int .i64 10) ∧ w'.cell? ⟨V7 + 1, 7, none⟩ = some (.int .i64 6) ∧ w'.cell? ⟨V7 + 1, 8, none⟩ = some (.int .i64 2)) ∧ CgS w6 plC (.slice (some ⟨b4, 0, none⟩) 3 3) (.slice (some ⟨b7, 0, none⟩) 2 2) (.slice (some ⟨b8, 0, none⟩) 3 3) (.slice none 0 0) (.slice (some ⟨d4, 0, none⟩) 3 3) (.slice (some ⟨d7, 0, none⟩) 2 2) (.slice (some ⟨d8, 0, none⟩) 3 3) (.slice (some ⟨z, 0, none⟩) 1 1) V7 (V7 + 1) w')) (by kernel_rfl) ?_ (fun hHeld => ?_)
                  · try dsimp only
                    (go_split_ands; refine CgS.all (c := plC) ?_; (first | assumption | (exact CgS.drew (by assumption)) | (exact CgS.next (by assumption) (by assumption))))
                  refine wpAnyH_take (i := 0) (v := ?v0zoc) rfl (by kernel_rfl) (by kernel_rfl) (by kernel_rfl) (fun _ _ _ h => h) (Or.inl ⟨by rfl, ?hy0zoc⟩) (by assumption) ?rest0zoc
                  case hy0zoc => intro w hSw; (try dsimp only at hSw); first | (go_simp; done) | (go_simp; with_reducible rfl)
                  try simp only [Act.put, List.getElem_toArray, List.getElem_cons_succ, List.getElem_cons_zero, List.setIfInBounds_toArray, List.set_cons_zero, List.set_cons_succ]
                  refine wpAnyH_take (i := 1) (v := ?v1zoc) rfl (by kernel_rfl) (by kernel_rfl) (by kernel_rfl) (fun _ _ _ h => h) (Or.inl ⟨by rfl, ?hy1zoc⟩) (by assumption) ?rest1zoc
                  case hy1zoc => intro w hSw; (try dsimp only at hSw); first | (go_simp; done) | (go_simp; with_reducible rfl)
                  try simp only [Act.put, List.getElem_toArray, List.getElem_cons_succ, List.getElem_cons_zero, List.setIfInBounds_toArray, List.set_cons_zero, List.set_cons_succ]
                  refine wpAnyH_take (i := 2) (v := ?v2zoc) rfl (by kernel_rfl) (by kernel_rfl) (by kernel_rfl) (fun _ _ _ h => h) (Or.inl ⟨by rfl, ?hy2zoc⟩) (by assumption) ?rest2zoc
                  case hy2zoc => intro w hSw; (try dsimp only at hSw); first | (go_simp; done) | (go_simp; with_reducible rfl)
                  try simp only [Act.put, List.getElem_toArray, List.getElem_cons_succ, List.getElem_cons_zero, List.setIfInBounds_toArray, List.set_cons_zero, List.set_cons_succ]
                  refine wpAnyH_take (i := 3) (v := ?v3zoc) rfl (by kernel_rfl) (by kernel_rfl) (by kernel_rfl) (fun _ _ _ h => h) (Or.inl ⟨by rfl, ?hy3zoc⟩) (by assumption) ?rest3zoc
                  case hy3zoc => intro w hSw; (try dsimp only at hSw); first | (go_simp; done) | (go_simp; with_reducible rfl)
                  try simp only [Act.put, List.getElem_toArray, List.getElem_cons_succ, List.getElem_cons_zero, List.setIfInBounds_toArray, List.set_cons_zero, List.set_cons_succ]
                  refine wpAnyH_take (i := 5) (v := ?v5zoc) rfl (by kernel_rfl) (by kernel_rfl) (by kernel_rfl) (fun _ _ _ h => h) (Or.inl ⟨by rfl, ?hy5zoc⟩) (by assumption) ?rest5zoc
                  case hy5zoc => intro w hSw; (try dsimp only at hSw); first | (go_simp; done) | (go_simp; with_reducible rfl)
                  try simp only [Act.put, List.getElem_toArray, List.getElem_cons_succ, List.getElem_cons_zero, List.setIfInBounds_toArray, List.set_cons_zero, List.set_cons_succ]
                  refine wpAnyH_take (i := 6) (v := ?v6zoc) rfl (by kernel_rfl) (by kernel_rfl) (by kernel_rfl) (fun _ _ _ h => h) (Or.inl ⟨by rfl, ?hy6zoc⟩) (by assumption) ?rest6zoc
                  case hy6zoc => intro w hSw; (try dsimp only at hSw); first | (go_simp; done) | (go_simp; with_reducible rfl)
                  try simp only [Act.put, List.getElem_toArray, List.getElem_cons_succ, List.getElem_cons_zero, List.setIfInBounds_toArray, List.set_cons_zero, List.set_cons_succ]
                  refine wpAnyH_take (i := 7) (v := ?v7zoc) rfl (by kernel_rfl) (by kernel_rfl) (by kernel_rfl) (fun _ _ _ h => h) (Or.inl ⟨by rfl, ?hy7zoc⟩) (by assumption) ?rest7zoc
                  case hy7zoc => intro w hSw; (try dsimp only at hSw); first | (go_simp; done) | (go_simp; with_reducible rfl)
                  try simp only [Act.put, List.getElem_toArray, List.getElem_cons_succ, List.getElem_cons_zero, List.setIfInBounds_toArray, List.set_cons_zero, List.set_cons_succ]
                  refine wpAnyH_take (i := 8) (v := ?v8zoc) rfl (by kernel_rfl) (by kernel_rfl) (by kernel_rfl) (fun _ _ _ h => h) (Or.inl ⟨by rfl, ?hy8zoc⟩) (by assumption) ?rest8zoc
                  case hy8zoc => intro w hSw; (try dsimp only at hSw); first | (go_simp; done) | (go_simp; with_reducible rfl)
                  try simp only [Act.put, List.getElem_toArray, List.getElem_cons_succ, List.getElem_cons_zero, List.setIfInBounds_toArray, List.set_cons_zero, List.set_cons_succ]
                  refine wpAnyH_ready (rs := [4]) (by kernel_rfl) (by simp) ?_
                  refine AllReadyH.cons rfl (fun K hK => ?_) AllReadyH.nil
                  go_simp
                  refine (HRD.out _ hHeld.2.2.below (q : Int) ((g : Int) * 64)).mono ?_
                  rintro e wk ⟨rfl, hbk⟩
                  rw [ERD.out]
                  go_wp2_with fail
                  refine hK.out _ _ ?_ (fun hHeld2 => ?_)
                  · try dsimp only
                    (go_split_ands; refine CgS.all (c := plC) ?_; (first | assumption | (exact CgS.drew (by assumption)) | (exact CgS.next (by assumption) (by assumption))))
                  clear hK K hHeld
                  have hHeld := hHeld2; clear hHeld2
                  try simp only [Act.put, List.getElem_toArray, List.getElem_cons_succ, List.getElem_cons_zero, List.setIfInBounds_toArray, List.set_cons_zero, List.set_cons_succ]
                  refine wpAnyH_ready (rs := [9]) (by kernel_rfl) (by simp) ?_
                  refine AllReadyH.cons rfl (fun K hK => ?_) AllReadyH.nil
                  go_simp
                  refine (HRC.out _ hHeld.2.2.below (q : Int) ((g : Int) * 64)).mono ?_
                  rintro e wk ⟨rfl, hbk⟩
                  rw [ERC.out]
                  go_wp2_with fail
                  refine hK.out _ _ ?_ (fun hHeld2 => ?_)
                  · try dsimp only
                    (go_split_ands; refine CgS.all (c := plC) ?_; (first | assumption | (exact CgS.drew (by assumption)) | (exact CgS.next (by assumption) (by assumption))))
                  clear hK K hHeld
                  have hHeld := hHeld2; clear hHeld2
                  try simp only [Act.put, List.getElem_toArray, List.getElem_cons_succ, List.getElem_cons_zero, List.setIfInBounds_toArray, List.set_cons_zero, List.set_cons_succ]
                  refine wpAnyH_take (i := 10) (v := ?v10zoc) rfl (by kernel_rfl) (by kernel_rfl) (by kernel_rfl) (fun _ _ _ h => h) (Or.inl ⟨by rfl, ?hy10zoc⟩) (by assumption) ?rest10zoc
                  case hy10zoc => intro w hSw; (try dsimp only at hSw); first | (go_simp; done) | (go_simp; with_reducible rfl)
                  try simp only [Act.put, List.getElem_toArray, List.getElem_cons_succ, List.getElem_cons_zero, List.setIfInBounds_toArray, List.set_cons_zero, List.set_cons_succ]
                  refine wpAnyH_take (i := 11) (v := undef) rfl (by kernel_rfl) (by kernel_rfl) (by kernel_rfl) (fun _ _ _ h => h) (Or.inr ⟨by rfl, rfl⟩) (by assumption) ?rest11zoc
                  try simp only [Act.put, List.getElem_toArray, List.getElem_cons_succ, List.getElem_cons_zero, List.setIfInBounds_toArray, List.set_cons_zero, List.set_cons_succ]
                  refine wpAnyH_take (i := 12) (v := ?v12zoc) rfl (by kernel_rfl) (by kernel_rfl) (by kernel_rfl) (fun _ _ _ h => h) (Or.inl ⟨by rfl, ?hy12zoc⟩) (by assumption) ?rest12zoc
                  case hy12zoc => intro w hSw; (try dsimp only at hSw); first | (go_simp; done) | (go_simp; with_reducible rfl)
                  try simp only [Act.put, List.getElem_toArray, List.getElem_cons_succ, List.getElem_cons_zero, List.setIfInBounds_toArray, List.set_cons_zero, List.set_cons_succ]
                  refine wpAnyH_take (i := 13) (v := ?v13zoc) rfl (by kernel_rfl) (by kernel_rfl) (by kernel_rfl) (fun _ _ _ h => h) (Or.inl ⟨by rfl, ?hy13zoc⟩) (by assumption) ?rest13zoc
                  case hy13zoc => intro w hSw; (try dsimp only at hSw); first | (go_simp; done) | (go_simp; with_reducible rfl)
                  try simp only [Act.put, List.getElem_toArray, List.getElem_cons_succ, List.getElem_cons_zero, List.setIfInBounds_toArray, List.set_cons_zero, List.set_cons_succ]
                  refine wpAnyH_take (i := 14) (v := ?v14zoc) rfl (by kernel_rfl) (by kernel_rfl) (by kernel_rfl) (fun _ _ _ h => h) (Or.inl ⟨by rfl, ?hy14zoc⟩) (by assumption) ?rest14zoc
                  case hy14zoc => intro w hSw; (try dsimp only at hSw); first | (go_simp; done) | (go_simp; with_reducible rfl)
                  try simp only [Act.put, List.getElem_toArray, List.getElem_cons_succ, List.getElem_cons_zero, List.setIfInBounds_toArray, List.set_cons_zero, List.set_cons_succ]
                  refine wpAnyH_take (i := 15) (v := ?v15zoc) rfl (by kernel_rfl) (by kernel_rfl) (by kernel_rfl) (fun _ _ _ h => h) (Or.inl ⟨by rfl, ?hy15zoc⟩) (by assumption) ?rest15zoc
                  case hy15zoc => intro w hSw; (try dsimp only at hSw); first | (go_simp; done) | (go_simp; with_reducible rfl)
                  try simp only [Act.put, List.getElem_toArray, List.getElem_cons_succ, List.getElem_cons_zero, List.setIfInBounds_toArray, List.set_cons_zero, List.set_cons_succ]
                  refine wpAnyH_take (i := 16) (v := ?v16zoc) rfl (by kernel_rfl) (by kernel_rfl) (by kernel_rfl) (fun _ _ _ h => h) (Or.inl ⟨by rfl, ?hy16zoc⟩) (by assumption) ?rest16zoc
                  case hy16zoc => intro w hSw; (try dsimp only at hSw); first | (go_simp; done) | (go_simp; with_reducible rfl)
                  try simp only [Act.put, List.getElem_toArray, List.getElem_cons_succ, List.getElem_cons_zero, List.setIfInBounds_toArray, List.set_cons_zero, List.set_cons_succ]
                  refine wpAnyH_take (i := 17) (v := ?v17zoc) rfl (by kernel_rfl) (by kernel_rfl) (by kernel_rfl) (fun _ _ _ h => h) (Or.inl ⟨by rfl, ?hy17zoc⟩) (by assumption) ?rest17zoc
                  case hy17zoc => intro w hSw; (try dsimp only at hSw); first | (go_simp; done) | (go_simp; with_reducible rfl)
                  try simp only [Act.put, List.getElem_toArray, List.getElem_cons_succ, List.getElem_cons_zero, List.setIfInBounds_toArray, List.set_cons_zero, List.set_cons_succ]
                  refine wpAnyH_take (i := 18) (v := ?v18zoc) rfl (by kernel_rfl) (by kernel_rfl) (by kernel_rfl) (fun _ _ _ h => h) (Or.inl ⟨by rfl, ?hy18zoc⟩) (by assumption) ?rest18zoc
                  case hy18zoc => intro w hSw; (try dsimp only at hSw); first | (go_simp; done) | (go_simp; with_reducible rfl)
                  try simp only [Act.put, List.getElem_toArray, List.getElem_cons_succ, List.getElem_cons_zero, List.setIfInBounds_toArray, List.set_cons_zero, List.set_cons_succ]
                  refine wpAnyH_take (i := 20) (v := ?v20zoc) rfl (by kernel_rfl) (by kernel_rfl) (by kernel_rfl) (fun _ _ _ h => h) (Or.inl ⟨by rfl, ?hy20zoc⟩) (by assumption) ?rest20zoc
                  case hy20zoc => intro w hSw; (try dsimp only at hSw); first | (go_simp; done) | (go_simp; with_reducible rfl)
                  try simp only [Act.put, List.getElem_toArray, List.getElem_cons_succ, List.getElem_cons_zero, List.setIfInBounds_toArray, List.set_cons_zero, List.set_cons_succ]
                  refine wpAnyH_take (i := 21) (v := ?v21zoc) rfl (by kernel_rfl) (by kernel_rfl) (by kernel_rfl) (fun _ _ _ h => h) (Or.inl ⟨by rfl, ?hy21zoc⟩) (by assumption) ?rest21zoc
                  case hy21zoc => intro w hSw; (try dsimp only at hSw); first | (go_simp; done) | (go_simp; with_reducible rfl)
                  try simp only [Act.put, List.getElem_toArray, List.getElem_cons_succ, List.getElem_cons_zero, List.setIfInBounds_toArray, List.set_cons_zero, List.set_cons_succ]
                  refine wpAnyH_take (i := 22) (v := ?v22zoc) rfl (by kernel_rfl) (by kernel_rfl) (by kernel_rfl) (fun _ _ _ h => h) (Or.inl ⟨by rfl, ?hy22zoc⟩) (by assumption) ?rest22zoc
                  case hy22zoc => intro w hSw; (try dsimp only at hSw); first | (go_simp; done) | (go_simp; with_reducible rfl)
                  try simp only [Act.put, List.getElem_toArray, List.getElem_cons_succ, List.getElem_cons_zero, List.setIfInBounds_toArray, List.set_cons_zero, List.set_cons_succ]
                  refine wpAnyH_take (i := 23) (v := ?v23zoc) rfl (by kernel_rfl) (by kernel_rfl) (by kernel_rfl) (fun _ _ _ h => h) (Or.inl ⟨by rfl, ?hy23zoc⟩) (by assumption) ?rest23zoc
                  case hy23zoc => intro w hSw; (try dsimp only at hSw); first | (go_simp; done) | (go_simp; with_reducible rfl)
                  try simp only [Act.put, List.getElem_toArray, List.getElem_cons_succ, List.getElem_cons_zero, List.setIfInBounds_toArray, List.set_cons_zero, List.set_cons_succ]
                  refine wpAnyH_ready (rs := [19]) (by kernel_rfl) (by simp) ?_
                  refine AllReadyH.cons rfl (fun K hK => ?_) AllReadyH.nil
                  go_simp
                  refine (HWD.out _ hHeld.2.2.below (q : Int) ((g : Int) * 64)).mono ?_
                  rintro e wk ⟨rfl, hbk⟩
                  rw [EWD.out]
                  go_wp2_with fail
                  refine hK.out _ _ ?_ (fun hHeld2 => ?_)
                  · try dsimp only
                    (go_split_ands; refine CgS.all (c := plC) ?_; (first | assumption | (exact CgS.drew (by assumption)) | (exact CgS.next (by assumption) (by assumption))))
                  clear hK K hHeld
                  have hHeld := hHeld2; clear hHeld2
                  try simp only [Act.put, List.getElem_toArray, List.getElem_cons_succ, List.getElem_cons_zero, List.setIfInBounds_toArray, List.set_cons_zero, List.set_cons_succ]
                  refine wpAnyH_ready (rs := [24]) (by kernel_rfl) (by simp) ?_
                  refine AllReadyH.cons rfl (fun K hK => ?_) AllReadyH.nil
                  go_simp
                  refine (HWC.out _ hHeld.2.2.below (q : Int) ((g : Int) * 64)).mono ?_
                  rintro e wk ⟨rfl, hbk⟩
                  rw [EWC.out]
                  go_wp2_with fail
                  refine hK.out _ _ ?_ (fun hHeld2 => ?_)
                  · try dsimp only
                    (go_split_ands; refine CgS.all (c := plC) ?_; (first | assumption | (exact CgS.drew (by assumption)) | (exact CgS.next (by assumption) (by assumption))))
                  clear hK K hHeld
                  have hHeld := hHeld2; clear hHeld2
                  try simp only [Act.put, List.getElem_toArray, List.getElem_cons_succ, List.getElem_cons_zero, List.setIfInBounds_toArray, List.set_cons_zero, List.set_cons_succ]
                  refine wpAnyH_take (i := 25) (v := ?v25zoc) rfl (by kernel_rfl) (by kernel_rfl) (by kernel_rfl) (fun _ _ _ h => h) (Or.inl ⟨by rfl, ?hy25zoc⟩) (by assumption) ?rest25zoc
                  case hy25zoc => intro w hSw; (try dsimp only at hSw); first | (go_simp; done) | (go_simp; with_reducible rfl)
                  try simp only [Act.put, List.getElem_toArray, List.getElem_cons_succ, List.getElem_cons_zero, List.setIfInBounds_toArray, List.set_cons_zero, List.set_cons_succ]
                  refine wpAnyH_take (i := 26) (v := undef) rfl (by kernel_rfl) (by kernel_rfl) (by kernel_rfl) (fun _ _ _ h => h) (Or.inr ⟨by rfl, rfl⟩) (by assumption) ?rest26zoc
                  try simp only [Act.put, List.getElem_toArray, List.getElem_cons_succ, List.getElem_cons_zero, List.setIfInBounds_toArray, List.set_cons_zero, List.set_cons_succ]
                  refine wpAnyH_take (i := 27) (v := undef) rfl (by kernel_rfl) (by kernel_rfl) (by kernel_rfl) (fun _ _ _ h => h) (Or.inr ⟨by rfl, rfl⟩) (by assumption) ?rest27zoc
                  try simp only [Act.put, List.getElem_toArray, List.getElem_cons_succ, List.getElem_cons_zero, List.setIfInBounds_toArray, List.set_cons_zero, List.set_cons_succ]
                  refine wpAnyH_take (i := 28) (v := undef) rfl (by kernel_rfl) (by kernel_rfl) (by kernel_rfl) (fun _ _ _ h => h) (Or.inr ⟨by rfl, rfl⟩) (by assumption) ?rest28zoc
                  try simp only [Act.put, List.getElem_toArray, List.getElem_cons_succ, List.getElem_cons_zero, List.setIfInBounds_toArray, List.set_cons_zero, List.set_cons_succ]
                  refine wpAnyH_take (i := 29) (v := undef) rfl (by kernel_rfl) (by kernel_rfl) (by kernel_rfl) (fun _ _ _ h => h) (Or.inr ⟨by rfl, rfl⟩) (by assumption) ?rest29zoc
                  try simp only [Act.put, List.getElem_toArray, List.getElem_cons_succ, List.getElem_cons_zero, List.setIfInBounds_toArray, List.set_cons_zero, List.set_cons_succ]
                  refine wpAnyH_take (i := 30) (v := ?v30zoc) rfl (by kernel_rfl) (by kernel_rfl) (by kernel_rfl) (fun _ _ _ h => h) (Or.inl ⟨by rfl, ?hy30zoc⟩) (by assumption) ?rest30zoc
                  case hy30zoc => intro w hSw; (try dsimp only at hSw); first | (go_simp; done) | (go_simp; with_reducible rfl)
                  try simp only [Act.put, List.getElem_toArray, List.getElem_cons_succ, List.getElem_cons_zero, List.setIfInBounds_toArray, List.set_cons_zero, List.set_cons_succ]
                  refine wpAnyH_take (i := 31) (v := ?v31zoc) rfl (by kernel_rfl) (by kernel_rfl) (by kernel_rfl) (fun _ _ _ h => h) (Or.inl ⟨by rfl, ?hy31zoc⟩) (by assumption) ?rest31zoc
                  case hy31zoc => intro w hSw; (try dsimp only at hSw); first | (go_simp; done) | (go_simp; with_reducible rfl)
                  try simp only [Act.put, List.getElem_toArray, List.getElem_cons_succ, List.getElem_cons_zero, List.setIfInBounds_toArray, List.set_cons_zero, List.set_cons_succ]
                  refine wpAnyH_take (i := 32) (v := ?v32zoc) rfl (by kernel_rfl) (by kernel_rfl) (by kernel_rfl) (fun _ _ _ h => h) (Or.inl ⟨by rfl, ?hy32zoc⟩) (by assumption) ?rest32zoc
                  case hy32zoc => intro w hSw; (try dsimp only at hSw); first | (go_simp; done) | (go_simp; with_reducible rfl)
                  try simp only [Act.put, List.getElem_toArray, List.getElem_cons_succ, List.getElem_cons_zero, List.setIfInBounds_toArray, List.set_cons_zero, List.set_cons_succ]
                  refine wpAnyH_done (by kernel_rfl) ?_ _
                  all_goals
                    have hS6 := hHeld.2.2
                    have HS6 := Lib.hid hS6
                    clear hHeld hS6
                    go_wp2_with fail
                    go_roundw
                    case rel => exact ⟨q + 1, by omega, by go_num, HS6⟩
                    case measure => simp [intOf]; omega
              · by_cases hgf : g = f
                · by_cases hqp : q = p
                  · have hfp : ((f : Int) = (g : Int) ∧ (p : Int) = (q : Int)) := by omega
                    have ERD : Hid (alB (pgC f p wb) (q : Int) ((g : Int) * 64) 64 false = true) := Lib.hid (by rw [ED, decide_eq_false ho, decide_eq_true hfp]; simp)
                    have ERC : Hid (alB pgN (q : Int) ((g : Int) * 64) 64 false = false) := Lib.hid (by rw [EN, decide_eq_false ho])
                    have EWD : Hid (alB (pgC f p wb) (q : Int) ((g : Int) * 64) 64 true = wb) := Lib.hid (by rw [ED, decide_eq_false ho, decide_eq_true hfp]; simp)
                    have EWC : Hid (alB pgN (q : Int) ((g : Int) * 64) 64 true = false) := Lib.hid (by rw [EN, decide_eq_false ho])
                    clear ED EN ho
                    clear hfp
                    subst hgf
                    subst hqp
                    go_wp2_with fail
                    refine wp_region_held_drew (S := (fun w' => (w'.cell? ⟨V7, 0, none⟩ = some (.int .i64 16) ∧ w'.cell? ⟨V7, 1, none⟩ = some (.slice (some ⟨b4, 0, none⟩) 3 3) ∧ w'.cell? ⟨V7, 2, none⟩ = some (.slice (some ⟨b7, 0, none⟩) 2 2) ∧ w'.cell? ⟨V7, 3, none⟩ = some (.int .i64 6) ∧ w'.cell? ⟨V7, 4, none⟩ = some (.slice (some ⟨b8, 0, none⟩) 3 3) ∧ w'.cell? ⟨V7, 5, none⟩ = some (.slice none 0 0) ∧ w'.cell? ⟨V7, 6, none⟩ = some (.int .i64 10) ∧ w'.cell? ⟨V7, 7, none⟩ = some (.int .i64 6) ∧ w'.cell? ⟨V7, 8, none⟩ = some (.int .i64 2)) ∧ (w'.cell? ⟨V7 + 1, 0, none⟩ = some (.int .i64 16) ∧ w'.cell? ⟨V7 + 1, 1, none⟩ = some (.slice (some ⟨d4, 0, none⟩) 3 3) ∧ w'.cell? ⟨V7 + 1, 2, none⟩ = some (.slice (some ⟨d7, 0, none⟩) 2 2) ∧ w'.cell? ⟨V7 + 1, 3, none⟩ = some (.int .i64 6) ∧ w'.cell? ⟨V7 + 1, 4, none⟩ = some (.slice (some ⟨d8, 0, none⟩) 3 3) ∧ w'.cell? ⟨V7 + 1, 5, none⟩ = some (.slice (some ⟨z, 0, none⟩) 1 1) ∧ w'.cell? ⟨V7 + 1, 6, none⟩ = some (.int .i64 10) ∧ w'.cell? ⟨V7 + 1, 7, none⟩ = some (.int .i64 6) ∧ w'.cell? ⟨V7 + 1, 8, none⟩ = some (.int .i64 2)) ∧ CgS w6 plC (.slice (some ⟨b4, 0, none⟩) 3 3) (.slice (some ⟨b7, 0, none⟩) 2 2) (.slice (some ⟨b8, 0, none⟩) 3 3) (.slice none 0 0) (.slice (some ⟨d4, 0, none⟩) 3 3) (.slice (some ⟨d7, 0, none⟩) 2 2) (.slice (some ⟨d8, 0, none⟩) 3 3) (.slice (some ⟨z, 0, none⟩) 1 1) V7 (V7 + 1) w')) (by kernel_rfl) ?_ (fun hHeld => ?_)
                    · try dsimp only
                      (go_split_ands; refine CgS.all (c := plC) ?_; (first | assumption | (exact CgS.drew (by assumption)) | (exact CgS.next (by assumption) (by assumption))))
                    refine wpAnyH_take (i := 0) (v := ?v0zh) rfl (by kernel_rfl) (by kernel_rfl) (by kernel_rfl) (fun _ _ _ h => h) (Or.inl ⟨by rfl, ?hy0zh⟩) (by assumption) ?rest0zh
                    case hy0zh => intro w hSw; (try dsimp only at hSw); first | (go_simp; done) | (go_simp; with_reducible rfl)
                    try simp only [Act.put, List.getElem_toArray, List.getElem_cons_succ, List.getElem_cons_zero, List.setIfInBounds_toArray, List.set_cons_zero, List.set_cons_succ]
                    refine wpAnyH_take (i := 1) (v := ?v1zh) rfl (by kernel_rfl) (by kernel_rfl) (by kernel_rfl) (fun _ _ _ h => h) (Or.inl ⟨by rfl, ?hy1zh⟩) (by assumption) ?rest1zh
                    case hy1zh => intro w hSw; (try dsimp only at hSw); first | (go_simp; done) | (go_simp; with_reducible rfl)
                    try simp only [Act.put, List.getElem_toArray, List.getElem_cons_succ, List.getElem_cons_zero, List.setIfInBounds_toArray, List.set_cons_zero, List.set_cons_succ]
                    refine wpAnyH_take (i := 2) (v := ?v2zh) rfl (by kernel_rfl) (by kernel_rfl) (by kernel_rfl) (fun _ _ _ h => h) (Or.inl ⟨by rfl, ?hy2zh⟩) (by assumption) ?rest2zh
                    case hy2zh => intro w hSw; (try dsimp only at hSw); first | (go_simp; done) | (go_simp; with_reducible rfl)
                    try simp only [Act.put, List.getElem_toArray, List.getElem_cons_succ, List.getElem_cons_zero, List.setIfInBounds_toArray, List.set_cons_zero, List.set_cons_succ]
                    refine wpAnyH_take (i := 3) (v := ?v3zh) rfl (by kernel_rfl) (by kernel_rfl) (by kernel_rfl) (fun _ _ _ h => h) (Or.inl ⟨by rfl, ?hy3zh⟩) (by assumption) ?rest3zh
                    case hy3zh => intro w hSw; (try dsimp only at hSw); first | (go_simp; done) | (go_simp; with_reducible rfl)
                    try simp only [Act.put, List.getElem_toArray, List.getElem_cons_succ, List.getElem_cons_zero, List.setIfInBounds_toArray, List.set_cons_zero, List.set_cons_succ]
                    refine wpAnyH_take (i := 5) (v := ?v5zh) rfl (by kernel_rfl) (by kernel_rfl) (by kernel_rfl) (fun _ _ _ h => h) (Or.inl ⟨by rfl, ?hy5zh⟩) (by assumption) ?rest5zh
                    case hy5zh => intro w hSw; (try dsimp only at hSw); first | (go_simp; done) | (go_simp; with_reducible rfl)
                    try simp only [Act.put, List.getElem_toArray, List.getElem_cons_succ, List.getElem_cons_zero, List.setIfInBounds_toArray, List.set_cons_zero, List.set_cons_succ]
                    refine wpAnyH_take (i := 6) (v := ?v6zh) rfl (by kernel_rfl) (by kernel_rfl) (by kernel_rfl) (fun _ _ _ h => h) (Or.inl ⟨by rfl, ?hy6zh⟩) (by assumption) ?rest6zh
                    case hy6zh => intro w hSw; (try dsimp only at hSw); first | (go_simp; done) | (go_simp; with_reducible rfl)
                    try simp only [Act.put, List.getElem_toArray, List.getElem_cons_succ, List.getElem_cons_zero, List.setIfInBounds_toArray, List.set_cons_zero, List.set_cons_succ]
                    refine wpAnyH_take (i := 7) (v := ?v7zh) rfl (by kernel_rfl) (by kernel_rfl) (by kernel_rfl) (fun _ _ _ h => h) (Or.inl ⟨by rfl, ?hy7zh⟩) (by assumption) ?rest7zh
                    case hy7zh => intro w hSw; (try dsimp only at hSw); first | (go_simp; done) | (go_simp; with_reducible rfl)
                    try simp only [Act.put, List.getElem_toArray, List.getElem_cons_succ, List.getElem_cons_zero, List.setIfInBounds_toArray, List.set_cons_zero, List.set_cons_succ]
                    refine wpAnyH_take (i := 8) (v := ?v8zh) rfl (by kernel_rfl) (by kernel_rfl) (by kernel_rfl) (fun _ _ _ h => h) (Or.inl ⟨by rfl, ?hy8zh⟩) (by assumption) ?rest8zh
                    case hy8zh => intro w hSw; (try dsimp only at hSw); first | (go_simp; done) | (go_simp; with_reducible rfl)
                    try simp only [Act.put, List.getElem_toArray, List.getElem_cons_succ, List.getElem_cons_zero, List.setIfInBounds_toArray, List.set_cons_zero, List.set_cons_succ]
                    refine wpAnyH_ready (rs := [4]) (by kernel_rfl) (by simp) ?_
                    refine AllReadyH.cons rfl (fun K hK => ?_) AllReadyH.nil
                    go_simp
                    refine (HRD.out _ hHeld.2.2.below (q : Int) ((g : Int) * 64)).mono ?_
                    rintro e wk ⟨rfl, hbk⟩
                    rw [ERD.out]
                    go_wp2_with fail
                    refine hK.out _ _ ?_ (fun hHeld2 => ?_)
                    · try dsimp only
                      (go_split_ands; refine CgS.all (c := plC) ?_; (first | assumption | (exact CgS.drew (by assumption)) | (exact CgS.next (by assumption) (by assumption))))
                    clear hK K hHeld
                    have hHeld := hHeld2; clear hHeld2
                    try simp only [Act.put, List.getElem_toArray, List.getElem_cons_succ, List.getElem_cons_zero, List.setIfInBounds_toArray, List.set_cons_zero, List.set_cons_succ]
                    refine wpAnyH_ready (rs := [9]) (by kernel_rfl) (by simp) ?_
                    refine AllReadyH.cons rfl (fun K hK => ?_) AllReadyH.nil
                    go_simp
                    refine (HRC.out _ hHeld.2.2.below (q : Int) ((g : Int) * 64)).mono ?_
                    rintro e wk ⟨rfl, hbk⟩
                    rw [ERC.out]
                    go_wp2_with fail
                    refine hK.out _ _ ?_ (fun hHeld2 => ?_)
                    · try dsimp only
                      (go_split_ands; refine CgS.all (c := plC) ?_; (first | assumption | (exact CgS.drew (by assumption)) | (exact CgS.next (by assumption) (by assumption))))
                    clear hK K hHeld
                    have hHeld := hHeld2; clear hHeld2
                    try simp only [Act.put, List.getElem_toArray, List.getElem_cons_succ, List.getElem_cons_zero, List.setIfInBounds_toArray, List.set_cons_zero, List.set_cons_succ]
                    refine wpAnyH_take (i := 10) (v := ?v10zh) rfl (by kernel_rfl) (by kernel_rfl) (by kernel_rfl) (fun _ _ _ h => h) (Or.inl ⟨by rfl, ?hy10zh⟩) (by assumption) ?rest10zh
                    case hy10zh => intro w hSw; (try dsimp only at hSw); first | (go_simp; done) | (go_simp; with_reducible rfl)
                    try simp only [Act.put, List.getElem_toArray, List.getElem_cons_succ, List.getElem_cons_zero, List.setIfInBounds_toArray, List.set_cons_zero, List.set_cons_succ]
                    refine wpAnyH_take (i := 11) (v := ?v11zh) rfl (by kernel_rfl) (by kernel_rfl) (by kernel_rfl) (fun _ _ _ h => h) (Or.inl ⟨by rfl, ?hy11zh⟩) (by assumption) ?rest11zh
                    case hy11zh => intro w hSw; (try dsimp only at hSw); first | (go_simp; done) | (go_simp; with_reducible rfl)
                    try simp only [Act.put, List.getElem_toArray, List.getElem_cons_succ, List.getElem_cons_zero, List.setIfInBounds_toArray, List.set_cons_zero, List.set_cons_succ]
                    refine wpAnyH_take (i := 12) (v := ?v12zh) rfl (by kernel_rfl) (by kernel_rfl) (by kernel_rfl) (fun _ _ _ h => h) (Or.inl ⟨by rfl, ?hy12zh⟩) (by assumption) ?rest12zh
                    case hy12zh => intro w hSw; (try dsimp only at hSw); first | (go_simp; done) | (go_simp; with_reducible rfl)
                    try simp only [Act.put, List.getElem_toArray, List.getElem_cons_succ, List.getElem_cons_zero, List.setIfInBounds_toArray, List.set_cons_zero, List.set_cons_succ]
                    refine wpAnyH_take (i := 13) (v := ?v13zh) rfl (by kernel_rfl) (by kernel_rfl) (by kernel_rfl) (fun _ _ _ h => h) (Or.inl ⟨by rfl, ?hy13zh⟩) (by assumption) ?rest13zh
                    case hy13zh => intro w hSw; (try dsimp only at hSw); first | (go_simp; done) | (go_simp; with_reducible rfl)
                    try simp only [Act.put, List.getElem_toArray, List.getElem_cons_succ, List.getElem_cons_zero, List.setIfInBounds_toArray, List.set_cons_zero, List.set_cons_succ]
                    refine wpAnyH_take (i := 14) (v := ?v14zh) rfl (by kernel_rfl) (by kernel_rfl) (by kernel_rfl) (fun _ _ _ h => h) (Or.inl ⟨by rfl, ?hy14zh⟩) (by assumption) ?rest14zh
                    case hy14zh => intro w hSw; (try dsimp only at hSw); first | (go_simp; done) | (go_simp; with_reducible rfl)
                    try simp only [Act.put, List.getElem_toArray, List.getElem_cons_succ, List.getElem_cons_zero, List.setIfInBounds_toArray, List.set_cons_zero, List.set_cons_succ]
                    refine wpAnyH_take (i := 15) (v := ?v15zh) rfl (by kernel_rfl) (by kernel_rfl) (by kernel_rfl) (fun _ _ _ h => h) (Or.inl ⟨by rfl, ?hy15zh⟩) (by assumption) ?rest15zh
                    case hy15zh => intro w hSw; (try dsimp only at hSw); first | (go_simp; done) | (go_simp; with_reducible rfl)
                    try simp only [Act.put, List.getElem_toArray, List.getElem_cons_succ, List.getElem_cons_zero, List.setIfInBounds_toArray, List.set_cons_zero, List.set_cons_succ]
                    refine wpAnyH_take (i := 16) (v := ?v16zh) rfl (by kernel_rfl) (by kernel_rfl) (by kernel_rfl) (fun _ _ _ h => h) (Or.inl ⟨by rfl, ?hy16zh⟩) (by assumption) ?rest16zh
                    case hy16zh => intro w hSw; (try dsimp only at hSw); first | (go_simp; done) | (go_simp; with_reducible rfl)
                    try simp only [Act.put, List.getElem_toArray, List.getElem_cons_succ, List.getElem_cons_zero, List.setIfInBounds_toArray, List.set_cons_zero, List.set_cons_succ]
                    refine wpAnyH_take (i := 17) (v := ?v17zh) rfl (by kernel_rfl) (by kernel_rfl) (by kernel_rfl) (fun _ _ _ h => h) (Or.inl ⟨by rfl, ?hy17zh⟩) (by assumption) ?rest17zh
                    case hy17zh => intro w hSw; (try dsimp only at hSw); first | (go_simp; done) | (go_simp; with_reducible rfl)
                    try simp only [Act.put, List.getElem_toArray, List.getElem_cons_succ, List.getElem_cons_zero, List.setIfInBounds_toArray, List.set_cons_zero, List.set_cons_succ]
                    refine wpAnyH_take (i := 18) (v := ?v18zh) rfl (by kernel_rfl) (by kernel_rfl) (by kernel_rfl) (fun _ _ _ h => h) (Or.inl ⟨by rfl, ?hy18zh⟩) (by assumption) ?rest18zh
                    case hy18zh => intro w hSw; (try dsimp only at hSw); first | (go_simp; done) | (go_simp; with_reducible rfl)
                    try simp only [Act.put, List.getElem_toArray, List.getElem_cons_succ, List.getElem_cons_zero, List.setIfInBounds_toArray, List.set_cons_zero, List.set_cons_succ]
                    refine wpAnyH_take (i := 20) (v := ?v20zh) rfl (by kernel_rfl) (by kernel_rfl) (by kernel_rfl) (fun _ _ _ h => h) (Or.inl ⟨by rfl, ?hy20zh⟩) (by assumption) ?rest20zh
                    case hy20zh => intro w hSw; (try dsimp only at hSw); first | (go_simp; done) | (go_simp; with_reducible rfl)
                    try simp only [Act.put, List.getElem_toArray, List.getElem_cons_succ, List.getElem_cons_zero, List.setIfInBounds_toArray, List.set_cons_zero, List.set_cons_succ]
                    refine wpAnyH_take (i := 21) (v := ?v21zh) rfl (by kernel_rfl) (by kernel_rfl) (by kernel_rfl) (fun _ _ _ h => h) (Or.inl ⟨by rfl, ?hy21zh⟩) (by assumption) ?rest21zh
                    case hy21zh => intro w hSw; (try dsimp only at hSw); first | (go_simp; done) | (go_simp; with_reducible rfl)
                    try simp only [Act.put, List.getElem_toArray, List.getElem_cons_succ, List.getElem_cons_zero, List.setIfInBounds_toArray, List.set_cons_zero, List.set_cons_succ]
                    refine wpAnyH_take (i := 22) (v := ?v22zh) rfl (by kernel_rfl) (by kernel_rfl) (by kernel_rfl) (fun _ _ _ h => h) (Or.inl ⟨by rfl, ?hy22zh⟩) (by assumption) ?rest22zh
                    case hy22zh => intro w hSw; (try dsimp only at hSw); first | (go_simp; done) | (go_simp; with_reducible rfl)
                    try simp only [Act.put, List.getElem_toArray, List.getElem_cons_succ, List.getElem_cons_zero, List.setIfInBounds_toArray, List.set_cons_zero, List.set_cons_succ]
                    refine wpAnyH_take (i := 23) (v := ?v23zh) rfl (by kernel_rfl) (by kernel_rfl) (by kernel_rfl) (fun _ _ _ h => h) (Or.inl ⟨by rfl, ?hy23zh⟩) (by assumption) ?rest23zh
                    case hy23zh => intro w hSw; (try dsimp only at hSw); first | (go_simp; done) | (go_simp; with_reducible rfl)
                    try simp only [Act.put, List.getElem_toArray, List.getElem_cons_succ, List.getElem_cons_zero, List.setIfInBounds_toArray, List.set_cons_zero, List.set_cons_succ]
                    refine wpAnyH_ready (rs := [19]) (by kernel_rfl) (by simp) ?_
                    refine AllReadyH.cons rfl (fun K hK => ?_) AllReadyH.nil
                    go_simp
                    refine (HWD.out _ hHeld.2.2.below (q : Int) ((g : Int) * 64)).mono ?_
                    rintro e wk ⟨rfl, hbk⟩
                    rw [EWD.out]
                    go_wp2_with fail
                    refine hK.out _ _ ?_ (fun hHeld2 => ?_)
                    · try dsimp only
                      (go_split_ands; refine CgS.all (c := plC) ?_; (first | assumption | (exact CgS.drew (by assumption)) | (exact CgS.next (by assumption) (by assumption))))
                    clear hK K hHeld
                    have hHeld := hHeld2; clear hHeld2
                    try simp only [Act.put, List.getElem_toArray, List.getElem_cons_succ, List.getElem_cons_zero, List.setIfInBounds_toArray, List.set_cons_zero, List.set_cons_succ]
                    refine wpAnyH_ready (rs := [24]) (by kernel_rfl) (by simp) ?_
                    refine AllReadyH.cons rfl (fun K hK => ?_) AllReadyH.nil
                    go_simp
                    refine (HWC.out _ hHeld.2.2.below (q : Int) ((g : Int) * 64)).mono ?_
                    rintro e wk ⟨rfl, hbk⟩
                    rw [EWC.out]
                    go_wp2_with fail
                    refine hK.out _ _ ?_ (fun hHeld2 => ?_)
                    · try dsimp only
                      (go_split_ands; refine CgS.all (c := plC) ?_; (first | assumption | (exact CgS.drew (by assumption)) | (exact CgS.next (by assumption) (by assumption))))
                    clear hK K hHeld
                    have hHeld := hHeld2; clear hHeld2
                    try simp only [Act.put, List.getElem_toArray, List.getElem_cons_succ, List.getElem_cons_zero, List.setIfInBounds_toArray, List.set_cons_zero, List.set_cons_succ]
                    refine wpAnyH_take (i := 25) (v := ?v25zh) rfl (by kernel_rfl) (by kernel_rfl) (by kernel_rfl) (fun _ _ _ h => h) (Or.inl ⟨by rfl, ?hy25zh⟩) (by assumption) ?rest25zh
                    case hy25zh => intro w hSw; (try dsimp only at hSw); first | (go_simp; done) | (go_simp; with_reducible rfl)
                    try simp only [Act.put, List.getElem_toArray, List.getElem_cons_succ, List.getElem_cons_zero, List.setIfInBounds_toArray, List.set_cons_zero, List.set_cons_succ]
                    refine wpAnyH_take (i := 26) (v := ?v26zh) rfl (by kernel_rfl) (by kernel_rfl) (by kernel_rfl) (fun _ _ _ h => h) (Or.inl ⟨by rfl, ?hy26zh⟩) (by assumption) ?rest26zh
                    case hy26zh => intro w hSw; (try dsimp only at hSw); first | (go_simp; done) | (go_simp; with_reducible rfl)
                    try simp only [Act.put, List.getElem_toArray, List.getElem_cons_succ, List.getElem_cons_zero, List.setIfInBounds_toArray, List.set_cons_zero, List.set_cons_succ]
                    refine wpAnyH_take (i := 27) (v := ?v27zh) rfl (by kernel_rfl) (by kernel_rfl) (by kernel_rfl) (fun _ _ _ h => h) (Or.inl ⟨by rfl, ?hy27zh⟩) (by assumption) ?rest27zh
                    case hy27zh => intro w hSw; (try dsimp only at hSw); first | (go_simp; done) | (go_simp; with_reducible rfl)
                    try simp only [Act.put, List.getElem_toArray, List.getElem_cons_succ, List.getElem_cons_zero, List.setIfInBounds_toArray, List.set_cons_zero, List.set_cons_succ]
                    refine wpAnyH_take (i := 28) (v := ?v28zh) rfl (by kernel_rfl) (by kernel_rfl) (by kernel_rfl) (fun _ _ _ h => h) (Or.inl ⟨by rfl, ?hy28zh⟩) (by assumption) ?rest28zh
                    case hy28zh => intro w hSw; (try dsimp only at hSw); first | (go_simp; done) | (go_simp; with_reducible rfl)
                    try simp only [Act.put, List.getElem_toArray, List.getElem_cons_succ, List.getElem_cons_zero, List.setIfInBounds_toArray, List.set_cons_zero, List.set_cons_succ]
                    refine wpAnyH_take (i := 29) (v := ?v29zh) rfl (by kernel_rfl) (by kernel_rfl) (by kernel_rfl) (fun _ _ _ h => h) (Or.inl ⟨by rfl, ?hy29zh⟩) (by assumption) ?rest29zh
                    case hy29zh => intro w hSw; (try dsimp only at hSw); first | (go_simp; done) | (go_simp; with_reducible rfl)
                    try simp only [Act.put, List.getElem_toArray, List.getElem_cons_succ, List.getElem_cons_zero, List.setIfInBounds_toArray, List.set_cons_zero, List.set_cons_succ]
                    refine wpAnyH_take (i := 30) (v := ?v30zh) rfl (by kernel_rfl) (by kernel_rfl) (by kernel_rfl) (fun _ _ _ h => h) (Or.inl ⟨by rfl, ?hy30zh⟩) (by assumption) ?rest30zh
                    case hy30zh => intro w hSw; (try dsimp only at hSw); first | (go_simp; done) | (go_simp; with_reducible rfl)
                    try simp only [Act.put, List.getElem_toArray, List.getElem_cons_succ, List.getElem_cons_zero, List.setIfInBounds_toArray, List.set_cons_zero, List.set_cons_succ]
                    refine wpAnyH_take (i := 31) (v := ?v31zh) rfl (by kernel_rfl) (by kernel_rfl) (by kernel_rfl) (fun _ _ _ h => h) (Or.inl ⟨by rfl, ?hy31zh⟩) (by assumption) ?rest31zh
                    case hy31zh => intro w hSw; (try dsimp only at hSw); first | (go_simp; done) | (go_simp; with_reducible rfl)
                    try simp only [Act.put, List.getElem_toArray, List.getElem_cons_succ, List.getElem_cons_zero, List.setIfInBounds_toArray, List.set_cons_zero, List.set_cons_succ]
                    refine wpAnyH_take (i := 32) (v := ?v32zh) rfl (by kernel_rfl) (by kernel_rfl) (by kernel_rfl) (fun _ _ _ h => h) (Or.inl ⟨by rfl, ?hy32zh⟩) (by assumption) ?rest32zh
                    case hy32zh => intro w hSw; (try dsimp only at hSw); first | (go_simp; done) | (go_simp; with_reducible rfl)
                    try simp only [Act.put, List.getElem_toArray, List.getElem_cons_succ, List.getElem_cons_zero, List.setIfInBounds_toArray, List.set_cons_zero, List.set_cons_succ]
                    refine wpAnyH_done (by kernel_rfl) ?_ _
                    all_goals
                      have hS6 := hHeld.2.2
                      have HS6 := Lib.hid hS6
                      clear hHeld hS6
                      go_wp2_with fail
                      go_roundw
                      case rel => exact ⟨q + 1, by omega, by go_num, HS6⟩
                      case measure => simp [intOf]; omega
                  · have hn : (((q : Int) == (p : Int)) = false) := beq_eq_false_iff_ne.2 (by omega)
                    have hfp : ¬ ((f : Int) = (g : Int) ∧ (p : Int) = (q : Int)) := by omega
                    have ERD : Hid (alB (pgC f p wb) (q : Int) ((g : Int) * 64) 64 false = false) := Lib.hid (by rw [ED, decide_eq_false ho, decide_eq_false hfp]; rfl)
                    have ERC : Hid (alB pgN (q : Int) ((g : Int) * 64) 64 false = false) := Lib.hid (by rw [EN, decide_eq_false ho])
                    have EWD : Hid (alB (pgC f p wb) (q : Int) ((g : Int) * 64) 64 true = false) := Lib.hid (by rw [ED, decide_eq_false ho, decide_eq_false hfp]; rfl)
                    have EWC : Hid (alB pgN (q : Int) ((g : Int) * 64) 64 true = false) := Lib.hid (by rw [EN, decide_eq_false ho])
                    clear ED EN ho
                    clear hfp
                    subst hgf
                    go_wp2_with fail
                    refine wp_region_held_drew (S := (fun w' => (w'.cell? ⟨V7, 0, none⟩ = some (.int .i64 16) ∧ w'.cell? ⟨V7, 1, none⟩ = some (.slice (some ⟨b4, 0, none⟩) 3 3) ∧ w'.cell? ⟨V7, 2, none⟩ = some (.slice (some ⟨b7, 0, none⟩) 2 2) ∧ w'.cell? ⟨V7, 3, none⟩ = some (.int .i64 6) ∧ w'.cell? ⟨V7, 4, none⟩ = some (.slice (some ⟨b8, 0, none⟩) 3 3) ∧ w'.cell? ⟨V7, 5, none⟩ = some (.slice none 0 0) ∧ w'.cell? ⟨V7, 6, none⟩ = some (.int .i64 10) ∧ w'.cell? ⟨V7, 7, none⟩ = some (.int .i64 6) ∧ w'.cell? ⟨V7, 8, none⟩ = some (.int .i64 2)) ∧ (w'.cell? ⟨V7 + 1, 0, none⟩ = some (.int .i64 16) ∧ w'.cell? ⟨V7 + 1, 1, none⟩ = some (.slice (some ⟨d4, 0, none⟩) 3 3) ∧ w'.cell? ⟨V7 + 1, 2, none⟩ = some (.slice (some ⟨d7, 0, none⟩) 2 2) ∧ w'.cell? ⟨V7 + 1, 3, none⟩ = some (.int .i64 6) ∧ w'.cell? ⟨V7 + 1, 4, none⟩ = some (.slice (some ⟨d8, 0, none⟩) 3 3) ∧ w'.cell? ⟨V7 + 1, 5, none⟩ = some (.slice (some ⟨z, 0, none⟩) 1 1) ∧ w'.cell? ⟨V7 + 1, 6, none⟩ = some (.int .i64 10) ∧ w'.cell? ⟨V7 + 1, 7, none⟩ = some (.int .i64 6) ∧ w'.cell? ⟨V7 + 1, 8, none⟩ = some (.int .i64 2)) ∧ CgS w6 plC (.slice (some ⟨b4, 0, none⟩) 3 3) (.slice (some ⟨b7, 0, none⟩) 2 2) (.slice (some ⟨b8, 0, none⟩) 3 3) (.slice none 0 0) (.slice (some ⟨d4, 0, none⟩) 3 3) (.slice (some ⟨d7, 0, none⟩) 2 2) (.slice (some ⟨d8, 0, none⟩) 3 3) (.slice (some ⟨z, 0, none⟩) 1 1) V7 (V7 + 1) w')) (by kernel_rfl) ?_ (fun hHeld => ?_)
                    · try dsimp only
                      (go_split_ands; refine CgS.all (c := plC) ?_; (first | assumption | (exact CgS.drew (by assumption)) | (exact CgS.next (by assumption) (by assumption))))
                    refine wpAnyH_take (i := 0) (v := ?v0zn) rfl (by kernel_rfl) (by kernel_rfl) (by kernel_rfl) (fun _ _ _ h => h) (Or.inl ⟨by rfl, ?hy0zn⟩) (by assumption) ?rest0zn
                    case hy0zn => intro w hSw; (try dsimp only at hSw); first | (go_simp; done) | (go_simp; with_reducible rfl)
                    try simp only [Act.put, List.getElem_toArray, List.getElem_cons_succ, List.getElem_cons_zero, List.setIfInBounds_toArray, List.set_cons_zero, List.set_cons_succ]
                    refine wpAnyH_take (i := 1) (v := ?v1zn) rfl (by kernel_rfl) (by kernel_rfl) (by kernel_rfl) (fun _ _ _ h => h) (Or.inl ⟨by rfl, ?hy1zn⟩) (by assumption) ?rest1zn
                    case hy1zn => intro w hSw; (try dsimp only at hSw); first | (go_simp; done) | (go_simp; with_reducible rfl)
                    try simp only [Act.put, List.getElem_toArray, List.getElem_cons_succ, List.getElem_cons_zero, List.setIfInBounds_toArray, List.set_cons_zero, List.set_cons_succ]
                    refine wpAnyH_take (i := 2) (v := ?v2zn) rfl (by kernel_rfl) (by kernel_rfl) (by kernel_rfl) (fun _ _ _ h => h) (Or.inl ⟨by rfl, ?hy2zn⟩) (by assumption) ?rest2zn
                    case hy2zn => intro w hSw; (try dsimp only at hSw); first | (go_simp; done) | (go_simp; with_reducible rfl)
                    try simp only [Act.put, List.getElem_toArray, List.getElem_cons_succ, List.getElem_cons_zero, List.setIfInBounds_toArray, List.set_cons_zero, List.set_cons_succ]
                    refine wpAnyH_take (i := 3) (v := ?v3zn) rfl (by kernel_rfl) (by kernel_rfl) (by kernel_rfl) (fun _ _ _ h => h) (Or.inl ⟨by rfl, ?hy3zn⟩) (by assumption) ?rest3zn
                    case hy3zn => intro w hSw; (try dsimp only at hSw); first | (go_simp; done) | (go_simp; with_reducible rfl)
                    try simp only [Act.put, List.getElem_toArray, List.getElem_cons_succ, List.getElem_cons_zero, List.setIfInBounds_toArray, List.set_cons_zero, List.set_cons_succ]
                    refine wpAnyH_take (i := 5) (v := ?v5zn) rfl (by kernel_rfl) (by kernel_rfl) (by kernel_rfl) (fun _ _ _ h => h) (Or.inl ⟨by rfl, ?hy5zn⟩) (by assumption) ?rest5zn
                    case hy5zn => intro w hSw; (try dsimp only at hSw); first | (go_simp; done) | (go_simp; with_reducible rfl)
                    try simp only [Act.put, List.getElem_toArray, List.getElem_cons_succ, List.getElem_cons_zero, List.setIfInBounds_toArray, List.set_cons_zero, List.set_cons_succ]
                    refine wpAnyH_take (i := 6) (v := ?v6zn) rfl (by kernel_rfl) (by kernel_rfl) (by kernel_rfl) (fun _ _ _ h => h) (Or.inl ⟨by rfl, ?hy6zn⟩) (by assumption) ?rest6zn
                    case hy6zn => intro w hSw; (try dsimp only at hSw); first | (go_simp; done) | (go_simp; with_reducible rfl)
                    try simp only [Act.put, List.getElem_toArray, List.getElem_cons_succ, List.getElem_cons_zero, List.setIfInBounds_toArray, List.set_cons_zero, List.set_cons_succ]
                    refine wpAnyH_take (i := 7) (v := ?v7zn) rfl (by kernel_rfl) (by kernel_rfl) (by kernel_rfl) (fun _ _ _ h => h) (Or.inl ⟨by rfl, ?hy7zn⟩) (by assumption) ?rest7zn
                    case hy7zn => intro w hSw; (try dsimp only at hSw); first | (go_simp; done) | (go_simp; with_reducible rfl)
                    try simp only [Act.put, List.getElem_toArray, List.getElem_cons_succ, List.getElem_cons_zero, List.setIfInBounds_toArray, List.set_cons_zero, List.set_cons_succ]
                    refine wpAnyH_take (i := 8) (v := ?v8zn) rfl (by kernel_rfl) (by kernel_rfl) (by kernel_rfl) (fun _ _ _ h => h) (Or.inl ⟨by rfl, ?hy8zn⟩) (by assumption) ?rest8zn
                    case hy8zn => intro w hSw; (try dsimp only at hSw); first | (go_simp; done) | (go_simp; with_reducible rfl)
                    try simp only [Act.put, List.getElem_toArray, List.getElem_cons_succ, List.getElem_cons_zero, List.setIfInBounds_toArray, List.set_cons_zero, List.set_cons_succ]
                    refine wpAnyH_ready (rs := [4]) (by kernel_rfl) (by simp) ?_
                    refine AllReadyH.cons rfl (fun K hK => ?_) AllReadyH.nil
                    go_simp
                    refine (HRD.out _ hHeld.2.2.below (q : Int) ((g : Int) * 64)).mono ?_
                    rintro e wk ⟨rfl, hbk⟩
                    rw [ERD.out]
                    go_wp2_with fail
                    refine hK.out _ _ ?_ (fun hHeld2 => ?_)
                    · try dsimp only
                      (go_split_ands; refine CgS.all (c := plC) ?_; (first | assumption | (exact CgS.drew (by assumption)) | (exact CgS.next (by assumption) (by assumption))))
                    clear hK K hHeld
                    have hHeld := hHeld2; clear hHeld2
                    try simp only [Act.put, List.getElem_toArray, List.getElem_cons_succ, List.getElem_cons_zero, List.setIfInBounds_toArray, List.set_cons_zero, List.set_cons_succ]
                    refine wpAnyH_ready (rs := [9]) (by kernel_rfl) (by simp) ?_
                    refine AllReadyH.cons rfl (fun K hK => ?_) AllReadyH.nil
                    go_simp
                    refine (HRC.out _ hHeld.2.2.below (q : Int) ((g : Int) * 64)).mono ?_
                    rintro e wk ⟨rfl, hbk⟩
                    rw [ERC.out]
                    go_wp2_with fail
                    refine hK.out _ _ ?_ (fun hHeld2 => ?_)
                    · try dsimp only
                      (go_split_ands; refine CgS.all (c := plC) ?_; (first | assumption | (exact CgS.drew (by assumption)) | (exact CgS.next (by assumption) (by assumption))))
                    clear hK K hHeld
                    have hHeld := hHeld2; clear hHeld2
                    try simp only [Act.put, List.getElem_toArray, List.getElem_cons_succ, List.getElem_cons_zero, List.setIfInBounds_toArray, List.set_cons_zero, List.set_cons_succ]
                    refine wpAnyH_take (i := 10) (v := ?v10zn) rfl (by kernel_rfl) (by kernel_rfl) (by kernel_rfl) (fun _ _ _ h => h) (Or.inl ⟨by rfl, ?hy10zn⟩) (by assumption) ?rest10zn
                    case hy10zn => intro w hSw; (try dsimp only at hSw); first | (go_simp; done) | (go_simp; with_reducible rfl)
                    try simp only [Act.put, List.getElem_toArray, List.getElem_cons_succ, List.getElem_cons_zero, List.setIfInBounds_toArray, List.set_cons_zero, List.set_cons_succ]
                    refine wpAnyH_take (i := 11) (v := ?v11zn) rfl (by kernel_rfl) (by kernel_rfl) (by kernel_rfl) (fun _ _ _ h => h) (Or.inl ⟨by rfl, ?hy11zn⟩) (by assumption) ?rest11zn
                    case hy11zn => intro w hSw; (try dsimp only at hSw); first | (go_simp; done) | (go_simp; with_reducible rfl)
                    try simp only [Act.put, List.getElem_toArray, List.getElem_cons_succ, List.getElem_cons_zero, List.setIfInBounds_toArray, List.set_cons_zero, List.set_cons_succ]
                    refine wpAnyH_take (i := 12) (v := ?v12zn) rfl (by kernel_rfl) (by kernel_rfl) (by kernel_rfl) (fun _ _ _ h => h) (Or.inl ⟨by rfl, ?hy12zn⟩) (by assumption) ?rest12zn
                    case hy12zn => intro w hSw; (try dsimp only at hSw); first | (go_simp; done) | (go_simp; with_reducible rfl)
                    try simp only [Act.put, List.getElem_toArray, List.getElem_cons_succ, List.getElem_cons_zero, List.setIfInBounds_toArray, List.set_cons_zero, List.set_cons_succ]
                    refine wpAnyH_take (i := 13) (v := ?v13zn) rfl (by kernel_rfl) (by kernel_rfl) (by kernel_rfl) (fun _ _ _ h => h) (Or.inl ⟨by rfl, ?hy13zn⟩) (by assumption) ?rest13zn
                    case hy13zn => intro w hSw; (try dsimp only at hSw); first | (go_simp; done) | (go_simp; with_reducible rfl)
                    try simp only [Act.put, List.getElem_toArray, List.getElem_cons_succ, List.getElem_cons_zero, List.setIfInBounds_toArray, List.set_cons_zero, List.set_cons_succ]
                    refine wpAnyH_take (i := 14) (v := ?v14zn) rfl (by kernel_rfl) (by kernel_rfl) (by kernel_rfl) (fun _ _ _ h => h) (Or.inl ⟨by rfl, ?hy14zn⟩) (by assumption) ?rest14zn
                    case hy14zn => intro w hSw; (try dsimp only at hSw); first | (go_simp; done) | (go_simp; with_reducible rfl)
                    try simp only [Act.put, List.getElem_toArray, List.getElem_cons_succ, List.getElem_cons_zero, List.setIfInBounds_toArray, List.set_cons_zero, List.set_cons_succ]
                    refine wpAnyH_take (i := 15) (v := ?v15zn) rfl (by kernel_rfl) (by kernel_rfl) (by kernel_rfl) (fun _ _ _ h => h) (Or.inl ⟨by rfl, ?hy15zn⟩) (by assumption) ?rest15zn
                    case hy15zn => intro w hSw; (try dsimp only at hSw); first | (go_simp; done) | (go_simp; with_reducible rfl)
                    try simp only [Act.put, List.getElem_toArray, List.getElem_cons_succ, List.getElem_cons_zero, List.setIfInBounds_toArray, List.set_cons_zero, List.set_cons_succ]
                    refine wpAnyH_take (i := 16) (v := ?v16zn) rfl (by kernel_rfl) (by kernel_rfl) (by kernel_rfl) (fun _ _ _ h => h) (Or.inl ⟨by rfl, ?hy16zn⟩) (by assumption) ?rest16zn
                    case hy16zn => intro w hSw; (try dsimp only at hSw); first | (go_simp; done) | (go_simp; with_reducible rfl)
                    try simp only [Act.put, List.getElem_toArray, List.getElem_cons_succ, List.getElem_cons_zero, List.setIfInBounds_toArray, List.set_cons_zero, List.set_cons_succ]
                    refine wpAnyH_take (i := 17) (v := ?v17zn) rfl (by kernel_rfl) (by kernel_rfl) (by kernel_rfl) (fun _ _ _ h => h) (Or.inl ⟨by rfl, ?hy17zn⟩) (by assumption) ?rest17zn
                    case hy17zn => intro w hSw; (try dsimp only at hSw); first | (go_simp; done) | (go_simp; with_reducible rfl)
                    try simp only [Act.put, List.getElem_toArray, List.getElem_cons_succ, List.getElem_cons_zero, List.setIfInBounds_toArray, List.set_cons_zero, List.set_cons_succ]
                    refine wpAnyH_take (i := 18) (v := ?v18zn) rfl (by kernel_rfl) (by kernel_rfl) (by kernel_rfl) (fun _ _ _ h => h) (Or.inl ⟨by rfl, ?hy18zn⟩) (by assumption) ?rest18zn
                    case hy18zn => intro w hSw; (try dsimp only at hSw); first | (go_simp; done) | (go_simp; with_reducible rfl)
                    try simp only [Act.put, List.getElem_toArray, List.getElem_cons_succ, List.getElem_cons_zero, List.setIfInBounds_toArray, List.set_cons_zero, List.set_cons_succ]
                    refine wpAnyH_take (i := 20) (v := ?v20zn) rfl (by kernel_rfl) (by kernel_rfl) (by kernel_rfl) (fun _ _ _ h => h) (Or.inl ⟨by rfl, ?hy20zn⟩) (by assumption) ?rest20zn
                    case hy20zn => intro w hSw; (try dsimp only at hSw); first | (go_simp; done) | (go_simp; with_reducible rfl)
                    try simp only [Act.put, List.getElem_toArray, List.getElem_cons_succ, List.getElem_cons_zero, List.setIfInBounds_toArray, List.set_cons_zero, List.set_cons_succ]
                    refine wpAnyH_take (i := 21) (v := ?v21zn) rfl (by kernel_rfl) (by kernel_rfl) (by kernel_rfl) (fun _ _ _ h => h) (Or.inl ⟨by rfl, ?hy21zn⟩) (by assumption) ?rest21zn
                    case hy21zn => intro w hSw; (try dsimp only at hSw); first | (go_simp; done) | (go_simp; with_reducible rfl)
                    try simp only [Act.put, List.getElem_toArray, List.getElem_cons_succ, List.getElem_cons_zero, List.setIfInBounds_toArray, List.set_cons_zero, List.set_cons_succ]
                    refine wpAnyH_take (i := 22) (v := ?v22zn) rfl (by kernel_rfl) (by kernel_rfl) (by kernel_rfl) (fun _ _ _ h => h) (Or.inl ⟨by rfl, ?hy22zn⟩) (by assumption) ?rest22zn
                    case hy22zn => intro w hSw; (try dsimp only at hSw); first | (go_simp; done) | (go_simp; with_reducible rfl)
                    try simp only [Act.put, List.getElem_toArray, List.getElem_cons_succ, List.getElem_cons_zero, List.setIfInBounds_toArray, List.set_cons_zero, List.set_cons_succ]
                    refine wpAnyH_take (i := 23) (v := ?v23zn) rfl (by kernel_rfl) (by kernel_rfl) (by kernel_rfl) (fun _ _ _ h => h) (Or.inl ⟨by rfl, ?hy23zn⟩) (by assumption) ?rest23zn
                    case hy23zn => intro w hSw; (try dsimp only at hSw); first | (go_simp; done) | (go_simp; with_reducible rfl)
                    try simp only [Act.put, List.getElem_toArray, List.getElem_cons_succ, List.getElem_cons_zero, List.setIfInBounds_toArray, List.set_cons_zero, List.set_cons_succ]
                    refine wpAnyH_ready (rs := [19]) (by kernel_rfl) (by simp) ?_
                    refine AllReadyH.cons rfl (fun K hK => ?_) AllReadyH.nil
                    go_simp
                    refine (HWD.out _ hHeld.2.2.below (q : Int) ((g : Int) * 64)).mono ?_
                    rintro e wk ⟨rfl, hbk⟩
                    rw [EWD.out]
                    go_wp2_with fail
                    refine hK.out _ _ ?_ (fun hHeld2 => ?_)
                    · try dsimp only
                      (go_split_ands; refine CgS.all (c := plC) ?_; (first | assumption | (exact CgS.drew (by assumption)) | (exact CgS.next (by assumption) (by assumption))))
                    clear hK K hHeld
                    have hHeld := hHeld2; clear hHeld2
                    try simp only [Act.put, List.getElem_toArray, List.getElem_cons_succ, List.getElem_cons_zero, List.setIfInBounds_toArray, List.set_cons_zero, List.set_cons_succ]
                    refine wpAnyH_ready (rs := [24]) (by kernel_rfl) (by simp) ?_
                    refine AllReadyH.cons rfl (fun K hK => ?_) AllReadyH.nil
                    go_simp
                    refine (HWC.out _ hHeld.2.2.below (q : Int) ((g : Int) * 64)).mono ?_
                    rintro e wk ⟨rfl, hbk⟩
                    rw [EWC.out]
                    go_wp2_with fail
                    refine hK.out _ _ ?_ (fun hHeld2 => ?_)
                    · try dsimp only
                      (go_split_ands; refine CgS.all (c := plC) ?_; (first | assumption | (exact CgS.drew (by assumption)) | (exact CgS.next (by assumption) (by assumption))))
                    clear hK K hHeld
                    have hHeld := hHeld2; clear hHeld2
                    try simp only [Act.put, List.getElem_toArray, List.getElem_cons_succ, List.getElem_cons_zero, List.setIfInBounds_toArray, List.set_cons_zero, List.set_cons_succ]
                    refine wpAnyH_take (i := 25) (v := ?v25zn) rfl (by kernel_rfl) (by kernel_rfl) (by kernel_rfl) (fun _ _ _ h => h) (Or.inl ⟨by rfl, ?hy25zn⟩) (by assumption) ?rest25zn
                    case hy25zn => intro w hSw; (try dsimp only at hSw); first | (go_simp; done) | (go_simp; with_reducible rfl)
                    try simp only [Act.put, List.getElem_toArray, List.getElem_cons_succ, List.getElem_cons_zero, List.setIfInBounds_toArray, List.set_cons_zero, List.set_cons_succ]
                    refine wpAnyH_take (i := 26) (v := ?v26zn) rfl (by kernel_rfl) (by kernel_rfl) (by kernel_rfl) (fun _ _ _ h => h) (Or.inl ⟨by rfl, ?hy26zn⟩) (by assumption) ?rest26zn
                    case hy26zn => intro w hSw; (try dsimp only at hSw); first | (go_simp; done) | (go_simp; with_reducible rfl)
                    try simp only [Act.put, List.getElem_toArray, List.getElem_cons_succ, List.getElem_cons_zero, List.setIfInBounds_toArray, List.set_cons_zero, List.set_cons_succ]
                    refine wpAnyH_take (i := 27) (v := ?v27zn) rfl (by kernel_rfl) (by kernel_rfl) (by kernel_rfl) (fun _ _ _ h => h) (Or.inl ⟨by rfl, ?hy27zn⟩) (by assumption) ?rest27zn
                    case hy27zn => intro w hSw; (try dsimp only at hSw); first | (go_simp; done) | (go_simp; with_reducible rfl)
                    try simp only [Act.put, List.getElem_toArray, List.getElem_cons_succ, List.getElem_cons_zero, List.setIfInBounds_toArray, List.set_cons_zero, List.set_cons_succ]
                    refine wpAnyH_take (i := 28) (v := undef) rfl (by kernel_rfl) (by kernel_rfl) (by kernel_rfl) (fun _ _ _ h => h) (Or.inr ⟨by rfl, rfl⟩) (by assumption) ?rest28zn
                    try simp only [Act.put, List.getElem_toArray, List.getElem_cons_succ, List.getElem_cons_zero, List.setIfInBounds_toArray, List.set_cons_zero, List.set_cons_succ]
                    refine wpAnyH_take (i := 29) (v := ?v29zn) rfl (by kernel_rfl) (by kernel_rfl) (by kernel_rfl) (fun _ _ _ h => h) (Or.inl ⟨by rfl, ?hy29zn⟩) (by assumption) ?rest29zn
                    case hy29zn => intro w hSw; (try dsimp only at hSw); first | (go_simp; done) | (go_simp; with_reducible rfl)
                    try simp only [Act.put, List.getElem_toArray, List.getElem_cons_succ, List.getElem_cons_zero, List.setIfInBounds_toArray, List.set_cons_zero, List.set_cons_succ]
                    refine wpAnyH_take (i := 30) (v := ?v30zn) rfl (by kernel_rfl) (by kernel_rfl) (by kernel_rfl) (fun _ _ _ h => h) (Or.inl ⟨by rfl, ?hy30zn⟩) (by assumption) ?rest30zn
                    case hy30zn => intro w hSw; (try dsimp only at hSw); first | (go_simp; done) | (go_simp; with_reducible rfl)
                    try simp only [Act.put, List.getElem_toArray, List.getElem_cons_succ, List.getElem_cons_zero, List.setIfInBounds_toArray, List.set_cons_zero, List.set_cons_succ]
                    refine wpAnyH_take (i := 31) (v := ?v31zn) rfl (by kernel_rfl) (by kernel_rfl) (by kernel_rfl) (fun _ _ _ h => h) (Or.inl ⟨by rfl, ?hy31zn⟩) (by assumption) ?rest31zn
                    case hy31zn => intro w hSw; (try dsimp only at hSw); first | (go_simp; done) | (go_simp; with_reducible rfl)
                    try simp only [Act.put, List.getElem_toArray, List.getElem_cons_succ, List.getElem_cons_zero, List.setIfInBounds_toArray, List.set_cons_zero, List.set_cons_succ]
                    refine wpAnyH_take (i := 32) (v := ?v32zn) rfl (by kernel_rfl) (by kernel_rfl) (by kernel_rfl) (fun _ _ _ h => h) (Or.inl ⟨by rfl, ?hy32zn⟩) (by assumption) ?rest32zn
                    case hy32zn => intro w hSw; (try dsimp only at hSw); first | (go_simp; done) | (go_simp; with_reducible rfl)
                    try simp only [Act.put, List.getElem_toArray, List.getElem_cons_succ, List.getElem_cons_zero, List.setIfInBounds_toArray, List.set_cons_zero, List.set_cons_succ]
                    refine wpAnyH_done (by kernel_rfl) ?_ _
                    all_goals
                      have hS6 := hHeld.2.2
                      have HS6 := Lib.hid hS6
                      clear hHeld hS6
                      go_wp2_with fail
                      go_roundw
                      case rel => exact ⟨q + 1, by omega, by go_num, HS6⟩
                      case measure => simp [intOf]; omega
                · have hn : (((g : Int) == (f : Int)) = false) := beq_eq_false_iff_ne.2 (by omega)
                  have hfp : ¬ ((f : Int) = (g : Int) ∧ (p : Int) = (q : Int)) := by omega
                  have ERD : Hid (alB (pgC f p wb) (q : Int) ((g : Int) * 64) 64 false = false) := Lib.hid (by rw [ED, decide_eq_false ho, decide_eq_false hfp]; rfl)
                  have ERC : Hid (alB pgN (q : Int) ((g : Int) * 64) 64 false = false) := Lib.hid (by rw [EN, decide_eq_false ho])
                  have EWD : Hid (alB (pgC f p wb) (q : Int) ((g : Int) * 64) 64 true = false) := Lib.hid (by rw [ED, decide_eq_false ho, decide_eq_false hfp]; rfl)
                  have EWC : Hid (alB pgN (q : Int) ((g : Int) * 64) 64 true = false) := Lib.hid (by rw [EN, decide_eq_false ho])
                  clear ED EN ho
                  clear hfp
                  go_wp2_with fail
                  refine wp_region_held_drew (S := (fun w' => (w'.cell? ⟨V7, 0, none⟩ = some (.int .i64 16) ∧ w'.cell? ⟨V7, 1, none⟩ = some (.slice (some ⟨b4, 0, none⟩) 3 3) ∧ w'.cell? ⟨V7, 2, none⟩ = some (.slice (some ⟨b7, 0, none⟩) 2 2) ∧ w'.cell? ⟨V7, 3, none⟩ = some (.int .i64 6) ∧ w'.cell? ⟨V7, 4, none⟩ = some (.slice (some ⟨b8, 0, none⟩) 3 3) ∧ w'.cell? ⟨V7, 5, none⟩ = some (.slice none 0 0) ∧ w'.cell? ⟨V7, 6, none⟩ = some (.int .i64 10) ∧ w'.cell? ⟨V7, 7, none⟩ = some (.int .i64 6) ∧ w'.cell? ⟨V7, 8, none⟩ = some (.int .i64 2)) ∧ (w'.cell? ⟨V7 + 1, 0, none⟩ = some (.int .i64 16) ∧ w'.cell? ⟨V7 + 1, 1, none⟩ = some (.slice (some ⟨d4, 0, none⟩) 3 3) ∧ w'.cell? ⟨V7 + 1, 2, none⟩ = some (.slice (some ⟨d7, 0, none⟩) 2 2) ∧ w'.cell? ⟨V7 + 1, 3, none⟩ = some (.int .i64 6) ∧ w'.cell? ⟨V7 + 1, 4, none⟩ = some (.slice (some ⟨d8, 0, none⟩) 3 3) ∧ w'.cell? ⟨V7 + 1, 5, none⟩ = some (.slice (some ⟨z, 0, none⟩) 1 1) ∧ w'.cell? ⟨V7 + 1, 6, none⟩ = some (.int .i64 10) ∧ w'.cell? ⟨V7 + 1, 7, none⟩ = some (.int .i64 6) ∧ w'.cell? ⟨V7 + 1, 8, none⟩ = some (.int .i64 2)) ∧ CgS w6 plC (.slice (some ⟨b4, 0, none⟩) 3 3) (.slice (some ⟨b7, 0, none⟩) 2 2) (.slice (some ⟨b8, 0, none⟩) 3 3) (.slice none 0 0) (.slice (some ⟨d4, 0, none⟩) 3 3) (.slice (some ⟨d7, 0, none⟩) 2 2) (.slice (some ⟨d8, 0, none⟩) 3 3) (.slice (some ⟨z, 0, none⟩) 1 1) V7 (V7 + 1) w')) (by kernel_rfl) ?_ (fun hHeld => ?_)
                  · try dsimp only
                    (go_split_ands; refine CgS.all (c := plC) ?_; (first | assumption | (exact CgS.drew (by assumption)) | (exact CgS.next (by assumption) (by assumption))))
                  refine wpAnyH_take (i := 0) (v := ?v0zm) rfl (by kernel_rfl) (by kernel_rfl) (by kernel_rfl) (fun _ _ _ h => h) (Or.inl ⟨by rfl, ?hy0zm⟩) (by assumption) ?rest0zm
                  case hy0zm => intro w hSw; (try dsimp only at hSw); first | (go_simp; done) | (go_simp; with_reducible rfl)
                  try simp only [Act.put, List.getElem_toArray, List.getElem_cons_succ, List.getElem_cons_zero, List.setIfInBounds_toArray, List.set_cons_zero, List.set_cons_succ]
                  refine wpAnyH_take (i := 1) (v := ?v1zm) rfl (by kernel_rfl) (by kernel_rfl) (by kernel_rfl) (fun _ _ _ h => h) (Or.inl ⟨by rfl, ?hy1zm⟩) (by assumption) ?rest1zm
                  case hy1zm => intro w hSw; (try dsimp only at hSw); first | (go_simp; done) | (go_simp; with_reducible rfl)
                  try simp only [Act.put, List.getElem_toArray, List.getElem_cons_succ, List.getElem_cons_zero, List.setIfInBounds_toArray, List.set_cons_zero, List.set_cons_succ]
                  refine wpAnyH_take (i := 2) (v := ?v2zm) rfl (by kernel_rfl) (by kernel_rfl) (by kernel_rfl) (fun _ _ _ h => h) (Or.inl ⟨by rfl, ?hy2zm⟩) (by assumption) ?rest2zm
                  case hy2zm => intro w hSw; (try dsimp only at hSw); first | (go_simp; done) | (go_simp; with_reducible rfl)
                  try simp only [Act.put, List.getElem_toArray, List.getElem_cons_succ, List.getElem_cons_zero, List.setIfInBounds_toArray, List.set_cons_zero, List.set_cons_succ]
                  refine wpAnyH_take (i := 3) (v := ?v3zm) rfl (by kernel_rfl) (by kernel_rfl) (by kernel_rfl) (fun _ _ _ h => h) (Or.inl ⟨by rfl, ?hy3zm⟩) (by assumption) ?rest3zm
                  case hy3zm => intro w hSw; (try dsimp only at hSw); first | (go_simp; done) | (go_simp; with_reducible rfl)
                  try simp only [Act.put, List.getElem_toArray, List.getElem_cons_succ, List.getElem_cons_zero, List.setIfInBounds_toArray, List.set_cons_zero, List.set_cons_succ]
                  refine wpAnyH_take (i := 5) (v := ?v5zm) rfl (by kernel_rfl) (by kernel_rfl) (by kernel_rfl) (fun _ _ _ h => h) (Or.inl ⟨by rfl, ?hy5zm⟩) (by assumption) ?rest5zm
                  case hy5zm => intro w hSw; (try dsimp only at hSw); first | (go_simp; done) | (go_simp; with_reducible rfl)
                  try simp only [Act.put, List.getElem_toArray, List.getElem_cons_succ, List.getElem_cons_zero, List.setIfInBounds_toArray, List.set_cons_zero, List.set_cons_succ]
                  refine wpAnyH_take (i := 6) (v := ?v6zm) rfl (by kernel_rfl) (by kernel_rfl) (by kernel_rfl) (fun _ _ _ h => h) (Or.inl ⟨by rfl, ?hy6zm⟩) (by assumption) ?rest6zm
                  case hy6zm => intro w hSw; (try dsimp only at hSw); first | (go_simp; done) | (go_simp; with_reducible rfl)
                  try simp only [Act.put, List.getElem_toArray, List.getElem_cons_succ, List.getElem_cons_zero, List.setIfInBounds_toArray, List.set_cons_zero, List.set_cons_succ]
                  refine wpAnyH_take (i := 7) (v := ?v7zm) rfl (by kernel_rfl) (by kernel_rfl) (by kernel_rfl) (fun _ _ _ h => h) (Or.inl ⟨by rfl, ?hy7zm⟩) (by assumption) ?rest7zm
                  case hy7zm => intro w hSw; (try dsimp only at hSw); first | (go_simp; done) | (go_simp; with_reducible rfl)
                  try simp only [Act.put, List.getElem_toArray, List.getElem_cons_succ, List.getElem_cons_zero, List.setIfInBounds_toArray, List.set_cons_zero, List.set_cons_succ]
                  refine wpAnyH_take (i := 8) (v := ?v8zm) rfl (by kernel_rfl) (by kernel_rfl) (by kernel_rfl) (fun _ _ _ h => h) (Or.inl ⟨by rfl, ?hy8zm⟩) (by assumption) ?rest8zm
                  case hy8zm => intro w hSw; (try dsimp only at hSw); first | (go_simp; done) | (go_simp; with_reducible rfl)
                  try simp only [Act.put, List.getElem_toArray, List.getElem_cons_succ, List.getElem_cons_zero, List.setIfInBounds_toArray, List.set_cons_zero, List.set_cons_succ]
                  refine wpAnyH_ready (rs := [4]) (by kernel_rfl) (by simp) ?_
                  refine AllReadyH.cons rfl (fun K hK => ?_) AllReadyH.nil
                  go_simp
                  refine (HRD.out _ hHeld.2.2.below (q : Int) ((g : Int) * 64)).mono ?_
                  rintro e wk ⟨rfl, hbk⟩
                  rw [ERD.out]
                  go_wp2_with fail
                  refine hK.out _ _ ?_ (fun hHeld2 => ?_)
                  · try dsimp only
                    (go_split_ands; refine CgS.all (c := plC) ?_; (first | assumption | (exact CgS.drew (by assumption)) | (exact CgS.next (by assumption) (by assumption))))
                  clear hK K hHeld
                  have hHeld := hHeld2; clear hHeld2
                  try simp only [Act.put, List.getElem_toArray, List.getElem_cons_succ, List.getElem_cons_zero, List.setIfInBounds_toArray, List.set_cons_zero, List.set_cons_succ]
                  refine wpAnyH_ready (rs := [9]) (by kernel_rfl) (by simp) ?_
                  refine AllReadyH.cons rfl (fun K hK => ?_) AllReadyH.nil
                  go_simp
                  refine (HRC.out _ hHeld.2.2.below (q : Int) ((g : Int) * 64)).mono ?_
                  rintro e wk ⟨rfl, hbk⟩
                  rw [ERC.out]
                  go_wp2_with fail
                  refine hK.out _ _ ?_ (fun hHeld2 => ?_)
                  · try dsimp only
                    (go_split_ands; refine CgS.all (c := plC) ?_; (first | assumption | (exact CgS.drew (by assumption)) | (exact CgS.next (by assumption) (by assumption))))
                  clear hK K hHeld
                  have hHeld := hHeld2; clear hHeld2
                  try simp only [Act.put, List.getElem_toArray, List.getElem_cons_succ, List.getElem_cons_zero, List.setIfInBounds_toArray, List.set_cons_zero, List.set_cons_succ]
                  refine wpAnyH_take (i := 10) (v := ?v10zm) rfl (by kernel_rfl) (by kernel_rfl) (by kernel_rfl) (fun _ _ _ h => h) (Or.inl ⟨by rfl, ?hy10zm⟩) (by assumption) ?rest10zm
                  case hy10zm => intro w hSw; (try dsimp only at hSw); first | (go_simp; done) | (go_simp; with_reducible rfl)
                  try simp only [Act.put, List.getElem_toArray, List.getElem_cons_succ, List.getElem_cons_zero, List.setIfInBounds_toArray, List.set_cons_zero, List.set_cons_succ]
                  refine wpAnyH_take (i := 11) (v := ?v11zm) rfl (by kernel_rfl) (by kernel_rfl) (by kernel_rfl) (fun _ _ _ h => h) (Or.inl ⟨by rfl, ?hy11zm⟩) (by assumption) ?rest11zm
                  case hy11zm => intro w hSw; (try dsimp only at hSw); first | (go_simp; done) | (go_simp; with_reducible rfl)
                  try simp only [Act.put, List.getElem_toArray, List.getElem_cons_succ, List.getElem_cons_zero, List.setIfInBounds_toArray, List.set_cons_zero, List.set_cons_succ]
                  refine wpAnyH_take (i := 12) (v := ?v12zm) rfl (by kernel_rfl) (by kernel_rfl) (by kernel_rfl) (fun _ _ _ h => h) (Or.inl ⟨by rfl, ?hy12zm⟩) (by assumption) ?rest12zm
                  case hy12zm => intro w hSw; (try dsimp only at hSw); first | (go_simp; done) | (go_simp; with_reducible rfl)
                  try simp only [Act.put, List.getElem_toArray, List.getElem_cons_succ, List.getElem_cons_zero, List.setIfInBounds_toArray, List.set_cons_zero, List.set_cons_succ]
                  refine wpAnyH_take (i := 13) (v := ?v13zm) rfl (by kernel_rfl) (by kernel_rfl) (by kernel_rfl) (fun _ _ _ h => h) (Or.inl ⟨by rfl, ?hy13zm⟩) (by assumption) ?rest13zm
                  case hy13zm => intro w hSw; (try dsimp only at hSw); first | (go_simp; done) | (go_simp; with_reducible rfl)
                  try simp only [Act.put, List.getElem_toArray, List.getElem_cons_succ, List.getElem_cons_zero, List.setIfInBounds_toArray, List.set_cons_zero, List.set_cons_succ]
                  refine wpAnyH_take (i := 14) (v := ?v14zm) rfl (by kernel_rfl) (by kernel_rfl) (by kernel_rfl) (fun _ _ _ h => h) (Or.inl ⟨by rfl, ?hy14zm⟩) (by assumption) ?rest14zm
                  case hy14zm => intro w hSw; (try dsimp only at hSw); first | (go_simp; done) | (go_simp; with_reducible rfl)
                  try simp only [Act.put, List.getElem_toArray, List.getElem_cons_succ, List.getElem_cons_zero, List.setIfInBounds_toArray, List.set_cons_zero, List.set_cons_succ]
                  refine wpAnyH_take (i := 15) (v := ?v15zm) rfl (by kernel_rfl) (by kernel_rfl) (by kernel_rfl) (fun _ _ _ h => h) (Or.inl ⟨by rfl, ?hy15zm⟩) (by assumption) ?rest15zm
                  case hy15zm => intro w hSw; (try dsimp only at hSw); first | (go_simp; done) | (go_simp; with_reducible rfl)
                  try simp only [Act.put, List.getElem_toArray, List.getElem_cons_succ, List.getElem_cons_zero, List.setIfInBounds_toArray, List.set_cons_zero, List.set_cons_succ]
                  refine wpAnyH_take (i := 16) (v := ?v16zm) rfl (by kernel_rfl) (by kernel_rfl) (by kernel_rfl) (fun _ _ _ h => h) (Or.inl ⟨by rfl, ?hy16zm⟩) (by assumption) ?rest16zm
                  case hy16zm => intro w hSw; (try dsimp only at hSw); first | (go_simp; done) | (go_simp; with_reducible rfl)
                  try simp only [Act.put, List.getElem_toArray, List.getElem_cons_succ, List.getElem_cons_zero, List.setIfInBounds_toArray, List.set_cons_zero, List.set_cons_succ]
                  refine wpAnyH_take (i := 17) (v := ?v17zm) rfl (by kernel_rfl) (by kernel_rfl) (by kernel_rfl) (fun _ _ _ h => h) (Or.inl ⟨by rfl, ?hy17zm⟩) (by assumption) ?rest17zm
                  case hy17zm => intro w hSw; (try dsimp only at hSw); first | (go_simp; done) | (go_simp; with_reducible rfl)
                  try simp only [Act.put, List.getElem_toArray, List.getElem_cons_succ, List.getElem_cons_zero, List.setIfInBounds_toArray, List.set_cons_zero, List.set_cons_succ]
                  refine wpAnyH_take (i := 18) (v := ?v18zm) rfl (by kernel_rfl) (by kernel_rfl) (by kernel_rfl) (fun _ _ _ h => h) (Or.inl ⟨by rfl, ?hy18zm⟩) (by assumption) ?rest18zm
                  case hy18zm => intro w hSw; (try dsimp only at hSw); first | (go_simp; done) | (go_simp; with_reducible rfl)
                  try simp only [Act.put, List.getElem_toArray, List.getElem_cons_succ, List.getElem_cons_zero, List.setIfInBounds_toArray, List.set_cons_zero, List.set_cons_succ]
                  refine wpAnyH_take (i := 20) (v := ?v20zm) rfl (by kernel_rfl) (by kernel_rfl) (by kernel_rfl) (fun _ _ _ h => h) (Or.inl ⟨by rfl, ?hy20zm⟩) (by assumption) ?rest20zm
                  case hy20zm => intro w hSw; (try dsimp only at hSw); first | (go_simp; done) | (go_simp; with_reducible rfl)
                  try simp only [Act.put, List.getElem_toArray, List.getElem_cons_succ, List.getElem_cons_zero, List.setIfInBounds_toArray, List.set_cons_zero, List.set_cons_succ]
                  refine wpAnyH_take (i := 21) (v := ?v21zm) rfl (by kernel_rfl) (by kernel_rfl) (by kernel_rfl) (fun _ _ _ h => h) (Or.inl ⟨by rfl, ?hy21zm⟩) (by assumption) ?rest21zm
                  case hy21zm => intro w hSw; (try dsimp only at hSw); first | (go_simp; done) | (go_simp; with_reducible rfl)
                  try simp only [Act.put, List.getElem_toArray, List.getElem_cons_succ, List.getElem_cons_zero, List.setIfInBounds_toArray, List.set_cons_zero, List.set_cons_succ]
                  refine wpAnyH_take (i := 22) (v := ?v22zm) rfl (by kernel_rfl) (by kernel_rfl) (by kernel_rfl) (fun _ _ _ h => h) (Or.inl ⟨by rfl, ?hy22zm⟩) (by assumption) ?rest22zm
                  case hy22zm => intro w hSw; (try dsimp only at hSw); first | (go_simp; done) | (go_simp; with_reducible rfl)
                  try simp only [Act.put, List.getElem_toArray, List.getElem_cons_succ, List.getElem_cons_zero, List.setIfInBounds_toArray, List.set_cons_zero, List.set_cons_succ]
                  refine wpAnyH_take (i := 23) (v := ?v23zm) rfl (by kernel_rfl) (by kernel_rfl) (by kernel_rfl) (fun _ _ _ h => h) (Or.inl ⟨by rfl, ?hy23zm⟩) (by assumption) ?rest23zm
                  case hy23zm => intro w hSw; (try dsimp only at hSw); first | (go_simp; done) | (go_simp; with_reducible rfl)
                  try simp only [Act.put, List.getElem_toArray, List.getElem_cons_succ, List.getElem_cons_zero, List.setIfInBounds_toArray, List.set_cons_zero, List.set_cons_succ]
                  refine wpAnyH_ready (rs := [19]) (by kernel_rfl) (by simp) ?_
                  refine AllReadyH.cons rfl (fun K hK => ?_) AllReadyH.nil
                  go_simp
                  refine (HWD.out _ hHeld.2.2.below (q : Int) ((g : Int) * 64)).mono ?_
                  rintro e wk ⟨rfl, hbk⟩
                  rw [EWD.out]
                  go_wp2_with fail
                  refine hK.out _ _ ?_ (fun hHeld2 => ?_)
                  · try dsimp only
                    (go_split_ands; refine CgS.all (c := plC) ?_; (first | assumption | (exact CgS.drew (by assumption)) | (exact CgS.next (by assumption) (by assumption))))
                  clear hK K hHeld
                  have hHeld := hHeld2; clear hHeld2
                  try simp only [Act.put, List.getElem_toArray, List.getElem_cons_succ, List.getElem_cons_zero, List.setIfInBounds_toArray, List.set_cons_zero, List.set_cons_succ]
                  refine wpAnyH_ready (rs := [24]) (by kernel_rfl) (by simp) ?_
                  refine AllReadyH.cons rfl (fun K hK => ?_) AllReadyH.nil
                  go_simp
                  refine (HWC.out _ hHeld.2.2.below (q : Int) ((g : Int) * 64)).mono ?_
                  rintro e wk ⟨rfl, hbk⟩
                  rw [EWC.out]
                  go_wp2_with fail
                  refine hK.out _ _ ?_ (fun hHeld2 => ?_)
                  · try dsimp only
                    (go_split_ands; refine CgS.all (c := plC) ?_; (first | assumption | (exact CgS.drew (by assumption)) | (exact CgS.next (by assumption) (by assumption))))
                  clear hK K hHeld
                  have hHeld := hHeld2; clear hHeld2
                  try simp only [Act.put, List.getElem_toArray, List.getElem_cons_succ, List.getElem_cons_zero, List.setIfInBounds_toArray, List.set_cons_zero, List.set_cons_succ]
                  refine wpAnyH_take (i := 25) (v := ?v25zm) rfl (by kernel_rfl) (by kernel_rfl) (by kernel_rfl) (fun _ _ _ h => h) (Or.inl ⟨by rfl, ?hy25zm⟩) (by assumption) ?rest25zm
                  case hy25zm => intro w hSw; (try dsimp only at hSw); first | (go_simp; done) | (go_simp; with_reducible rfl)
                  try simp only [Act.put, List.getElem_toArray, List.getElem_cons_succ, List.getElem_cons_zero, List.setIfInBounds_toArray, List.set_cons_zero, List.set_cons_succ]
                  refine wpAnyH_take (i := 26) (v := ?v26zm) rfl (by kernel_rfl) (by kernel_rfl) (by kernel_rfl) (fun _ _ _ h => h) (Or.inl ⟨by rfl, ?hy26zm⟩) (by assumption) ?rest26zm
                  case hy26zm => intro w hSw; (try dsimp only at hSw); first | (go_simp; done) | (go_simp; with_reducible rfl)
                  try simp only [Act.put, List.getElem_toArray, List.getElem_cons_succ, List.getElem_cons_zero, List.setIfInBounds_toArray, List.set_cons_zero, List.set_cons_succ]
                  refine wpAnyH_take (i := 27) (v := ?v27zm) rfl (by kernel_rfl) (by kernel_rfl) (by kernel_rfl) (fun _ _ _ h => h) (Or.inl ⟨by rfl, ?hy27zm⟩) (by assumption) ?rest27zm
                  case hy27zm => intro w hSw; (try dsimp only at hSw); first | (go_simp; done) | (go_simp; with_reducible rfl)
                  try simp only [Act.put, List.getElem_toArray, List.getElem_cons_succ, List.getElem_cons_zero, List.setIfInBounds_toArray, List.set_cons_zero, List.set_cons_succ]
                  refine wpAnyH_take (i := 28) (v := undef) rfl (by kernel_rfl) (by kernel_rfl) (by kernel_rfl) (fun _ _ _ h => h) (Or.inr ⟨by rfl, rfl⟩) (by assumption) ?rest28zm
                  try simp only [Act.put, List.getElem_toArray, List.getElem_cons_succ, List.getElem_cons_zero, List.setIfInBounds_toArray, List.set_cons_zero, List.set_cons_succ]
                  refine wpAnyH_take (i := 29) (v := ?v29zm) rfl (by kernel_rfl) (by kernel_rfl) (by kernel_rfl) (fun _ _ _ h => h) (Or.inl ⟨by rfl, ?hy29zm⟩) (by assumption) ?rest29zm
                  case hy29zm => intro w hSw; (try dsimp only at hSw); first | (go_simp; done) | (go_simp; with_reducible rfl)
                  try simp only [Act.put, List.getElem_toArray, List.getElem_cons_succ, List.getElem_cons_zero, List.setIfInBounds_toArray, List.set_cons_zero, List.set_cons_succ]
                  refine wpAnyH_take (i := 30) (v := ?v30zm) rfl (by kernel_rfl) (by kernel_rfl) (by kernel_rfl) (fun _ _ _ h => h) (Or.inl ⟨by rfl, ?hy30zm⟩) (by assumption) ?rest30zm
                  case hy30zm => intro w hSw; (try dsimp only at hSw); first | (go_simp; done) | (go_simp; with_reducible rfl)
                  try simp only [Act.put, List.getElem_toArray, List.getElem_cons_succ, List.getElem_cons_zero, List.setIfInBounds_toArray, List.set_cons_zero, List.set_cons_succ]
                  refine wpAnyH_take (i := 31) (v := ?v31zm) rfl (by kernel_rfl) (by kernel_rfl) (by kernel_rfl) (fun _ _ _ h => h) (Or.inl ⟨by rfl, ?hy31zm⟩) (by assumption) ?rest31zm
                  case hy31zm => intro w hSw; (try dsimp only at hSw); first | (go_simp; done) | (go_simp; with_reducible rfl)
                  try simp only [Act.put, List.getElem_toArray, List.getElem_cons_succ, List.getElem_cons_zero, List.setIfInBounds_toArray, List.set_cons_zero, List.set_cons_succ]
                  refine wpAnyH_take (i := 32) (v := ?v32zm) rfl (by kernel_rfl) (by kernel_rfl) (by kernel_rfl) (fun _ _ _ h => h) (Or.inl ⟨by rfl, ?hy32zm⟩) (by assumption) ?rest32zm
                  case hy32zm => intro w hSw; (try dsimp only at hSw); first | (go_simp; done) | (go_simp; with_reducible rfl)
                  try simp only [Act.put, List.getElem_toArray, List.getElem_cons_succ, List.getElem_cons_zero, List.setIfInBounds_toArray, List.set_cons_zero, List.set_cons_succ]
                  refine wpAnyH_done (by kernel_rfl) ?_ _
                  all_goals
                    have hS6 := hHeld.2.2
                    have HS6 := Lib.hid hS6
                    clear hHeld hS6
                    go_wp2_with fail
                    go_roundw
                    case rel => exact ⟨q + 1, by omega, by go_num, HS6⟩
                    case measure => simp [intOf]; omega
            · have hd3 : decide ((q : Int) < 3) = false := decide_eq_false (by omega)
              go_wp2_with fail
              go_roundw
              case rel => exact ⟨g + 1, by omega, by go_num, HS⟩
              case measure => simp [intOf]; omega
        · have hd16 : decide ((g : Int) < 16) = false := decide_eq_false (by omega)
          go_wp2_with fail
          go_ret
          exact ⟨rfl, Below.down HKB.out HS.out.below HKB.out.size⟩

end Go.Proofs.Ytamhnnkmjhapmaa
