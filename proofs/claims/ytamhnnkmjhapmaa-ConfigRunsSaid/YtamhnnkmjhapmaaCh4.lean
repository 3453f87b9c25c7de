/-
  Contract of layer 21's awake: it answers true, whatever the world.
-/
import Derived.Test.YtamhnnkmjhapmaaCh3
import Derived.Test.YtamhnnkmjhapmaaCf9
import Derived.Test.YtamhnnkmjhapmaaNum
namespace Go.Proofs.Ytamhnnkmjhapmaa
open Go.RowKit
set_option linter.unusedVariables false
set_option linter.unusedSimpArgs false
set_option maxRecDepth 100000

theorem alloc_set4 (w : World) (p : Addr) (v : Value) (o : Obj) (h : p.block < w.heap.size) : (w.setCell p v).alloc o = (w.alloc o).setCell p v := by
  have e : ∀ f : Obj → Obj, (w.heap.modify p.block f).push o = (w.heap.push o).modify p.block f := by
    intro f
    apply Array.ext_getElem?
    intro i
    simp only [Array.getElem?_push, Array.getElem?_modify, Array.size_modify]
    by_cases h1 : i = w.heap.size
    · subst h1; rw [if_pos rfl, if_neg (by omega)]; simp
    · simp only [if_neg h1]
  unfold World.setCell World.alloc
  simp [e]
/-- A block of its own besides, of two cells, written. -/

theorem alB_no {c : Cf} (h : cfMay c = false) (p a n : Int) (wr : Bool) : alB c p a n wr = false := by unfold alB; rw [h]; rfl
/-- Plain with its grant turned back to the frame's owner. -/
def plBad : Cf := { plC with gs := [⟨2, 0, false⟩] }
def zeC : Cf := ⟨0, [], [], 0, [], [], 0, 0, 0⟩
theorem ze_cf (w : World) : CfAt w (.slice none 0 0) (.slice none 0 0) (.slice none 0 0) (.slice none 0 0) zeC :=
  ⟨PaS.nil w, paz_of (by decide) (fun x hx => by cases hx), DeS.nil w, dez_of (by decide) (fun x hx => by cases hx), Ws.nil w, by decide, none_nil, Gs.nil w, by decide, none_nil⟩
theorem pl_may : cfMay plC = true := by kernel_rfl
theorem bad_may : cfMay plBad = false := by kernel_rfl
theorem ze_may : cfMay zeC = false := by kernel_rfl

/-- A contract of a call on a known config whose answer is known. -/
theorem may_is {w : World} {c : Cf} {vp vd vw vg : Value} (h : CfAt w vp vd vw vg c) (b : Bool) (hb : cfMay c = b) : Calls Try.prog 9 #[.agg #[.int .i64 c.fr, vp, vd, .int .i64 c.mj, vw, vg, .int .i64 c.se, .int .i64 c.qu, .int .i64 c.qt]] w fun e w' => e = .returned (.bool b) ∧ Below w.heap.size w w' := by subst hb; exact cmay_any h
theorem reads_is {w : World} {c : Cf} {vp vd vw vg : Value} (h : CfAt w vp vd vw vg c) (p a n : Int) (b : Bool) (hb : alB c p a n false = b) : Calls Try.prog 11 #[.agg #[.int .i64 c.fr, vp, vd, .int .i64 c.mj, vw, vg, .int .i64 c.se, .int .i64 c.qu, .int .i64 c.qt], .int .i64 p, .int .i64 a, .int .i64 n] w fun e w' => e = .returned (.bool b) ∧ Below w.heap.size w w' := by subst hb; exact creads_any h p a n
theorem writes_is {w : World} {c : Cf} {vp vd vw vg : Value} (h : CfAt w vp vd vw vg c) (p a n : Int) (b : Bool) (hb : alB c p a n true = b) : Calls Try.prog 13 #[.agg #[.int .i64 c.fr, vp, vd, .int .i64 c.mj, vw, vg, .int .i64 c.se, .int .i64 c.qu, .int .i64 c.qt], .int .i64 p, .int .i64 a, .int .i64 n] w fun e w' => e = .returned (.bool b) ∧ Below w.heap.size w w' := by subst hb; exact cwrites_any h p a n


set_option maxHeartbeats 2000000 in
theorem cawake_any (w : World) : Calls Try.prog 16 #[] w fun e w' => e = .returned (.bool true) ∧ Below w.heap.size w w' := by
  have HP := Lib.hid plain_any
  go_enter Try.func16, Try.ntmps16
  go_wp2_with fail
  refine (HP.out w).mono ?_
  rintro e w1 ⟨b1, b2, b3, b4, b5, b6, b7, b8, b9, rfl, h9, hlo, hhi, hB⟩
  have HB1 := Lib.hid hB; have HCF := Lib.hid (Pl9.cf h9)
  have hA : Below w1.heap.size w1 (w1.alloc (.cells #[.int .i64 16, .slice (some ⟨b4, 0, none⟩) 3 3, .slice (some ⟨b7, 0, none⟩) 2 2, .int .i64 6, .slice (some ⟨b8, 0, none⟩) 3 3, .slice (some ⟨b9, 0, none⟩) 1 1, .int .i64 10, .int .i64 6, .int .i64 2] 27)) := (Below.refl _ _).alloc (Nat.le_refl _) _
  have hV : Blk (w1.alloc (.cells #[.int .i64 16, .slice (some ⟨b4, 0, none⟩) 3 3, .slice (some ⟨b7, 0, none⟩) 2 2, .int .i64 6, .slice (some ⟨b8, 0, none⟩) 3 3, .slice (some ⟨b9, 0, none⟩) 1 1, .int .i64 10, .int .i64 6, .int .i64 2] 27)) w1.heap.size 27 (cfc plC (.slice (some ⟨b4, 0, none⟩) 3 3) (.slice (some ⟨b7, 0, none⟩) 2 2) (.slice (some ⟨b8, 0, none⟩) 3 3) (.slice (some ⟨b9, 0, none⟩) 1 1)) := Blk.new w1 _ (cfc plC (.slice (some ⟨b4, 0, none⟩) 3 3) (.slice (some ⟨b7, 0, none⟩) 2 2) (.slice (some ⟨b8, 0, none⟩) 3 3) (.slice (some ⟨b9, 0, none⟩) 1 1))
  have HA := Lib.hid hA; have HV := Lib.hid hV
  clear hB h9 hA hV
  go_wp2_with fail
  generalize w1.alloc (.cells #[.int .i64 16, .slice (some ⟨b4, 0, none⟩) 3 3, .slice (some ⟨b7, 0, none⟩) 2 2, .int .i64 6, .slice (some ⟨b8, 0, none⟩) 3 3, .slice (some ⟨b9, 0, none⟩) 1 1, .int .i64 10, .int .i64 6, .int .i64 2] 27) = w2 at *
  refine (HP.out w2).mono ?_
  rintro e w3 ⟨d1, d2, d3, d4, d5, d6, d7, d8, d9, rfl, h9, hlo2, hhi2, hB⟩
  have hVl := HV.out.lt
  have hV3 := HV.out.below hB hVl
  have b4' : Below w3.heap.size w3 (w3.alloc (.cells #[.int .i64 16, .slice (some ⟨d4, 0, none⟩) 3 3, .slice (some ⟨d7, 0, none⟩) 2 2, .int .i64 6, .slice (some ⟨d8, 0, none⟩) 3 3, .slice (some ⟨d9, 0, none⟩) 1 1, .int .i64 10, .int .i64 6, .int .i64 2] 27)) := (Below.refl _ _).alloc (Nat.le_refl _) _
  have hV2 : Blk (w3.alloc (.cells #[.int .i64 16, .slice (some ⟨d4, 0, none⟩) 3 3, .slice (some ⟨d7, 0, none⟩) 2 2, .int .i64 6, .slice (some ⟨d8, 0, none⟩) 3 3, .slice (some ⟨d9, 0, none⟩) 1 1, .int .i64 10, .int .i64 6, .int .i64 2] 27)) w3.heap.size 27 (cfc plC (.slice (some ⟨d4, 0, none⟩) 3 3) (.slice (some ⟨d7, 0, none⟩) 2 2) (.slice (some ⟨d8, 0, none⟩) 3 3) (.slice (some ⟨d9, 0, none⟩) 1 1)) := Blk.new w3 _ (cfc plC (.slice (some ⟨d4, 0, none⟩) 3 3) (.slice (some ⟨d7, 0, none⟩) 2 2) (.slice (some ⟨d8, 0, none⟩) 3 3) (.slice (some ⟨d9, 0, none⟩) 1 1))
  have h94 := h9.below b4'
  have hz4 : (w3.alloc (.cells #[.int .i64 16, .slice (some ⟨d4, 0, none⟩) 3 3, .slice (some ⟨d7, 0, none⟩) 2 2, .int .i64 6, .slice (some ⟨d8, 0, none⟩) 3 3, .slice (some ⟨d9, 0, none⟩) 1 1, .int .i64 10, .int .i64 6, .int .i64 2] 27)).heap.size = w3.heap.size + 1 := by simp
  have hV4 := hV3.below b4' (by have := hB.size; omega)
  have h34 := Below.down hB b4' hB.size
  have c9 := h94.k9.cell 1
  have z9 := h94.k9.frozen 1
  have e9 : (grs plG)[1]? = some (.int .i64 2) := rfl
  rw [e9] at c9
  have H94 := Lib.hid h94; have HV1 := Lib.hid hV4; have HV2 := Lib.hid hV2; have H34 := Lib.hid h34; have HZ4 := Lib.hid hz4
  have hs23 := hB.size
  have hs12 := HA.out.size
  obtain ⟨f0, f1, f2, f3, f4, f5, f6, f7, f8⟩ := cf_at HV2.out
  clear h9 hB hV3 b4' hV2 h94 hz4 hV4 h34 e9
  have h95 := H94.out.s9 1 (.int .i64 0)
  have hbad : CfAt ((w3.alloc (.cells #[.int .i64 16, .slice (some ⟨d4, 0, none⟩) 3 3, .slice (some ⟨d7, 0, none⟩) 2 2, .int .i64 6, .slice (some ⟨d8, 0, none⟩) 3 3, .slice (some ⟨d9, 0, none⟩) 1 1, .int .i64 10, .int .i64 6, .int .i64 2] 27)).setCell ⟨d9, 1, none⟩ (.int .i64 0)) (.slice (some ⟨d4, 0, none⟩) 3 3) (.slice (some ⟨d7, 0, none⟩) 2 2) (.slice (some ⟨d8, 0, none⟩) 3 3) (.slice (some ⟨d9, 0, none⟩) 1 1) plBad :=
    ⟨P9.ps h95, paz_pl, P9.ds h95, dez_pl, P9.ws h95, by decide, some_nil, Sl.blk0 h95.k9 (by decide) rfl, by decide, some_nil⟩
  have h4d : d9 < (w3.alloc (.cells #[.int .i64 16, .slice (some ⟨d4, 0, none⟩) 3 3, .slice (some ⟨d7, 0, none⟩) 2 2, .int .i64 6, .slice (some ⟨d8, 0, none⟩) 3 3, .slice (some ⟨d9, 0, none⟩) 1 1, .int .i64 10, .int .i64 6, .int .i64 2] 27)).heap.size := H94.out.k9.lt
  have hord := H94.out.ord
  have B15 : Below w1.heap.size w1 ((w3.alloc (.cells #[.int .i64 16, .slice (some ⟨d4, 0, none⟩) 3 3, .slice (some ⟨d7, 0, none⟩) 2 2, .int .i64 6, .slice (some ⟨d8, 0, none⟩) 3 3, .slice (some ⟨d9, 0, none⟩) 1 1, .int .i64 10, .int .i64 6, .int .i64 2] 27)).setCell ⟨d9, 1, none⟩ (.int .i64 0)) := ((Below.down HA.out H34.out HA.out.size)).setCell (p := ⟨d9, 1, none⟩) (show w1.heap.size ≤ d9 by omega) _
  have HC1 := Lib.hid (HCF.out.below B15)
  have HC2 := Lib.hid hbad
  have HK1 := Lib.hid (HV1.out.far (p := ⟨d9, 1, none⟩) (show w1.heap.size ≠ d9 by omega) (.int .i64 0))
  have HK2 := Lib.hid (HV2.out.far (p := ⟨d9, 1, none⟩) (show w3.heap.size ≠ d9 by omega) (.int .i64 0))
  have HB5 := Lib.hid (Below.down HB1.out B15 HB1.out.size)
  have hw5 : (w3.alloc (.cells #[.int .i64 16, .slice (some ⟨d4, 0, none⟩) 3 3, .slice (some ⟨d7, 0, none⟩) 2 2, .int .i64 6, .slice (some ⟨d8, 0, none⟩) 3 3, .slice (some ⟨d9, 0, none⟩) 1 1, .int .i64 10, .int .i64 6, .int .i64 2] 27)).heap.size = ((w3.alloc (.cells #[.int .i64 16, .slice (some ⟨d4, 0, none⟩) 3 3, .slice (some ⟨d7, 0, none⟩) 2 2, .int .i64 6, .slice (some ⟨d8, 0, none⟩) 3 3, .slice (some ⟨d9, 0, none⟩) 1 1, .int .i64 10, .int .i64 6, .int .i64 2] 27)).setCell ⟨d9, 1, none⟩ (.int .i64 0)).heap.size := by simp [World.setCell]
  have hv1 : w1.heap.size < ((w3.alloc (.cells #[.int .i64 16, .slice (some ⟨d4, 0, none⟩) 3 3, .slice (some ⟨d7, 0, none⟩) 2 2, .int .i64 6, .slice (some ⟨d8, 0, none⟩) 3 3, .slice (some ⟨d9, 0, none⟩) 1 1, .int .i64 10, .int .i64 6, .int .i64 2] 27)).setCell ⟨d9, 1, none⟩ (.int .i64 0)).heap.size := by omega
  have hv2 : w3.heap.size < ((w3.alloc (.cells #[.int .i64 16, .slice (some ⟨d4, 0, none⟩) 3 3, .slice (some ⟨d7, 0, none⟩) 2 2, .int .i64 6, .slice (some ⟨d8, 0, none⟩) 3 3, .slice (some ⟨d9, 0, none⟩) 1 1, .int .i64 10, .int .i64 6, .int .i64 2] 27)).setCell ⟨d9, 1, none⟩ (.int .i64 0)).heap.size := by rw [← hw5]; have := HZ4.out; omega
  clear h95 hbad hord B15 hw5 h4d
  have hcomm : (w3.setCell ⟨d9, 1, none⟩ (.int .i64 0)).alloc (.cells #[.int .i64 16, .slice (some ⟨d4, 0, none⟩) 3 3, .slice (some ⟨d7, 0, none⟩) 2 2, .int .i64 6, .slice (some ⟨d8, 0, none⟩) 3 3, .slice (some ⟨d9, 0, none⟩) 1 1, .int .i64 10, .int .i64 6, .int .i64 2] 27) = (w3.alloc (.cells #[.int .i64 16, .slice (some ⟨d4, 0, none⟩) 3 3, .slice (some ⟨d7, 0, none⟩) 2 2, .int .i64 6, .slice (some ⟨d8, 0, none⟩) 3 3, .slice (some ⟨d9, 0, none⟩) 1 1, .int .i64 10, .int .i64 6, .int .i64 2] 27)).setCell ⟨d9, 1, none⟩ (.int .i64 0) := alloc_set4 _ _ _ _ hhi2
  rw [← hcomm] at HC1 HC2 HK1 HK2 HB5 hv1 hv2
  clear hcomm
  obtain ⟨y0, y1, y2, y3, y4, y5, y6, y7, y8⟩ := cf_at HK1.out
  go_wp2_with fail
  generalize (w3.setCell ⟨d9, 1, none⟩ (.int .i64 0)).alloc (.cells #[.int .i64 16, .slice (some ⟨d4, 0, none⟩) 3 3, .slice (some ⟨d7, 0, none⟩) 2 2, .int .i64 6, .slice (some ⟨d8, 0, none⟩) 3 3, .slice (some ⟨d9, 0, none⟩) 1 1, .int .i64 10, .int .i64 6, .int .i64 2] 27) = w5 at *
  clear f0 f1 f2 f3 f4 f5 f6 f7 f8 y0 y1 y2 y3 y4 y5 y6 y7 y8 c9 z9
  have b5' := Below.refl w5.heap.size w5

  obtain ⟨f0, f1, f2, f3, f4, f5, f6, f7, f8⟩ := cf_at (HK1.out.below b5' hv1)
  refine (may_is (HC1.out.below b5') true pl_may).mono ?_
  rintro e wn ⟨rfl, hbn⟩
  have b5'' := Below.down b5' hbn b5'.size
  clear b5' hbn f0 f1 f2 f3 f4 f5 f6 f7 f8
  have b5' := b5''
  clear b5''
  obtain ⟨f0, f1, f2, f3, f4, f5, f6, f7, f8⟩ := cf_at (HK2.out.below b5' hv2)
  go_wp2_with fail
  refine (may_is (HC2.out.below b5') false bad_may).mono ?_
  rintro e wn ⟨rfl, hbn⟩
  have b5'' := Below.down b5' hbn b5'.size
  clear b5' hbn f0 f1 f2 f3 f4 f5 f6 f7 f8
  have b5' := b5''
  clear b5''
  go_wp2_with fail
  refine (may_is (ze_cf _) false ze_may).mono ?_
  rintro e wn ⟨rfl, hbn⟩
  have b5'' := Below.down b5' hbn b5'.size
  clear b5' hbn
  have b5' := b5''
  clear b5''
  obtain ⟨f0, f1, f2, f3, f4, f5, f6, f7, f8⟩ := cf_at (HK1.out.below b5' hv1)
  go_wp2_with fail
  refine (reads_is (HC1.out.below b5') 0 0 192 true (by kernel_rfl)).mono ?_
  rintro e wn ⟨rfl, hbn⟩
  have b5'' := Below.down b5' hbn b5'.size
  clear b5' hbn f0 f1 f2 f3 f4 f5 f6 f7 f8
  have b5' := b5''
  clear b5''
  obtain ⟨f0, f1, f2, f3, f4, f5, f6, f7, f8⟩ := cf_at (HK1.out.below b5' hv1)
  go_wp2_with fail
  refine (reads_is (HC1.out.below b5') 0 0 193 false (by kernel_rfl)).mono ?_
  rintro e wn ⟨rfl, hbn⟩
  have b5'' := Below.down b5' hbn b5'.size
  clear b5' hbn f0 f1 f2 f3 f4 f5 f6 f7 f8
  have b5' := b5''
  clear b5''
  obtain ⟨f0, f1, f2, f3, f4, f5, f6, f7, f8⟩ := cf_at (HK1.out.below b5' hv1)
  go_wp2_with fail
  refine (reads_is (HC1.out.below b5') 2 128 64 true (by kernel_rfl)).mono ?_
  rintro e wn ⟨rfl, hbn⟩
  have b5'' := Below.down b5' hbn b5'.size
  clear b5' hbn f0 f1 f2 f3 f4 f5 f6 f7 f8
  have b5' := b5''
  clear b5''
  obtain ⟨f0, f1, f2, f3, f4, f5, f6, f7, f8⟩ := cf_at (HK1.out.below b5' hv1)
  go_wp2_with fail
  refine (writes_is (HC1.out.below b5') 2 128 64 false (by kernel_rfl)).mono ?_
  rintro e wn ⟨rfl, hbn⟩
  have b5'' := Below.down b5' hbn b5'.size
  clear b5' hbn f0 f1 f2 f3 f4 f5 f6 f7 f8
  have b5' := b5''
  clear b5''
  obtain ⟨f0, f1, f2, f3, f4, f5, f6, f7, f8⟩ := cf_at (HK1.out.below b5' hv1)
  go_wp2_with fail
  refine (reads_is (HC1.out.below b5') 3 0 0 false (by kernel_rfl)).mono ?_
  rintro e wn ⟨rfl, hbn⟩
  have b5'' := Below.down b5' hbn b5'.size
  clear b5' hbn f0 f1 f2 f3 f4 f5 f6 f7 f8
  have b5' := b5''
  clear b5''
  have HFIN := Lib.hid (Below.down HB5.out b5' HB5.out.size)
  clear b5'
  go_wp2_with (go_at_call 18; refine (num_any _ _).mono ?_; rintro e w' ⟨rfl, rfl⟩)
  go_ret
  exact ⟨rfl, HFIN.out⟩

end Go.Proofs.Ytamhnnkmjhapmaa
