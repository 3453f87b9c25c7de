/-
  Contracts of config's partsMay, devicesMay, give, ownersOf, framesUnlike.
-/
import Derived.Test.YtamhnnkmjhapmaaCf1
import Derived.Test.YtamhnnkmjhapmaaItInt
import Derived.Test.YtamhnnkmjhapmaaFrames2
import Derived.Test.YtamhnnkmjhapmaaOb
namespace Go.Proofs.Ytamhnnkmjhapmaa
open Go.RowKit
set_option linter.unusedVariables false
set_option linter.unusedSimpArgs false
set_option maxRecDepth 100000

theorem Fo.nos {w w' : World} (h : Fo nos w w') : Below w.heap.size w w' := h.below (Below.refl _ _) (Nat.le_refl _) (fun _ h => h.elim)
theorem nos_lt {w : World} : ∀ k, nos k → k < w.heap.size := fun _ h => h.elim

section
variable {w : World} {c : Cf} {vp vd vw vg : Value}
theorem partsmay_any (h : CfAt w vp vd vw vg c) : Calls Try.prog 38 #[.agg #[.int .i64 c.fr, vp, vd, .int .i64 c.mj, vw, vg, .int .i64 c.se, .int .i64 c.qu, .int .i64 c.qt]] w fun e w' => e = .returned (.bool (psB c)) ∧ Below w.heap.size w w' := by
  obtain ⟨hb, hB⟩ := cf_box w c vp vd vw vg
  obtain ⟨-, k1, -⟩ := cf_at hb
  have h1 := h.below hB
  have hz := h.pz.1
  obtain ⟨A, cap, b, o, sv, rfl, hA, hr⟩ := h1.ps.rows
  have hw1 : w.heap.size + 1 = (w.alloc (.cells #[.int .i64 c.fr, .slice A c.ps.length cap, vd, .int .i64 c.mj, vw, vg, .int .i64 c.se, .int .i64 c.qu, .int .i64 c.qt] 27)).heap.size := by simp
  have HB := Lib.hid hB
  have HE : Hid (Calls Try.prog 59 #[.slice A c.ps.length cap, .func (.func 60) #[] #[]] _ _) := Lib.hid (each_Part A b o c.ps.length cap (fun i => .int .i64 (c.ps.getD i paD).lv) (fun i => .int .i64 (c.ps.getD i paD).ct) sv (fun i => .int .i64 (c.ps.getD i paD).fi) (fun i => .int .i64 (c.ps.getD i paD).co)
    (fun i => paB (c.ps.getD i paD)) nos (fun _ W => Below (w.heap.size + 1) (w.alloc (.cells #[.int .i64 c.fr, .slice A c.ps.length cap, vd, .int .i64 c.mj, vw, vg, .int .i64 c.se, .int .i64 c.qu, .int .i64 c.qt] 27)) W) (w.alloc (.cells #[.int .i64 c.fr, .slice A c.ps.length cap, vd, .int .i64 c.mj, vw, vg, .int .i64 c.se, .int .i64 c.qu, .int .i64 c.qt] 27)) (by unfold maxLen; omega) (fun h0 => (hA h0).1) nos_lt
    (fun i W W' hI hW => Below.down hI hW (by have := hI.size; omega))
    (fun i W hi hI => by
      have hlt := (hA (by omega)).2
      have g := fun x => hI.cell (p := ⟨b, x, none⟩) (show b < w.heap.size + 1 by omega)
      obtain ⟨⟨q0, q1, q2, q3, q4⟩, -⟩ := hr i hi
      exact ⟨(g _).trans q0, (g _).trans q1, (g _).trans q2, (g _).trans q3, (g _).trans q4⟩)
    (fun i W hi _ hI => by
      obtain ⟨-, A2, c2, e2, -⟩ := hr i hi
      rw [e2]
      refine (pm1_any (c.ps.getD i paD) A2 _ c2 rfl W).mono ?_
      rintro e w' ⟨rfl, hb⟩
      exact ⟨rfl, Below.down hI hb (by have := hI.size; omega), Fo.of hb _⟩)
    (by rw [hw1]; exact Below.refl _ _))
  rw [all_range c.ps paD paB] at HE
  have HX : Hid (psB c = (btw 1 4 c.ps.length && c.ps.all paB)) := Lib.hid rfl
  clear h h1 hb hB hA hr hw1
  generalize c.ps.all paB = R at *
  generalize psB c = Q at *
  have hs : w.heap.size ≤ w.heap.size + 1 := by omega
  cases hc : btw 1 4 c.ps.length with
  | false =>
    obtain rfl : Q = false := by rw [HX.out, hc]; rfl
    have HF := Lib.hid hc
    clear hc HE
    go_enter Try.func38, Try.ntmps38
    go_wp2_with fail
    refine (isfrom_any _ _ _ _).mono ?_
    rintro e w1 ⟨rfl, rfl⟩
    rw [HF.out]
    go_wp2_with fail
    go_ret
    exact ⟨rfl, HB.out⟩
  | true =>
    obtain rfl : Q = R := by rw [HX.out, hc]; rfl
    have HF := Lib.hid hc
    clear hc
    go_enter Try.func38, Try.ntmps38
    go_wp2_with fail
    refine (isfrom_any _ _ _ _).mono ?_
    rintro e w1 ⟨rfl, rfl⟩
    rw [HF.out]
    go_wp2_with fail
    refine HE.out.mono ?_
    rintro e w2 ⟨rfl, -, hf⟩
    have hb2 := Below.down HB.out hf.nos HB.out.size
    clear hf
    go_wp2_with fail
    go_ret
    exact ⟨rfl, hb2⟩

/-- A device that is asked; g: the block of the config that the function holds. -/
theorem dm1_any (x : De) (A2 : Option Addr) (n2 c2 g : Nat) (hn : n2 = x.po.length) (hg : Blk w g 27 (cfc c vp vd vw vg)) (h : CfAt w vp vd vw vg c) :
    Calls Try.prog 63 #[.agg #[.int .i64 x.pt, .slice A2 n2 c2], .pointer (some ⟨g, 0, none⟩)] w fun e w' => e = .returned (.bool (dvB c.ps.length x)) ∧ Below w.heap.size w w' := by
  have hb : Blk (w.alloc (.cells #[.int .i64 x.pt, .slice A2 n2 c2] 42)) w.heap.size 42 [.int .i64 x.pt, .slice A2 n2 c2] := Blk.new _ _ _
  have hB : Below w.heap.size w (w.alloc (.cells #[.int .i64 x.pt, .slice A2 n2 c2] 42)) := (Below.refl _ _).alloc (Nat.le_refl _) _
  have hg1 := hg.alloc (.cells #[.int .i64 x.pt, .slice A2 n2 c2] 42)
  have hP := haspart_any (h.below hB) x.pt
  obtain ⟨f0, f1, f2, f3, f4, f5, f6, f7, f8⟩ := cf_at hg1
  have k0 := hb.cell 0
  have k1 := hb.cell 1
  simp only [List.getElem?_cons_zero, List.getElem?_cons_succ] at k0 k1
  have HX : Hid (dvB c.ps.length x = (inP c.ps.length x.pt && btw 2 5 (n2 : Int))) := Lib.hid (by rw [hn]; rfl)
  have HP := Lib.hid hP; have HB := Lib.hid hB
  clear hP hb hB hg hg1 h hn
  generalize dvB c.ps.length x = Q at *
  cases hc : inP c.ps.length x.pt with
  | false =>
    obtain rfl : Q = false := by rw [HX.out, hc]; rfl
    rw [hc] at HP
    clear hc HX
    go_enter Try.func63, Try.ntmps63
    go_wp2_with fail
    refine HP.out.mono ?_
    rintro e w1 ⟨rfl, b1⟩
    go_wp2_with fail
    go_ret
    exact ⟨rfl, Below.down HB.out b1 HB.out.size⟩
  | true =>
    obtain rfl : Q = btw 2 5 (n2 : Int) := by rw [HX.out, hc]; rfl
    rw [hc] at HP
    clear hc HX
    go_enter Try.func63, Try.ntmps63
    go_wp2_with fail
    refine HP.out.mono ?_
    rintro e w1 ⟨rfl, b1⟩
    have g1 := (b1.cell (p := ⟨w.heap.size, 1, none⟩) (by simp)).trans k1
    go_wp2_with fail
    refine (isfrom_any _ _ _ _).mono ?_
    rintro e w2 ⟨rfl, rfl⟩
    go_wp2_with fail
    go_ret
    exact ⟨rfl, Below.down HB.out b1 HB.out.size⟩

theorem devicesmay_any (h : CfAt w vp vd vw vg c) : Calls Try.prog 39 #[.agg #[.int .i64 c.fr, vp, vd, .int .i64 c.mj, vw, vg, .int .i64 c.se, .int .i64 c.qu, .int .i64 c.qt]] w fun e w' => e = .returned (.bool (dsB c)) ∧ Below w.heap.size w w' := by
  obtain ⟨hb, hB⟩ := cf_box w c vp vd vw vg
  obtain ⟨-, -, k2, -⟩ := cf_at hb
  have h1 := h.below hB
  have hz := h.dz.1
  obtain ⟨A, cap, b, o, sv, rfl, hA, hr⟩ := h1.ds.rows
  have hw1 : w.heap.size + 1 = (w.alloc (.cells #[.int .i64 c.fr, vp, .slice A c.ds.length cap, .int .i64 c.mj, vw, vg, .int .i64 c.se, .int .i64 c.qu, .int .i64 c.qt] 27)).heap.size := by simp
  have HB := Lib.hid hB
  have HE := Lib.hid (each_Dev A b o c.ds.length cap w.heap.size (fun i => .int .i64 (c.ds.getD i deD).pt) sv
    (fun i => dvB c.ps.length (c.ds.getD i deD)) nos (fun _ W => Below (w.heap.size + 1) (w.alloc (.cells #[.int .i64 c.fr, vp, .slice A c.ds.length cap, .int .i64 c.mj, vw, vg, .int .i64 c.se, .int .i64 c.qu, .int .i64 c.qt] 27)) W) (w.alloc (.cells #[.int .i64 c.fr, vp, .slice A c.ds.length cap, .int .i64 c.mj, vw, vg, .int .i64 c.se, .int .i64 c.qu, .int .i64 c.qt] 27)) (by unfold maxLen; omega) (fun h0 => (hA h0).1) nos_lt
    (fun i W W' hI hW => Below.down hI hW (by have := hI.size; omega))
    (fun i W hi hI => by
      have hlt := (hA (by omega)).2
      have g := fun x => hI.cell (p := ⟨b, x, none⟩) (show b < w.heap.size + 1 by omega)
      obtain ⟨⟨q0, q1⟩, -⟩ := hr i hi
      exact ⟨(g _).trans q0, (g _).trans q1⟩)
    (fun i W hi _ hI => by
      obtain ⟨-, A2, c2, e2, -⟩ := hr i hi
      rw [e2]
      refine (dm1_any (c.ds.getD i deD) A2 _ c2 w.heap.size rfl (hb.below hI (by omega)) (h1.below (by rw [← hw1]; exact hI))).mono ?_
      rintro e w' ⟨rfl, hb⟩
      exact ⟨rfl, Below.down hI hb (by have := hI.size; omega), Fo.of hb _⟩)
    (by rw [hw1]; exact Below.refl _ _))
  rw [all_range c.ds deD (dvB c.ps.length)] at HE
  have HX : Hid (dsB c = (btw 1 4 c.ds.length && c.ds.all (dvB c.ps.length))) := Lib.hid rfl
  clear h h1 hb hB hA hr hw1
  generalize c.ds.all (dvB c.ps.length) = R at *
  generalize dsB c = Q at *
  cases hc : btw 1 4 c.ds.length with
  | false =>
    obtain rfl : Q = false := by rw [HX.out, hc]; rfl
    have HF := Lib.hid hc
    clear hc HE
    go_enter Try.func39, Try.ntmps39
    go_wp2_with fail
    refine (isfrom_any _ _ _ _).mono ?_
    rintro e w1 ⟨rfl, rfl⟩
    rw [HF.out]
    go_wp2_with fail
    go_ret
    exact ⟨rfl, HB.out⟩
  | true =>
    obtain rfl : Q = R := by rw [HX.out, hc]; rfl
    have HF := Lib.hid hc
    clear hc
    go_enter Try.func39, Try.ntmps39
    go_wp2_with fail
    refine (isfrom_any _ _ _ _).mono ?_
    rintro e w1 ⟨rfl, rfl⟩
    rw [HF.out]
    go_wp2_with fail
    refine HE.out.mono ?_
    rintro e w2 ⟨rfl, -, hf⟩
    have hb2 := Below.down HB.out hf.nos HB.out.size
    clear hf
    go_wp2_with fail
    go_ret
    exact ⟨rfl, hb2⟩
end

end Go.Proofs.Ytamhnnkmjhapmaa
