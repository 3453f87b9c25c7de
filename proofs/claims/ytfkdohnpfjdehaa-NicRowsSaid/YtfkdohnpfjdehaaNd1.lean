/-
  Layer 20, the document: Send.
-/
import Derived.Test.YtfkdohnpfjdehaaNd0
import Derived.Test.YtfkdohnpfjdehaaLat1
import Derived.Test.YtfkdohnpfjdehaaNcSend
import Derived.Test.YtfkdohnpfjdehaaChecked
import Derived.Deep.RegionLaw
import Derived.Deep.AppendLies
namespace Go.Proofs.Ytfkdohnpfjdehaa
open Go.RowKit
set_option linter.unusedVariables false
set_option linter.unusedSimpArgs false
set_option maxRecDepth 100000

section
variable {w : World} {g a ca : Nat} {V : Nat → Value} {ls : List (Int × Int)} {Q : Nat → List Ms} {D : Nat → Int}
theorem RS.labAt (d : RS w g a ca V ls Q D) (i : Nat) (h : i < ls.length) : w.cell? ⟨a, i * 2, none⟩ = some (.int .i64 (labL ls i)) ∧ w.cell? ⟨a, i * 2 + 1, none⟩ = some (.int .i64 (labC ls i)) := by
  have hg := lbs_get ls i h
  have e : labL ls i = ls[i].1 ∧ labC ls i = ls[i].2 := by unfold labL labC; simp [List.getD, List.getElem?_eq_getElem h]
  rw [d.lab.cellAt _ (by omega), d.lab.cellAt _ (by omega), e.1, e.2]
  exact ⟨by simp [ints, hg.1], by simp [ints, hg.2]⟩

theorem infoMs : (Try.prog.info? 41).map (fun i => (i.zero, i.size, i.bytes)) = some (some (.agg #[.int .i64 0, .string ByteArray.empty]), 2, 24) := by kernel_rfl

/-- What the document's calls leave. -/
def RsL (w : World) (g a : Nat) (ca : Nat) (V : Nat → Value) (ls : List (Int × Int)) (Q' : Nat → List Ms) (D' : Nat → Int) (w' : World) : Prop :=
  ∃ V', RS w' g a ca V' ls Q' D' ∧ Fo (sRS g a V) w w' ∧ ∀ p, p < 4 → ∀ b, (V' p).ownBlock = some b → sRS g a V b ∨ w.heap.size ≤ b
theorem RsL.same {w w' : World} (d : RS w' g a ca V ls Q D) (f : Fo (sRS g a V) w w') : RsL w g a ca V ls Q D w' := ⟨V, d, f, fun p hp b hb => .inl (.inr (.inr ⟨p, hp, hb⟩))⟩
/-- A row put in its place. -/
theorem RsL.put (d : RS w g a ca V ls Q D) {w0 : World} (f : Fo (sRS g a V) w0 w) (p : Nat) (hp : p < 4) (q : List Ms) (h8 : q.length ≤ 8) (v : Value) {w1 : World} (hg : w.grownBy w1 (V p).ownBlock) (own : w1.ownsRow 0 41 2 v q.length (mss q))
    (hv : ∀ b, v.ownBlock = some b → (V p).ownBlock = some b ∨ w.heap.size ≤ b) : RsL w0 g a ca V ls (upF Q p q) D (w1.setCell ⟨g, 1 + p, none⟩ v) := by
  refine ⟨_, d.putQ p hp q h8 v hg own hv, f.trans_new (Fo.putQ d p hp v hg) (fun _ h => .inl h), fun i hi b hb => ?_⟩
  by_cases hip : i = p
  · subst hip
    rw [upF_here] at hb
    rcases hv b hb with h1 | h1
    · exact .inl (.inr (.inr ⟨i, hi, h1⟩))
    · exact .inr (by have := f.size; omega)
  · rw [upF_far _ _ hip] at hb
    exact .inl (.inr (.inr ⟨i, hi, hb⟩))

set_option maxHeartbeats 2000000 in
theorem rssend_any (x0 y0 : Int) (s : ByteArray) (d : RS w g a ca V ls Q D) (hs : s.size ≤ maxLen) :
    Calls Try.prog 16 #[.pointer (some ⟨g, 0, none⟩), .int .i64 x0, .int .i64 y0, .string s] w fun e w' => e = .returned (.int .i64 (nsC ls x0 y0 s.size)) ∧ RsL w g a ca V ls (nsQ ls Q x0 y0 s.data.toList) (nsD ls Q D x0 y0 s.size) w' := by
  have HD := Lib.hid d
  have hP4 := d.p4
  unfold maxLen at hs
  have HQ : Hid (nsQ ls Q x0 y0 s.data.toList = if nsC ls x0 y0 s.size = 0 then adQ Q y0.toNat ⟨x0, s.data.toList⟩ else Q) := Lib.hid (by unfold nsQ; rw [list_len])
  have HN : Hid (nsD ls Q D x0 y0 s.size = if nsC ls x0 y0 s.size = 0 then adD Q D y0.toNat else D) := Lib.hid rfl
  have hw := nsend_ways ls x0 y0 s.size
  generalize hn : s.size = n at *
  have HNN := Lib.hid hn
  generalize nsQ ls Q x0 y0 s.data.toList = Q' at *
  generalize nsD ls Q D x0 y0 n = D' at *
  generalize nsC ls x0 y0 n = C at *
  rcases hw with ⟨h1, rfl⟩ | ⟨h1, h2, rfl⟩ | ⟨h1, h2, h3, rfl⟩ | ⟨h1, h2, h3, h4, rfl⟩ | ⟨h1, h2, h3, h4, h5, rfl⟩ | ⟨h1, h2, h3, h4, h5, rfl⟩
  · have HA := Lib.hid h1
    rw [HQ.out, HN.out, if_neg (by decide), if_neg (by decide)]
    clear d h1
    go_enter Try.func16, Try.ntmps16
    go_wp2_with fail
    refine (rsthere_any _ HD.out).mono ?_
    rintro e w' ⟨rfl, rfl⟩
    rw [HA.out]
    go_wp2_with fail
    go_ret
    exact ⟨rfl, RsL.same HD.out (Fo.refl _ _)⟩
  · have HA := Lib.hid h1; have HB := Lib.hid h2
    rw [HQ.out, HN.out, if_neg (by decide), if_neg (by decide)]
    clear d h1 h2
    go_enter Try.func16, Try.ntmps16
    go_wp2_with fail
    refine (rsthere_any _ HD.out).mono ?_
    rintro e w' ⟨rfl, rfl⟩
    rw [HA.out]
    go_wp2_with fail
    refine (rsthere_any _ HD.out).mono ?_
    rintro e w' ⟨rfl, rfl⟩
    rw [HB.out]
    go_wp2_with fail
    go_ret
    exact ⟨rfl, RsL.same HD.out (Fo.refl _ _)⟩
  · have HA := Lib.hid h1; have HB := Lib.hid h2
    rw [HQ.out, HN.out, if_neg (by decide), if_neg (by decide)]
    clear d h1 h2
    go_enter Try.func16, Try.ntmps16
    go_wp2_with fail
    refine (rsthere_any _ HD.out).mono ?_
    rintro e w' ⟨rfl, rfl⟩
    rw [HA.out]
    go_wp2_with fail
    refine (rsthere_any _ HD.out).mono ?_
    rintro e w' ⟨rfl, rfl⟩
    rw [HB.out]
    go_wp2_with fail
    go_ret
    exact ⟨rfl, RsL.same HD.out (Fo.refl _ _)⟩
  · have HA := Lib.hid h1; have HB := Lib.hid h2
    rw [HQ.out, HN.out, if_neg (by decide), if_neg (by decide)]
    clear d h1 h2
    go_enter Try.func16, Try.ntmps16
    go_wp2_with fail
    refine (rsthere_any _ HD.out).mono ?_
    rintro e w' ⟨rfl, rfl⟩
    rw [HA.out]
    go_wp2_with fail
    refine (rsthere_any _ HD.out).mono ?_
    rintro e w' ⟨rfl, rfl⟩
    rw [HB.out]
    go_wp2_with fail
    go_ret
    exact ⟨rfl, RsL.same HD.out (Fo.refl _ _)⟩
  all_goals
    have HA := Lib.hid h1; have HB := Lib.hid h2
    obtain ⟨x, rfl, hx⟩ := (inP_iff _ _).1 h1
    obtain ⟨y, rfl, hy⟩ := (inP_iff _ _).1 h2
    have H5 := Lib.hid h5
    unfold nsL at H5
    simp only [Int.toNat_natCast] at H5 HQ HN
    have c0 := d.head
    obtain ⟨l1a, l1b⟩ := d.labAt x hx
    obtain ⟨l2a, l2b⟩ := d.labAt y hy
    have hxl : (x : Int) < ls.length := by omega
    have hyl : (y : Int) < ls.length := by omega
    have hx4 : (x : Int) < 4 := by omega
    have hy4 : (y : Int) < 4 := by omega
    clear d h1 h2 h5
    go_enter Try.func16, Try.ntmps16
    go_wp2_with fail
    refine (rsthere_any _ HD.out).mono ?_
    rintro e w' ⟨rfl, rfl⟩
    rw [HA.out]
    go_wp2_with fail
    refine (rsthere_any _ HD.out).mono ?_
    rintro e w' ⟨rfl, rfl⟩
    rw [HB.out]
    go_wp2_with fail
    go_still_tail 14, (by kernel_rfl)
    change wpList _ _ _ _ _ w.drew
    go_wp2_with fail
    refine (rldom_any _ _ _ _ _).mono ?_
    rintro e w1 ⟨rfl, b1⟩
    rw [H5.out]
    have d1 := (HD.out.drewN 1).below (w' := w1) b1
    have f1 : Fo (sRS g a V) w w1 := ((Fo.refl _ w).drewN 1).trans (Fo.of b1 _)
    clear l1a l1b l2a l2b b1 c0
  · rw [if_neg (by decide)] at HQ HN
    have D1 := Lib.hid d1; have F1 := Lib.hid f1
    clear d1 f1
    go_wp2_with fail
    go_ret
    exact ⟨rfl, by rw [HQ.out, HN.out]; exact RsL.same D1.out F1.out⟩
  · rw [if_pos trivial] at HQ HN
    have hrow := d1.row y (by omega)
    obtain ⟨A, c, hV, hc⟩ := d1.form y (by omega)
    have h8 := d1.q8 y
    rw [hV] at hrow
    have HV := Lib.hid hV
    have D1 := Lib.hid d1; have F1 := Lib.hid f1
    unfold adQ at HQ
    unfold adD at HN
    by_cases hlt : (Q y).length < 8
    · rw [if_pos hlt] at HQ HN
      have how := d1.que y (by omega)
      rw [hV] at how
      have HOW := Lib.hid how
      have hfz : w1.frozen? ⟨g, 1 + y, none⟩ = false := d1.frozen _
      obtain ⟨q, hq⟩ : ∃ q, Q y = q := ⟨_, rfl⟩
      have HQY := Lib.hid hq
      rw [hq] at hrow hc h8 HOW HV
      rw [hq] at hlt HQ
      obtain ⟨k, hk⟩ : ∃ k, q.length = k := ⟨_, rfl⟩
      have HK := Lib.hid hk
      rw [hk] at hrow hc h8 HOW HV hlt
      have HM : Hid (mcs ⟨(x : Int), s.data.toList⟩ = [.int .i64 x, .string s]) := Lib.hid (by unfold mcs; rw [str_of])
      have hbn := HD.out.blk
      have hrowa : (w1.alloc (.cells #[.int .i64 x, .string s] 41)).cell? ⟨g, 1 + y, none⟩ = some (.slice A k c) := by
        rw [World.cell?_alloc_lt _ _ _ d1.blk.lt]; exact hrow
      obtain ⟨i0, hi, hz0, hz1, hz2⟩ := info_parts infoMs
      have HI := Lib.hid hi; have HZ0 := Lib.hid hz0; have HZ1 := Lib.hid hz1; have HZ2 := Lib.hid hz2
      have H2 : Hid (∀ u ∈ ([.int .i64 x, .string s] : List Value), u.oneCell' = true) := Lib.hid (by intro u hu; simp at hu; rcases hu with rfl | rfl <;> rfl)
      have hlt8 : decide ((8 : Int) ≤ k) = false := by simp; omega
      clear d1 f1 how hV hq hk hi hz0 hz1 hz2 hbn
      go_wp2_with fail
      go_region_law ((refine step_append_lies _ (by rfl) _ _ 46 (by rfl) 0 41 i0 _ 2 24 Try.underlying46 HI.out HZ0.out HZ1.out HZ2.out (by rfl) (by decide) (.slice A k c) k (mss q) (by rfl) (own_drewN (HOW.out.alloc _) 1) ⟨w1.heap.size, 0, none⟩ 1 1 [.int .i64 x, .string s] (by rfl) (by rfl) (by exact row_new w1 [.int .i64 x, .string s] _) H2.out (by omega) (by unfold maxLen; omega) (by omega) (by simp) (w1.heap.size + 1) (by simp) ?_; intro g2 cap2 w2 own2 gr2 hat hlt2; obtain ⟨hc2, hf2⟩ := RS.after D1.out y (by omega) HV.out gr2))
      all_goals
        have HF : Hid (RsL w g a ca V ls (upF Q y (q ++ [⟨(x : Int), s.data.toList⟩])) D (w2.setCell ⟨g, 1 + y, none⟩ (.slice (some ⟨g2, 0, none⟩) (k + 1) cap2))) := Lib.hid (by
          have hl : (q ++ [(⟨(x : Int), s.data.toList⟩ : Ms)]).length = k + 1 := by rw [List.length_append, HK.out]; rfl
          have hgr : w1.grownBy w2 (V y).ownBlock := by
            rw [HV.out]
            exact ⟨gr2.os, gr2.tape, gr2.output, Nat.le_trans (by simp) gr2.size, fun i hi hne => (gr2.block i (by simp; omega) hne).trans (Below.heap_alloc w1 _ i hi)⟩
          refine RsL.put D1.out F1.out y (by omega) _ (by omega) _ (w1 := w2) hgr (by rw [hl, mss_append, mss_one, HM.out]; exact own2) (fun b hb => ?_)
          have e : g2 = b := by simpa [Value.ownBlock] using hb
          subst e
          rcases hat with h | h
          · exact .inl (by rw [HV.out]; exact h)
          · exact .inr (by omega))
        clear own2 gr2 hat hlt2
        go_wp2_with fail
        go_ret
        exact ⟨rfl, by rw [HQ.out, HN.out]; exact HF.out⟩
    · rw [if_neg hlt] at HQ HN
      have hk8 : (Q y).length = 8 := by omega
      rw [hk8] at hrow
      have hd0 := d1.d0 y
      have hdr : w1.drew.cell? ⟨g, 5 + y, none⟩ = some (.int .i64 (D y)) := (d1.drewN 1).drp y (by omega)
      have hdr0 : w1.cell? ⟨g, 5 + y, none⟩ = some (.int .i64 (D y)) := d1.drp y (by omega)
      have hfz : w1.drew.frozen? ⟨g, 5 + y, none⟩ = false := (d1.drewN 1).frozen _
      have HS : Hid (∀ X, 0 ≤ X ∧ X ≤ 65535 → X = min (D y + 1) 65535 → RsL w g a ca V ls Q (iF D y (min (D y + 1) 65535)) (w1.drew.setCell ⟨g, 5 + y, none⟩ (.int .i64 X))) := Lib.hid (fun X hX e => by
        rw [← e]
        exact RsL.same ((D1.out.drewN 1).setD y (by omega) X hX) ((F1.out.drewN 1).set (.inl (.inl rfl)) _))
      clear d1 f1 hV hlt h8
      generalize D y = dy at *
      go_wp2_with fail
      go_still_tail 13, (by kernel_rfl)
      all_goals
        change wpList _ _ _ _ _ w1.drew
        clear hdr0
        generalize w1.drew = wd at *
        go_wp2_with fail
        go_ret
        exact ⟨rfl, by rw [HQ.out, HN.out]; exact HS.out _ (by omega) (by omega)⟩
end

end Go.Proofs.Ytfkdohnpfjdehaa
