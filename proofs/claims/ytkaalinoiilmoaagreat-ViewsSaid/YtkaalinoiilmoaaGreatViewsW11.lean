/-
  What the proofs lean on: contracts of the program's functions, plain facts.
-/
import Derived.Laws.EntriesVeiled
import Derived.Test.YtkaalinoiilmoaaGreatViewsW8
import Derived.Test.YtkaalinoiilmoaaGreatViewsW5
import Derived.Deep.AppendLies
import Derived.Laws.MakeOwn
import Derived.Test.YtkaalinoiilmoaaGreatChecked
import Derived.Test.YtkaalinoiilmoaaGreatViewsW1
import Derived.Laws.OwnMore
namespace Go.Proofs.YtkaalinoiilmoaaGreat
open Go.RowKit
set_option linter.unusedVariables false
set_option linter.unusedSimpArgs false
set_option maxRecDepth 100000
structure FdW (w0 : World) (c : Cf) (vp vd vw vg : Value) (gF gc gf : Nat) (F : Nat → Bool) (w : World) : Prop where
  fb : Blk w gF 60 (bitc F 4)
  cb : Blk w gc 27 (cfc c vp vd vw vg)
  vb : Blk w gf 91 [.func (.func 48) #[] #[.pointer (some ⟨gF, 0, none⟩), .pointer (some ⟨gc, 0, none⟩), .pointer (some ⟨gf, 0, none⟩)]]
  gF : w0.heap.size ≤ gF
  below : Below w0.heap.size w0 w
section
variable {w0 w w' : World} {c : Cf} {vp vd vw vg : Value} {gF gc gf : Nat} {F : Nat → Bool}
theorem FdW.next (h : FdW w0 c vp vd vw vg gF gc gf F w) (hb : Below w.heap.size w w') : FdW w0 c vp vd vw vg gF gc gf F w' :=
  ⟨h.fb.below hb h.fb.lt, h.cb.below hb h.cb.lt, h.vb.below hb h.vb.lt, h.gF, Below.down h.below hb h.below.size⟩
theorem FdW.put (h : FdW w0 c vp vd vw vg gF gc gf F w) (p : Nat) : FdW w0 c vp vd vw vg gF gc gf (bitF F p true) (w.setCell ⟨gF, p, none⟩ (.bool true)) :=
  ⟨by have := h.fb.set p (.bool true); rwa [bitc_set] at this, h.cb.far (h.cb.apart h.fb (by decide)) _, h.vb.far (h.vb.apart h.fb (by decide)) _, h.gF, h.below.setCell h.gF _⟩
set_option maxHeartbeats 1000000 in
theorem vfind_any (hc : CfAt w0 vp vd vw vg c) (h4 : c.ps.length ≤ 4) : ∀ (m : Nat) (F : Nat → Bool) (p : Nat) (w : World), unf c.ps.length F ≤ m → F p = false → p < c.ps.length → FdW w0 c vp vd vw vg gF gc gf F w →
    Calls Tryz.prog 48 #[.int .i64 (p : Int), .pointer (some ⟨gF, 0, none⟩), .pointer (some ⟨gc, 0, none⟩), .pointer (some ⟨gf, 0, none⟩)] w fun e w' => e = .returned (.tuple #[]) ∧ ∃ F', Fd (dN c) c.ps.length p F F' ∧ FdW w0 c vp vd vw vg gF gc gf F' w' := by
  intro m
  induction m with
  | zero => intro F p w hm hf hp _; have := unf_lt hp hf; omega
  | succ m ih =>
    intro F p w hm hf hp h
    obtain ⟨A, cap, hvp, _⟩ := hc.ps
    have HD := Lib.hid (fun (W : World) (hW : Below w0.heap.size w0 W) (i : Nat) (hi : i < c.ps.length) => vdirect_any (hc.below hW) i p hi hp)
    have HI := Lib.hid (fun (G : Nat → Bool) (hm : unf c.ps.length G ≤ m) => ih G)
    have h1 := h.put p
    have hfw := Fw.start (d := dN c) (n := c.ps.length) (p := p) (F := F)
    have hu : unf c.ps.length (bitF F p true) ≤ m := by have := unf_lt hp hf; omega
    have f0 := h.fb.frozen p
    have hp4 : (p : Int) < 4 := by omega
    have HP := Lib.hid hp; have H1 := Lib.hid h1; have HFW := Lib.hid hfw; have HU := Lib.hid hu
    have c0 := (h.fb.cell p).trans (bitc_get F 4 p (by omega))
    have c1 : (w.setCell ⟨gF, p, none⟩ (.bool true)).cell? ⟨gc, 1, none⟩ = some vp := (h1.cb.cell 1).trans rfl
    subst hvp
    clear hm hf h ih h1 hfw hu hc
    generalize hn : c.ps.length = n at *
    go_enter Tryz.func48, Tryz.ntmps48
    go_wp2_with fail
    generalize w.setCell ⟨gF, p, none⟩ (.bool true) = w1 at *
    clear c0 c1 f0
    go_loopw [11, 5] (fun i v wr => ∃ k : Nat, k ≤ n ∧ i = .int .i64 k ∧ Hid (∃ G, unf n G ≤ m ∧ Fw (dN c) n p k F G ∧ FdW w0 c (.slice A n cap) vd vw vg gF gc gf G wr)) (fun i _ _ => n - (intOf i).toNat)
    case atStart => exact ⟨0, by omega, rfl, Lib.hid ⟨_, HU.out, HFW.out, H1.out⟩⟩
    case round =>
      obtain ⟨k, hk, rfl, HX⟩ := hrel
      by_cases hlt : k < n
      · obtain ⟨G, hu, hw, hS⟩ := HX.out
        have k0 := (hS.fb.cell k).trans (bitc_get G 4 k (by omega))
        have hk4 : (k : Int) < 4 := by omega
        obtain ⟨q0, q1, q2, q3, q4, q5, q6, q7, q8⟩ := cf_at hS.cb
        have HC := Lib.hid (HD.out wr hS.below k hlt)
        have HU2 := Lib.hid hu; have HW := Lib.hid hw; have HS := Lib.hid hS
        clear hu hw hS
        cases hg : G k with
        | true =>
          rw [hg] at k0
          have HG := Lib.hid hg
          clear hg
          go_wp2_with fail
          go_roundw
          case rel => exact ⟨k + 1, by omega, by go_num, Lib.hid ⟨_, HU2.out, HW.out.skip (fun _ => HG.out), HS.out⟩⟩
          case measure => simp [intOf]; omega
        | false =>
          rw [hg] at k0
          have HG := Lib.hid hg
          clear hg
          go_wp2_with fail
          refine HC.out.mono ?_
          rintro e w2 ⟨rfl, b2⟩
          have HS2 := Lib.hid (HS.out.next b2)
          have q9 := (HS2.out.vb.cell 0).trans rfl
          clear b2
          cases hd : dN c k p with
          | false =>
            have HDD := Lib.hid hd
            clear hd q9
            go_wp2_with fail
            go_roundw
            case rel => exact ⟨k + 1, by omega, by go_num, Lib.hid ⟨_, HU2.out, HW.out.skip (fun h => by rw [HDD.out] at h; cases h), HS2.out⟩⟩
            case measure => simp [intOf]; omega
          | true =>
            have HDD := Lib.hid hd
            clear hd
            go_wp2_with fail
            refine (HI.out G HU2.out k w2 HU2.out HG.out hlt HS2.out).mono ?_
            rintro e w3 ⟨rfl, G', hf, hS3⟩
            have HF := Lib.hid hf; have HS3 := Lib.hid hS3
            clear hf hS3
            go_wp2_with fail
            go_roundw
            case rel => exact ⟨k + 1, by omega, by go_num, Lib.hid ⟨_, Nat.le_trans (unf_le HF.out.mono) HU2.out, HW.out.call HP.out HDD.out HF.out, HS3.out⟩⟩
            case measure => simp [intOf]; omega
      · obtain rfl : k = n := by omega
        go_wp2_with fail
        go_end0
        obtain ⟨G, hu, hw, hS⟩ := HX.out
        exact ⟨rfl, G, hw.end_ HP.out, hS⟩
end
theorem FdW.start (w : World) (c : Cf) (vp vd vw vg : Value) : FdW w c vp vd vw vg (w.heap.size + 1) w.heap.size (w.heap.size + 1 + 1) noB
    (((w.alloc (.cells #[.int .i64 c.fr, vp, vd, .int .i64 c.mj, vw, vg, .int .i64 c.se, .int .i64 c.qu, .int .i64 c.qt] 27)).alloc (.cells #[.bool false, .bool false, .bool false, .bool false] 60)).alloc
      (.cells #[.func (.func 48) #[] #[.pointer (some ⟨w.heap.size + 1, 0, none⟩), .pointer (some ⟨w.heap.size, 0, none⟩), .pointer (some ⟨w.heap.size + 1 + 1, 0, none⟩)]] 91)) := by
  have b1 : Below w.heap.size w (w.alloc (.cells #[.int .i64 c.fr, vp, vd, .int .i64 c.mj, vw, vg, .int .i64 c.se, .int .i64 c.qu, .int .i64 c.qt] 27)) := (Below.refl _ _).alloc (Nat.le_refl _) _
  have k0 : Blk (w.alloc (.cells #[.int .i64 c.fr, vp, vd, .int .i64 c.mj, vw, vg, .int .i64 c.se, .int .i64 c.qu, .int .i64 c.qt] 27)) w.heap.size 27 (cfc c vp vd vw vg) := Blk.new w _ (cfc c vp vd vw vg)
  have hs : (w.alloc (.cells #[.int .i64 c.fr, vp, vd, .int .i64 c.mj, vw, vg, .int .i64 c.se, .int .i64 c.qu, .int .i64 c.qt] 27)).heap.size = w.heap.size + 1 := World.size_alloc _ _
  generalize w.alloc (.cells #[.int .i64 c.fr, vp, vd, .int .i64 c.mj, vw, vg, .int .i64 c.se, .int .i64 c.qu, .int .i64 c.qt] 27) = w1 at *
  have b2 : Below w.heap.size w (w1.alloc (.cells #[.bool false, .bool false, .bool false, .bool false] 60)) := b1.alloc b1.size _
  have k1 : Blk (w1.alloc (.cells #[.bool false, .bool false, .bool false, .bool false] 60)) (w.heap.size + 1) 60 (bitc noB 4) := by rw [← hs]; exact Blk.new w1 _ (bitc noB 4)
  have k01 := k0.alloc (.cells #[.bool false, .bool false, .bool false, .bool false] 60)
  have hs2 : (w1.alloc (.cells #[.bool false, .bool false, .bool false, .bool false] 60)).heap.size = w.heap.size + 1 + 1 := by rw [World.size_alloc, hs]
  generalize w1.alloc (.cells #[.bool false, .bool false, .bool false, .bool false] 60) = w2 at *
  have hn := Blk.new w2 91 [.func (.func 48) #[] #[.pointer (some ⟨w.heap.size + 1, 0, none⟩), .pointer (some ⟨w.heap.size, 0, none⟩), .pointer (some ⟨w.heap.size + 1 + 1, 0, none⟩)]]
  rw [hs2] at hn
  exact ⟨k1.alloc _, k01.alloc _, hn, by omega, b2.alloc b2.size _⟩
theorem FdW.tk {w w' : World} {c : Cf} {vp vd vw vg : Value} {gF gc gf : Nat} {F : Nat → Bool} (h : FdW w c vp vd vw vg gF gc gf F w') (hg : w.heap.size ≤ gc) :
    Tk nos w [obB gc 27 (cfc c vp vd vw vg), obB gF 60 (bitc F 4)] w' := by
  have hne : gc ≠ gF := h.cb.apart h.fb (by decide)
  have hF := h.gF
  refine ⟨fun k => k = gc ∨ (k = gF ∨ nos k), ⟨fun k => k = gc, fun k => k = gF ∨ nos k, ⟨h.cb, fun _ => Iff.rfl⟩, ⟨fun k => k = gF, nos, ⟨h.fb, fun _ => Iff.rfl⟩, fun _ => id, fun _ _ h => h, fun _ => Iff.rfl⟩, fun k a b => ?_, fun _ => Iff.rfl⟩, fun k hk hS => ?_, Fo.of h.below nos⟩
  · rcases b with b | b
    · exact hne (a.symm.trans b)
    · exact b
  · rcases hS with a | a | a
    · omega
    · omega
    · exact a
def flV (gc gF : Nat) : Value := .func (.func 50) #[] #[.pointer (some ⟨gc, 0, none⟩), .pointer (some ⟨gF, 0, none⟩)]
section
variable {w : World} {c : Cf} {vp vd vw vg : Value}
theorem vflowsto_any (hc : CfAt w vp vd vw vg c) (h4 : c.ps.length ≤ 4) (p : Nat) (hp : p < c.ps.length) :
    Calls Tryz.prog 27 #[.agg #[.int .i64 c.fr, vp, vd, .int .i64 c.mj, vw, vg, .int .i64 c.se, .int .i64 c.qu, .int .i64 c.qt], .int .i64 (p : Int)] w fun e w' => ∃ gc gF, e = .returned (flV gc gF) ∧
      Tk nos w [obB gc 27 (cfc c vp vd vw vg), obB gF 60 (bitc (fun i => FL c i p) 4)] w' := by
  have HF := Lib.hid (fun (W : World) (a b g : Nat) => vfind_any (gc := a) (gF := b) (gf := g) hc h4 c.ps.length noB p W (by unfold unf; exact Nat.le_trans (List.length_filter_le _ _) (by rw [List.length_range]; exact Nat.le_refl _)) rfl hp)
  have HP := Lib.hid hp
  clear hc h4
  go_enter Tryz.func27, Tryz.ntmps27
  go_wp2_with fail
  refine (HF.out _ _ _ _ (FdW.start w c vp vd vw vg)).mono ?_
  rintro e w4 ⟨rfl, F', hf, hS⟩
  rw [found_FL hf] at hS
  have HT := Lib.hid (hS.tk (Nat.le_refl _))
  clear hf hS
  go_wp2_with fail
  go_ret
  exact ⟨_, _, rfl, HT.out⟩
theorem vflow2_any (hc : CfAt w vp vd vw vg c) (h4 : c.ps.length ≤ 4) (p : Nat) (gc gF : Nat) (hb : Blk w gc 27 (cfc c vp vd vw vg)) (hf : Blk w gF 60 (bitc (fun i => FL c i p) 4)) (x : Int) :
    Calls Tryz.prog 50 #[.int .i64 x, .pointer (some ⟨gc, 0, none⟩), .pointer (some ⟨gF, 0, none⟩)] w fun e w' => e = .returned (.bool (flI c x p)) ∧ Below w.heap.size w w' := by
  obtain ⟨q0, q1, q2, q3, q4, q5, q6, q7, q8⟩ := cf_at hb
  have HH := Lib.hid (vhaspart_any hc x)
  cases hx : inP c.ps.length x with
  | false =>
    have HR := Lib.hid (show flI c x p = false by unfold flI; rw [hx]; rfl)
    rw [hx] at HH
    clear hb hf hc hx
    go_enter Tryz.func50, Tryz.ntmps50
    go_wp2_with fail
    refine HH.out.mono ?_
    rintro e w1 ⟨rfl, b1⟩
    have HB := Lib.hid b1
    clear b1
    go_wp2_with fail
    go_ret
    exact ⟨by rw [HR.out]; rfl, HB.out⟩
  | true =>
    obtain ⟨k, rfl, hx2⟩ := (inP_iff _ _).1 hx
    have hk4 : (k : Int) < 4 := by omega
    have HR := Lib.hid (show flI c k p = FL c k p by unfold flI; rw [hx]; simp)
    rw [hx] at HH
    have HBF := Lib.hid hf
    clear hb hf hc hx hx2
    go_enter Tryz.func50, Tryz.ntmps50
    go_wp2_with fail
    refine HH.out.mono ?_
    rintro e w1 ⟨rfl, b1⟩
    have k0 := ((HBF.out.below b1 HBF.out.lt).cell k).trans (bitc_get (fun i => FL c i p) 4 k (by omega))
    have HB := Lib.hid b1
    clear b1
    go_wp2_with fail
    go_ret
    exact ⟨by rw [HR.out]; rfl, HB.out⟩
theorem cfMay_n {c : Cf} (h : cfMay c = true) : 1 ≤ c.ps.length ∧ c.ps.length ≤ 4 ∧ 1 ≤ c.ds.length ∧ c.ds.length ≤ 4 := by
  unfold cfMay psB dsB at h
  simp only [Bool.and_eq_true, btw_iff] at h
  omega
theorem vflows_any (hc : CfAt w vp vd vw vg c) (x y : Int) :
    Calls Tryz.prog 10 #[.agg #[.int .i64 c.fr, vp, vd, .int .i64 c.mj, vw, vg, .int .i64 c.se, .int .i64 c.qu, .int .i64 c.qt], .int .i64 x, .int .i64 y] w fun e w' => e = .returned (.bool (flB c x y)) ∧ Below w.heap.size w w' := by
  obtain ⟨hb, hB⟩ := cf_box w c vp vd vw vg
  have HBB := Lib.hid hb; have HB := Lib.hid hB; have HA := Lib.hid (hc.below hB)
  obtain ⟨q0, q1, q2, q3, q4, q5, q6, q7, q8⟩ := cf_at hb
  clear hb hB hc
  have HM := Lib.hid (cmay_any HA.out)
  cases hm : cfMay c with
  | false =>
    have HR := Lib.hid (show flB c x y = false by unfold flB; rw [hm]; rfl)
    rw [hm] at HM
    clear hm
    go_enter Tryz.func10, Tryz.ntmps10
    go_wp2_with fail
    refine HM.out.mono ?_
    rintro e w1 ⟨rfl, b1⟩
    have HB1 := Lib.hid b1
    clear b1
    go_wp2_with fail
    go_ret
    exact ⟨by rw [HR.out]; rfl, Below.down HB.out HB1.out HB.out.size⟩
  | true =>
    have HN := Lib.hid (cfMay_n hm)
    rw [hm] at HM
    cases hy : inP c.ps.length y with
    | false =>
      have HR := Lib.hid (show flB c x y = false by unfold flB; rw [hm, hy]; rfl)
      have HH := Lib.hid (fun W hW => (vhaspart_any (w := W) (HA.out.below hW) y))
      rw [hy] at HH
      clear hm hy
      go_enter Tryz.func10, Tryz.ntmps10
      go_wp2_with fail
      generalize w.alloc (.cells #[.int .i64 c.fr, vp, vd, .int .i64 c.mj, vw, vg, .int .i64 c.se, .int .i64 c.qu, .int .i64 c.qt] 27) = w0 at *
      refine HM.out.mono ?_
      rintro e w1 ⟨rfl, b1⟩
      obtain ⟨q0, q1, q2, q3, q4, q5, q6, q7, q8⟩ := cf_at (HBB.out.below b1 HBB.out.lt)
      have HB1 := Lib.hid b1
      clear b1
      go_wp2_with fail
      refine (HH.out w1 HB1.out).mono ?_
      rintro e w2 ⟨rfl, b2⟩
      have HB2 := Lib.hid (Below.down HB1.out b2 HB1.out.size)
      clear b2
      go_wp2_with fail
      go_ret
      exact ⟨by rw [HR.out]; rfl, Below.down HB.out HB2.out HB.out.size⟩
    | true =>
      obtain ⟨p, rfl, hp⟩ := (inP_iff _ _).1 hy
      have HR := Lib.hid (show flB c x (p : Int) = flI c x p by unfold flB; rw [hm, hy]; simp)
      have HH := Lib.hid (fun W hW => (vhaspart_any (w := W) (HA.out.below hW) (p : Int)))
      rw [hy] at HH
      have HP := Lib.hid hp
      clear hm hy hp
      go_enter Tryz.func10, Tryz.ntmps10
      go_wp2_with fail
      generalize w.alloc (.cells #[.int .i64 c.fr, vp, vd, .int .i64 c.mj, vw, vg, .int .i64 c.se, .int .i64 c.qu, .int .i64 c.qt] 27) = w0 at *
      refine HM.out.mono ?_
      rintro e w1 ⟨rfl, b1⟩
      obtain ⟨q0, q1, q2, q3, q4, q5, q6, q7, q8⟩ := cf_at (HBB.out.below b1 HBB.out.lt)
      have HB1 := Lib.hid b1
      clear b1
      go_wp2_with fail
      refine (HH.out w1 HB1.out).mono ?_
      rintro e w2 ⟨rfl, b2⟩
      have HB2 := Lib.hid (Below.down HB1.out b2 HB1.out.size)
      clear b2 q0 q1 q2 q3 q4 q5 q6 q7 q8
      obtain ⟨q0, q1, q2, q3, q4, q5, q6, q7, q8⟩ := cf_at (HBB.out.below HB2.out HBB.out.lt)
      go_wp2_with fail
      refine (vflowsto_any (HA.out.below HB2.out) HN.out.2.1 p HP.out).mono ?_
      rintro e w3 ⟨gc, gF, rfl, t3⟩
      have HT := Lib.hid t3
      have HB3 := Lib.hid (Below.down HB2.out t3.below HB2.out.size)
      clear t3
      unfold flV
      go_wp2_with fail
      refine (vflow2_any (HA.out.below HB3.out) HN.out.2.1 p gc gF (HT.out.blk (i := 0) rfl) (HT.out.blk (i := 1) rfl) x).mono ?_
      rintro e w4 ⟨rfl, b4⟩
      have HB4 := Lib.hid (Below.down HB3.out b4 HB3.out.size)
      clear b4
      go_wp2_with fail
      go_ret
      exact ⟨by rw [HR.out]; rfl, Below.down HB.out HB4.out HB.out.size⟩
end
end Go.Proofs.YtkaalinoiilmoaaGreat
namespace Go.Proofs.YtkaalinoiilmoaaGreat
open Go.RowKit Go.ChangeMaps
set_option linter.unusedVariables false
set_option linter.unusedSimpArgs false
set_option maxRecDepth 100000
section
variable {w : World} {c : Cf} {vp vd vw vg : Value}
theorem cfMay_q {c : Cf} (h : cfMay c = true) : 1 ≤ c.qt ∧ c.qt ≤ 8 := by
  unfold cfMay qtB at h
  simp only [Bool.and_eq_true, btw_iff] at h
  omega
theorem cfMay_dv {c : Cf} (h : cfMay c = true) : ∀ j, j < c.ds.length → adB c.ps.length ((c.ds.map (·.pt)).getD j 0) = true := by
  unfold cfMay dsB at h
  simp only [Bool.and_eq_true] at h
  have h2 := h.2.2.1.2
  rw [List.all_eq_true] at h2
  intro j hj
  have h3 := h2 _ (List.getElem_mem hj)
  unfold dvB_Cf0 at h3
  rw [Bool.and_eq_true] at h3
  have h4 := h3.1
  simpa [List.getD, List.getElem?_map, List.getElem?_eq_getElem hj, adB, inP] using h4
set_option maxHeartbeats 2000000 in
theorem vdevs_any (hc : CfAt w vp vd vw vg c) (hm : cfMay c = true) :
    Calls Tryz.prog 36 #[.agg #[.int .i64 c.fr, vp, vd, .int .i64 c.mj, vw, vg, .int .i64 c.se, .int .i64 c.qu, .int .i64 c.qt]] w fun e w' => ∃ g, e = .returned (.pointer (some ⟨g, 0, none⟩)) ∧ Tk nos w [obPA g c.qt.toNat c.ps.length c.ds.length (zO (c.ds.map (·.pt)) c.ds.length) noN] w' := by
  obtain ⟨i0, hi, hz0, hz1, hz2⟩ := info_parts infoIntA
  have HI := Lib.hid hi; have HZ0 := Lib.hid hz0; have HZ1 := Lib.hid hz1; have HZ2 := Lib.hid hz2
  clear hi hz0 hz1 hz2
  obtain ⟨p1, p4, d1, d4⟩ := cfMay_n hm
  obtain ⟨u1, u8⟩ := cfMay_q hm
  have hdv := Lib.hid (cfMay_dv hm)
  obtain ⟨Ap, cap, rfl, _⟩ := hc.ps
  obtain ⟨A, cad, b, o, sv, rfl, hA, hr⟩ := hc.ds.rows
  obtain ⟨rfl, hb⟩ := hA (by omega)
  have HR := Lib.hid (fun i hi => And.intro (hr i hi).1 (show ∃ A2 n2 c2, sv i = .slice A2 n2 c2 by obtain ⟨A2, c2, e, _⟩ := (hr i hi).2; exact ⟨_, _, _, e⟩))
  clear hr hA hm
  have hk : Blk (w.alloc (.cells #[.int .i64 c.fr, .slice Ap c.ps.length cap, .slice (some ⟨b, o, none⟩) c.ds.length cad, .int .i64 c.mj, vw, vg, .int .i64 c.se, .int .i64 c.qu, .int .i64 c.qt] 27)) w.heap.size 27 (cfc c (.slice Ap c.ps.length cap) (.slice (some ⟨b, o, none⟩) c.ds.length cad) vw vg) := (cf_box w c _ _ vw vg).1
  have T0 : Hid (Tk nos w [obJ (.slice none 0 0) ((c.ds.map (·.pt)).take 0), obB w.heap.size 27 (cfc c (.slice Ap c.ps.length cap) (.slice (some ⟨b, o, none⟩) c.ds.length cad) vw vg)] (w.alloc (.cells #[.int .i64 c.fr, .slice Ap c.ps.length cap, .slice (some ⟨b, o, none⟩) c.ds.length cad, .int .i64 c.mj, vw, vg, .int .i64 c.se, .int .i64 c.qu, .int .i64 c.qt] 27))) := Lib.hid
    (((Tk.empty w).alloc 27 (cfc c (.slice Ap c.ps.length cap) (.slice (some ⟨b, o, none⟩) c.ds.length cad) vw vg)).addR (v := .slice none 0 0) (n := 0) (xs := []) (Below.refl _ _) (World.ownsRow_nil _ _ _ _))
  have HL := Lib.hid (show (c.ds.map (·.pt)).length = c.ds.length by simp)
  have HE := Lib.hid (fun k (h : k < c.ds.length) => show (c.ds.map (·.pt)).take (k + 1) = (c.ds.map (·.pt)).take k ++ [(c.ds.getD k deD).pt] by
    rw [List.take_succ_eq_append_getElem (by simpa using h)]; simp [List.getD, List.getElem?_eq_getElem h])
  obtain ⟨q0, q1, q2, q3, q4, q5, q6, q7, q8⟩ := cf_at hk
  obtain ⟨U, hU⟩ : ∃ U : Nat, c.qt = U := ⟨c.qt.toNat, by omega⟩
  have HUq := Lib.hid hU
  clear hk hc hU
  generalize c.ds.map (·.pt) = P at *
  go_enter Tryz.func36, Tryz.ntmps36
  go_wp2_with fail
  generalize w.alloc (.cells #[.int .i64 c.fr, .slice Ap c.ps.length cap, .slice (some ⟨b, o, none⟩) c.ds.length cad, .int .i64 c.mj, vw, vg, .int .i64 c.se, .int .i64 c.qu, .int .i64 c.qt] 27) = w1 at *
  have HB := Lib.hid hb
  clear hb
  generalize hd : c.ds.length = D at *
  have HD := Lib.hid hd
  clear hd
  generalize hy : w.heap.size = y at *
  have HY := Lib.hid hy
  clear hy q0 q1 q2 q3 q4 q5 q6 q7 q8
  go_loopw [3, 11, 5] (fun v i d wr => ∃ (k : Nat), k ≤ D ∧ i = .int .i64 k ∧ d = d ∧ Hid (Tk nos w [obJ v (P.take k), obB y 27 (cfc c (.slice Ap c.ps.length cap) (.slice (some ⟨b, o, none⟩) D cad) vw vg)] wr)) (fun _ i _ _ => 4 - (intOf i).toNat)
  case atStart => exact ⟨0, by omega, rfl, rfl, T0⟩
  case round =>
    clear T0
    obtain ⟨k, hkD, rfl, -, HT⟩ := hrel
    by_cases hlt : k < D
    · have hltI : (k : Int) < D := by omega
      have hbel := HT.out.below
      have hsz := hbel.size
      have r0 := (hbel.cell (p := ⟨b, o + k * 2, none⟩) (by rw [HY.out]; exact HB.out)).trans (HR.out k hlt).1.1
      have r1 := (hbel.cell (p := ⟨b, o + k * 2 + 1, none⟩) (by rw [HY.out]; exact HB.out)).trans (HR.out k hlt).1.2
      obtain ⟨A2, n2, c2, hsk⟩ := (HR.out k hlt).2
      rw [hsk] at r1
      have HEk := Lib.hid (HE.out k hlt)
      have t1 := HT.out.alloc 46 [.int .i64 (c.ds.getD k deD).pt, .slice A2 n2 c2]
      have hlen : (P.take k).length ≤ 4 := by rw [List.length_take]; omega
      generalize (c.ds.getD k deD).pt = pt at *
      clear hsk
      have c0 := ((t1.blk (i := 0) rfl).cell 0).trans rfl
      have T1 := Lib.hid t1
      clear t1 hbel hsz
      generalize hlk : P.take k = lk at *
      clear hlk
      go_upto_region 5 with fail
      generalize wr.alloc (.cells #[.int .i64 pt, .slice A2 n2 c2] 46) = w4 at *
      have BL := Lib.hid (show Below w4.heap.size w4 (w4.alloc (.cells #[.int .i64 pt] 3)) from (Below.refl _ _).alloc (Nat.le_refl _) _)
      go_wp2_with (at_builtin; refine wpList_append_lies _ rfl _ _ 44 rfl 0 3 i0 _ 1 8 Tryz.underlying44 HI.out HZ0.out HZ1.out HZ2.out rfl (by decide) u3 lk.length (ints lk) rfl (own_below (T1.out.row (i := 1) rfl) BL.out) ⟨w4.heap.size, 0, none⟩ 1 1 [.int .i64 pt] rfl rfl (row_new w4 [.int .i64 pt] 3) (int1A pt) (by omega) (by unfold maxLen; omega) (by omega) (by omega) _ rfl ?_)
      intro gg cap6 w6 own6 gr6 hat6 hlt6
      have t5 := T1.out.next BL.out
      have t6 : Tk nos w [obB wr.heap.size 46 [.int .i64 pt, .slice A2 n2 c2], obJ (.slice (some ⟨gg, 0, none⟩) (lk.length + 1) cap6) (P.take (k + 1)), obB y 27 (cfc c (.slice Ap c.ps.length cap) (.slice (some ⟨b, o, none⟩) D cad) vw vg)] w6 := by
        refine t5.turnR (i := 1) rfl gr6 (by rw [HEk.out, ints_append, List.length_append]; exact own6) (fun x hx => ?_)
        have e : gg = x := by simpa [Value.ownBlock] using hx
        subst e
        rcases hat6 with h | h
        · exact .inl h
        · exact .inr (by simp at h ⊢; omega)
      have T6 := Lib.hid t6.tail
      clear own6 gr6 hat6 hlt6 t5 t6 r0 r1 c0
      go_wp2_with fail
      go_roundw
      case rel => exact ⟨k + 1, by omega, by go_num, trivial, T6⟩
      case measure => simp [intOf]; omega
    · obtain rfl : k = D := by omega
      obtain ⟨q0, q1, q2, q3, q4, q5, q6, q7, q8⟩ := cf_at (HT.out.blk (i := 1) rfl)
      go_wp2_with fail
      rw [HUq.out]
      have hP : P.take k = P := List.take_of_length_le (by rw [HL.out]; omega)
      rw [hP] at HT
      have hkP := HL.out
      have hS := HT.out.sl (i := 0) rfl
      refine (anew_yes U c.ps.length u3 k P wr (by rw [← hkP]; exact hS) (by have := HUq.out; omega) (by have := HUq.out; omega) p1 p4 d1 d4 hdv.out).mono ?_
      rintro e w5 ⟨g, rfl, t5⟩
      have T5 := Lib.hid ((HT.out.add t5).sub (List.Sublist.cons_cons _ (List.nil_sublist _)) : Tk nos w [obPA g U c.ps.length k (zO P k) noN] w5)
      clear hS t5 hkP hP q0 q1 q2 q3 q4 q5 q6 q7 q8
      go_wp2_with fail
      go_ret
      exact ⟨g, rfl, by rw [HUq.out, HD.out]; exact T5.out⟩
end
end Go.Proofs.YtkaalinoiilmoaaGreat
namespace Go.Proofs.YtkaalinoiilmoaaGreat
open Go.RowKit Go.ChangeMaps
set_option linter.unusedVariables false
set_option linter.unusedSimpArgs false
set_option maxRecDepth 100000
structure HI where
  gt : Nat
  gd : Nat
  gl : Nat
  gc : Nat
  gF : Nat
  g : Nat
  vp : Value
  vd : Value
  vw : Value
  vg : Value
def heV (i : HI) : Value := .func (.func 37) #[] #[.pointer (some ⟨i.gt, 0, none⟩), .pointer (some ⟨i.gd, 0, none⟩), .pointer (some ⟨i.gl, 0, none⟩)]
noncomputable def hO (i : HI) (c : Cf) (p : Nat) (h : Hs) (os : List Ob) : List Ob :=
  obB i.gt 3 [.int .i64 h.t] :: obB i.gd 76 [.pointer (some ⟨i.g, 0, none⟩)] :: obB i.gl 55 [flV i.gc i.gF] ::
  obB i.gc 27 (cfc c i.vp i.vd i.vw i.vg) :: obB i.gF 60 (bitc (fun i => FL c i p) 4) :: obPA i.g c.qt.toNat c.ps.length c.ds.length h.O h.L :: os
section
variable {w : World} {c : Cf} {vp vd vw vg : Value}
theorem vhearing_any (hc : CfAt w vp vd vw vg c) (hm : cfMay c = true) (p : Nat) (hp : p < c.ps.length) :
    Calls Tryz.prog 20 #[.agg #[.int .i64 c.fr, vp, vd, .int .i64 c.mj, vw, vg, .int .i64 c.se, .int .i64 c.qu, .int .i64 c.qt], .int .i64 (p : Int)] w fun e w' => ∃ i : HI, e = .returned (heV i) ∧ (i.vp = vp ∧ i.vd = vd ∧ i.vw = vw ∧ i.vg = vg) ∧ Tk nos w (hO i c p (hsNew c) []) w' := by
  obtain ⟨hb, hB⟩ := cf_box w c vp vd vw vg
  have HBB := Lib.hid hb; have HB := Lib.hid hB; have HA := Lib.hid (hc.below hB)
  have HM := Lib.hid hm; have HP := Lib.hid hp; have HN := Lib.hid (cfMay_n hm)
  obtain ⟨q0, q1, q2, q3, q4, q5, q6, q7, q8⟩ := cf_at hb
  clear hb hB hc hm hp
  go_enter Tryz.func20, Tryz.ntmps20
  go_wp2_with fail
  generalize w.alloc (.cells #[.int .i64 c.fr, vp, vd, .int .i64 c.mj, vw, vg, .int .i64 c.se, .int .i64 c.qu, .int .i64 c.qt] 27) = w1 at *
  refine (vflowsto_any HA.out HN.out.2.1 p HP.out).mono ?_
  rintro e w2 ⟨gc, gF, rfl, t2⟩
  have t3 := t2.alloc 55 [flV gc gF]
  have T3 := Lib.hid t3
  have c3 := cf_at (HBB.out.below t3.below HBB.out.lt)
  clear t2 t3 q0 q1 q2 q3 q4 q5 q6 q7 q8
  obtain ⟨q0, q1, q2, q3, q4, q5, q6, q7, q8⟩ := c3
  unfold flV at *
  go_wp2_with fail
  generalize w2.alloc (.cells #[.func (.func 50) #[] #[.pointer (some ⟨gc, 0, none⟩), .pointer (some ⟨gF, 0, none⟩)]] 55) = w3 at *
  generalize w2.heap.size = gl at *
  refine (vdevs_any (HA.out.below T3.out.below) HM.out).mono ?_
  rintro e w4 ⟨g, rfl, t4⟩
  have t5 := ((T3.out.add t4).alloc 76 [.pointer (some ⟨g, 0, none⟩)])
  have t6 := t5.alloc 3 [.int .i64 0]
  have T6 := Lib.hid t6
  clear t4 t5 t6 q0 q1 q2 q3 q4 q5 q6 q7 q8 T3
  go_wp2_with fail
  go_ret
  refine ⟨⟨_, _, gl, gc, gF, g, vp, vd, vw, vg⟩, rfl, ⟨rfl, rfl, rfl, rfl⟩, ?_⟩
  have t7 := ((Tk.empty w).next HB.out).add (T6.out.perm (.cons _ (.cons _ (List.perm_append_comm (l₁ := [obPA g c.qt.toNat c.ps.length c.ds.length (zO (c.ds.map (·.pt)) c.ds.length) noN])))))
  simp only [World.size_alloc] at t7
  exact t7
end
theorem stp_cells {w : World} {b : Nat} {x : Stp} (h : Blk w b 48 (stc x)) : w.cell? ⟨b, 0, none⟩ = some (.int .i64 x.k) ∧ w.cell? ⟨b, 1, none⟩ = some (.int .i64 x.p) ∧ w.cell? ⟨b, 2, none⟩ = some (.int .i64 x.d) ∧ w.cell? ⟨b, 3, none⟩ = some (.int .i64 x.a) ∧ w.cell? ⟨b, 4, none⟩ = some (.int .i64 x.b) ∧ w.cell? ⟨b, 5, none⟩ = some (.int .i64 x.c) ∧ w.cell? ⟨b, 6, none⟩ = some (.string x.s) := by
  have e : ∀ k, w.cell? ⟨b, k, none⟩ = (stc x)[k]? := fun k => h.cell k
  exact ⟨(e 0).trans rfl, (e 1).trans rfl, (e 2).trans rfl, (e 3).trans rfl, (e 4).trans rfl, (e 5).trans rfl, (e 6).trans rfl⟩
structure HrS (S : Nat → Prop) (W0 : World) (i : HI) (c : Cf) (p : Nat) (hs : Hs) (os : List Ob) (y : Nat) (s : Stp) (w : World) : Prop where
  tk : Tk S W0 (obB y 48 (stc s) :: hO i c p hs os) w
  ca : CfAt w i.vp i.vd i.vw i.vg c
section
variable {S : Nat → Prop} {W0 w w' : World} {i : HI} {c : Cf} {p : Nat} {hs : Hs} {os : List Ob} {y : Nat} {s : Stp}
theorem HrS.next (h : HrS S W0 i c p hs os y s w) (hb : Below w.heap.size w w') : HrS S W0 i c p hs os y s w' := ⟨h.tk.next hb, h.ca.below hb⟩
theorem HrS.drew (h : HrS S W0 i c p hs os y s w) : HrS S W0 i c p hs os y s w.drew := h.next (bdrewN (Below.refl _ _) 1)
theorem HrS.drewN (h : HrS S W0 i c p hs os y s w) (n : Nat) : HrS S W0 i c p hs os y s (w.drewN n) := h.next (bdrewN (Below.refl _ _) n)
theorem HrS.cells (h : HrS S W0 i c p hs os y s w) : w.cell? ⟨i.gt, 0, none⟩ = some (.int .i64 hs.t) ∧ w.cell? ⟨i.gd, 0, none⟩ = some (.pointer (some ⟨i.g, 0, none⟩)) ∧ w.cell? ⟨i.gl, 0, none⟩ = some (flV i.gc i.gF) :=
  ⟨((h.tk.blk (i := 1) rfl).cell 0).trans rfl, ((h.tk.blk (i := 2) rfl).cell 0).trans rfl, ((h.tk.blk (i := 3) rfl).cell 0).trans rfl⟩
theorem HrS.held (h : HrS S W0 i c p hs os y s w) : w.cell? ⟨i.gd, 0, none⟩ = some (.pointer (some ⟨i.g, 0, none⟩)) ∧ w.cell? ⟨i.gl, 0, none⟩ = some (flV i.gc i.gF) ∧ w.cell? ⟨y, 2, none⟩ = some (.int .i64 s.d) ∧ HrS S W0 i c p hs os y s w :=
  ⟨h.cells.2.1, h.cells.2.2, (stp_cells (h.tk.blk (i := 0) rfl)).2.2.1, h⟩
theorem HrS.flow (h : HrS S W0 i c p hs os y s w) (h4 : c.ps.length ≤ 4) (x : Int) : Calls Tryz.prog 50 #[.int .i64 x, .pointer (some ⟨i.gc, 0, none⟩), .pointer (some ⟨i.gF, 0, none⟩)] w fun e w' => e = .returned (.bool (flI c x p)) ∧ Below w.heap.size w w' :=
  vflow2_any h.ca h4 p i.gc i.gF (h.tk.blk (i := 4) rfl) (h.tk.blk (i := 5) rfl) x
set_option maxHeartbeats 2000000 in
theorem tk_hear (hm : cfMay c = true) (ht : hs.t ≤ 1048575) (hc : CfAt w i.vp i.vd i.vw i.vg c) (h : Tk S W0 (hO i c p hs os) w) (s : Stp) :
    Calls Tryz.prog 37 #[.agg #[.int .i64 s.k, .int .i64 s.p, .int .i64 s.d, .int .i64 s.a, .int .i64 s.b, .int .i64 s.c, .string s.s], .pointer (some ⟨i.gt, 0, none⟩), .pointer (some ⟨i.gd, 0, none⟩), .pointer (some ⟨i.gl, 0, none⟩)] w fun e w' => e = .returned (.bool (hdB c p hs s)) ∧ Tk S W0 (hO i c p (hdS c hs s) os) w' := by
  have h4 := (cfMay_n hm).2.1
  have hq := cfMay_q hm
  have hS : HrS S W0 i c p hs os w.heap.size s (w.alloc (.cells #[.int .i64 s.k, .int .i64 s.p, .int .i64 s.d, .int .i64 s.a, .int .i64 s.b, .int .i64 s.c, .string s.s] 48)) := ⟨h.alloc 48 (stc s), hc.below ((Below.refl _ _).alloc (Nat.le_refl _) _)⟩
  obtain ⟨k, p', d, a, b, c', x⟩ := s
  dsimp only at hS ⊢
  obtain ⟨s0, s1, s2, s3, s4, s5, s6⟩ := stp_cells (hS.tk.blk (i := 0) rfl)
  obtain ⟨k0, k1, k2⟩ := hS.cells
  have f0 := (hS.tk.blk (i := 1) rfl).frozen 0
  dsimp only at s0 s1 s2 s3 s4 s5 s6
  have HS := Lib.hid hS
  clear hm hc h hS
  unfold flV at k2
  rcases (show (k = 1 ∧ hs.t < 1048575) ∨ (k = 1 ∧ hs.t = 1048575) ∨ k = 2 ∨ k = 3 ∨ k = 4 ∨ (5 ≤ k ∧ k ≤ 16) ∨ k < 1 ∨ 16 < k by omega) with ⟨rfl, hlt⟩ | ⟨rfl, hlt⟩ | rfl | rfl | rfl | ⟨ha, hb⟩ | ha | ha
  · have HR := Lib.hid (show hdB c p hs ⟨1, p', d, a, b, c', x⟩ = true ∧ hdS c hs ⟨1, p', d, a, b, c', x⟩ = ⟨hs.t + 1, hs.O, atL hs.L c.ds.length⟩ from ⟨rfl, by unfold hdS; rw [if_pos rfl, if_pos hlt]⟩)
    have hl1 : (hs.t : Int) < 1048575 := by omega
    have t1 := HS.out.tk.store (i := 1) rfl 0 (.int .i64 ((hs.t + 1 : Nat) : Int))
    have k1' := (((t1.blk (i := 2) rfl).cell 0).trans rfl : _ = some (.pointer (some ⟨i.g, 0, none⟩)))
    rw [show ((hs.t + 1 : Nat) : Int) = (hs.t : Int) + 1 by omega] at t1 k1'
    have T1 := Lib.hid t1
    clear t1
    go_enter Tryz.func37, Tryz.ntmps37
    go_wp2_with fail
    refine (tk_atick _ T1.out (i := 6) rfl).mono ?_
    rintro e w2 ⟨v, rfl, t2⟩
    have T2 := Lib.hid t2
    clear t2 T1 HS k0 k1 k2 k1' f0 s0 s1 s2 s3 s4 s5 s6
    go_wp2_with fail
    go_ret
    rw [HR.out.1, HR.out.2]
    exact ⟨rfl, by have := T2.out.tail.tail; exact this⟩
  · have HR := Lib.hid (show hdB c p hs ⟨1, p', d, a, b, c', x⟩ = true ∧ hdS c hs ⟨1, p', d, a, b, c', x⟩ = hs from ⟨rfl, by unfold hdS; rw [if_pos rfl, if_neg (by omega)]⟩)
    rw [hlt] at k0
    clear hlt ht
    go_enter Tryz.func37, Tryz.ntmps37
    go_wp2_with fail
    go_ret
    rw [HR.out.1, HR.out.2]
    exact ⟨rfl, HS.out.tk.tail⟩
  · have HR := Lib.hid (show hdB c p hs ⟨2, p', d, a, b, c', x⟩ = true ∧ hdS c hs ⟨2, p', d, a, b, c', x⟩ = ⟨hs.t, amO c.ds.length c.ps.length hs.O hs.L d a, amL c.ds.length c.ps.length c.qt.toNat hs.L d a⟩ from ⟨rfl, rfl⟩)
    go_enter Tryz.func37, Tryz.ntmps37
    go_wp2_with fail
    refine (tk_amove d a _ HS.out.tk (i := 6) rfl).mono ?_
    rintro e w2 ⟨rfl, t2⟩
    have T2 := Lib.hid t2
    clear t2 HS k0 k1 k2 f0 s0 s1 s2 s3 s4 s5 s6
    go_wp2_with fail
    go_ret
    rw [HR.out.1, HR.out.2]
    exact ⟨rfl, T2.out.tail⟩
  · have HR := Lib.hid (show hdB c p hs ⟨3, p', d, a, b, c', x⟩ = flI c (aoX c.ds.length hs.O hs.L d) p ∧ hdS c hs ⟨3, p', d, a, b, c', x⟩ = hs from ⟨by unfold hdB; rw [if_pos (by dsimp only; omega)], rfl⟩)
    go_enter Tryz.func37, Tryz.ntmps37
    go_wp2_with fail
    generalize w.alloc (.cells #[.int .i64 3, .int .i64 p', .int .i64 d, .int .i64 a, .int .i64 b, .int .i64 c', .string x] 48) = w1 at *
    generalize w.heap.size = y at *
    have hS := HS.out
    clear s0 s1 s3 s4 s5 s6 k0 f0
    go_region_held3 (fun w' => w'.cell? ⟨i.gd, 0, none⟩ = some (.pointer (some ⟨i.g, 0, none⟩)) ∧ w'.cell? ⟨i.gl, 0, none⟩ = some (.func (.func 50) #[] #[.pointer (some ⟨i.gc, 0, none⟩), .pointer (some ⟨i.gF, 0, none⟩)]) ∧ w'.cell? ⟨y, 2, none⟩ = some (.int .i64 d) ∧ HrS S W0 i c p hs os y ⟨3, p', d, a, b, c', x⟩ w')
      ((go_split_ands; refine HrS.held (i := i) (s := ⟨3, p', d, a, b, c', x⟩) ?_; (first | with_reducible assumption | with_reducible exact HrS.drew (by assumption) | with_reducible exact HrS.next (by assumption) (by assumption))))
      (first
        | (go_at_call 40; go_split_ands; refine (aowner_any d _ (Tk.pa (HrS.tk (S := S) (W0 := W0) (i := i) (c := c) (p := p) (hs := hs) (os := os) (y := y) (s := ⟨3, p', d, a, b, c', x⟩) (by assumption)) (i := 6) rfl)).mono ?_; rintro e w5 ⟨rfl, b5⟩)
        | (go_at_call 50; go_split_ands; refine (HrS.flow (S := S) (W0 := W0) (i := i) (c := c) (p := p) (hs := hs) (os := os) (y := y) (s := ⟨3, p', d, a, b, c', x⟩) (by assumption) h4 _).mono ?_; rintro e w6 ⟨rfl, b6⟩))
    all_goals
      rename_i hH
      have T9 := Lib.hid hH.2.2.2.tk.tail
      clear hH HS hS k1 k2 s2
      go_wp2_with fail
      go_ret
      rw [HR.out.1, HR.out.2]
      exact ⟨rfl, T9.out⟩
  · have HR := Lib.hid (show hdB c p hs ⟨4, p', d, a, b, c', x⟩ = flI c (aoX c.ds.length hs.O hs.L d) p ∧ hdS c hs ⟨4, p', d, a, b, c', x⟩ = hs from ⟨by unfold hdB; rw [if_pos (by dsimp only; omega)], rfl⟩)
    go_enter Tryz.func37, Tryz.ntmps37
    go_wp2_with fail
    generalize w.alloc (.cells #[.int .i64 4, .int .i64 p', .int .i64 d, .int .i64 a, .int .i64 b, .int .i64 c', .string x] 48) = w1 at *
    generalize w.heap.size = y at *
    have hS := HS.out
    clear s0 s1 s3 s4 s5 s6 k0 f0
    go_region_held3 (fun w' => w'.cell? ⟨i.gd, 0, none⟩ = some (.pointer (some ⟨i.g, 0, none⟩)) ∧ w'.cell? ⟨i.gl, 0, none⟩ = some (.func (.func 50) #[] #[.pointer (some ⟨i.gc, 0, none⟩), .pointer (some ⟨i.gF, 0, none⟩)]) ∧ w'.cell? ⟨y, 2, none⟩ = some (.int .i64 d) ∧ HrS S W0 i c p hs os y ⟨4, p', d, a, b, c', x⟩ w')
      ((go_split_ands; refine HrS.held (i := i) (s := ⟨4, p', d, a, b, c', x⟩) ?_; (first | with_reducible assumption | with_reducible exact HrS.drew (by assumption) | with_reducible exact HrS.next (by assumption) (by assumption))))
      (first
        | (go_at_call 40; go_split_ands; refine (aowner_any d _ (Tk.pa (HrS.tk (S := S) (W0 := W0) (i := i) (c := c) (p := p) (hs := hs) (os := os) (y := y) (s := ⟨4, p', d, a, b, c', x⟩) (by assumption)) (i := 6) rfl)).mono ?_; rintro e w5 ⟨rfl, b5⟩)
        | (go_at_call 50; go_split_ands; refine (HrS.flow (S := S) (W0 := W0) (i := i) (c := c) (p := p) (hs := hs) (os := os) (y := y) (s := ⟨4, p', d, a, b, c', x⟩) (by assumption) h4 _).mono ?_; rintro e w6 ⟨rfl, b6⟩))
    all_goals
      rename_i hH
      have T9 := Lib.hid hH.2.2.2.tk.tail
      clear hH HS hS k1 k2 s2
      go_wp2_with fail
      go_ret
      rw [HR.out.1, HR.out.2]
      exact ⟨rfl, T9.out⟩
  · have HR := Lib.hid (show hdB c p hs ⟨k, p', d, a, b, c', x⟩ = flI c p' p ∧ hdS c hs ⟨k, p', d, a, b, c', x⟩ = hs from ⟨by unfold hdB; rw [if_neg (by dsimp only; omega), if_pos ⟨ha, hb⟩], by unfold hdS; rw [if_neg (by dsimp only; omega), if_neg (by dsimp only; omega)]⟩)
    have e1 : (k == 1) = false := beq_eq_false_iff_ne.2 (by omega)
    have e2 : (k == 2) = false := beq_eq_false_iff_ne.2 (by omega)
    have e3 : (k == 3) = false := beq_eq_false_iff_ne.2 (by omega)
    have e4 : (k == 4) = false := beq_eq_false_iff_ne.2 (by omega)
    have HF := Lib.hid (HS.out.flow h4 p')
    go_enter Tryz.func37, Tryz.ntmps37
    go_wp2_with fail
    refine HF.out.mono ?_
    rintro e w2 ⟨rfl, b2⟩
    have T2 := Lib.hid (HS.out.tk.next b2)
    clear b2 HS HF k0 k1 k2 f0 s0 s1 s2 s3 s4 s5 s6
    go_wp2_with fail
    go_ret
    rw [HR.out.1, HR.out.2]
    exact ⟨rfl, T2.out.tail⟩
  · have HR := Lib.hid (show hdB c p hs ⟨k, p', d, a, b, c', x⟩ = true ∧ hdS c hs ⟨k, p', d, a, b, c', x⟩ = hs from ⟨by unfold hdB; rw [if_neg (by dsimp only; omega), if_neg (by dsimp only; omega)], by unfold hdS; rw [if_neg (by dsimp only; omega), if_neg (by dsimp only; omega)]⟩)
    have e1 : (k == 1) = false := beq_eq_false_iff_ne.2 (by omega)
    have e2 : (k == 2) = false := beq_eq_false_iff_ne.2 (by omega)
    have e3 : (k == 3) = false := beq_eq_false_iff_ne.2 (by omega)
    have e4 : (k == 4) = false := beq_eq_false_iff_ne.2 (by omega)
    have e5 : decide (5 ≤ k) = false := by simp; omega
    have e6 : decide (k ≤ 16) = true := by simp; omega
    clear ha
    go_enter Tryz.func37, Tryz.ntmps37
    go_wp2_with fail
    go_ret
    rw [HR.out.1, HR.out.2]
    exact ⟨rfl, HS.out.tk.tail⟩
  · have HR := Lib.hid (show hdB c p hs ⟨k, p', d, a, b, c', x⟩ = true ∧ hdS c hs ⟨k, p', d, a, b, c', x⟩ = hs from ⟨by unfold hdB; rw [if_neg (by dsimp only; omega), if_neg (by dsimp only; omega)], by unfold hdS; rw [if_neg (by dsimp only; omega), if_neg (by dsimp only; omega)]⟩)
    have e1 : (k == 1) = false := beq_eq_false_iff_ne.2 (by omega)
    have e2 : (k == 2) = false := beq_eq_false_iff_ne.2 (by omega)
    have e3 : (k == 3) = false := beq_eq_false_iff_ne.2 (by omega)
    have e4 : (k == 4) = false := beq_eq_false_iff_ne.2 (by omega)
    have e5 : decide (5 ≤ k) = true := by simp; omega
    have e6 : decide (k ≤ 16) = false := by simp; omega
    clear ha
    go_enter Tryz.func37, Tryz.ntmps37
    go_wp2_with fail
    go_ret
    rw [HR.out.1, HR.out.2]
    exact ⟨rfl, HS.out.tk.tail⟩
end
end Go.Proofs.YtkaalinoiilmoaaGreat
namespace Go.Proofs.YtkaalinoiilmoaaGreat
open Go.RowKit Go.ChangeMaps
set_option linter.unusedVariables false
set_option linter.unusedSimpArgs false
set_option maxRecDepth 100000
theorem stcs_set : ∀ (l : List Stp) (k : Nat) (x : Stp), k < l.length →
    (((((((stcs l).set (k * 7) (.int .i64 x.k)).set (k * 7 + 1) (.int .i64 x.p)).set (k * 7 + 2) (.int .i64 x.d)).set (k * 7 + 3) (.int .i64 x.a)).set (k * 7 + 4) (.int .i64 x.b)).set (k * 7 + 5) (.int .i64 x.c)).set (k * 7 + 6) (.string x.s) = stcs (l.set k x) := by
  intro l
  induction l with
  | nil => intro k x h; simp at h
  | cons y l ih =>
    intro k x h
    match k with
    | 0 =>
      rw [List.set_cons_zero, stcs_cons, stcs_cons]
      simp [stc]
    | k + 1 =>
      have := ih k x (by simpa using h)
      rw [List.set_cons_succ, stcs_cons, stcs_cons, ← this, show (k + 1) * 7 = k * 7 + 7 by omega]
      have e : ∀ (m : List Value) (j : Nat) (v : Value), (stc y ++ m).set (j + 7) v = stc y ++ m.set j v := by intro m j v; rfl
      rw [show k * 7 + 7 + 1 = k * 7 + 1 + 7 by omega, show k * 7 + 7 + 2 = k * 7 + 2 + 7 by omega, show k * 7 + 7 + 3 = k * 7 + 3 + 7 by omega, show k * 7 + 7 + 4 = k * 7 + 4 + 7 by omega, show k * 7 + 7 + 5 = k * 7 + 5 + 7 by omega, show k * 7 + 7 + 6 = k * 7 + 6 + 7 by omega]
      simp only [e]
theorem infoStep : (Tryz.prog.info? 48).map (fun i => (i.zero, i.size, i.bytes)) = some (some (.agg #[.int .i64 0, .int .i64 0, .int .i64 0, .int .i64 0, .int .i64 0, .int .i64 0, .string ⟨#[]⟩]), 7, 64) := by kernel_rfl
theorem made_steps (n : Nat) : madeCells (Value.agg #[.int .i64 0, .int .i64 0, .int .i64 0, .int .i64 0, .int .i64 0, .int .i64 0, .string ⟨#[]⟩]).cells (n * 7) = (stcs (List.replicate n stD)).toArray := by
  apply Array.ext_getElem?
  intro i
  by_cases h : i < n * 7
  · have e := stcs_get (List.replicate n stD) (i / 7) (i % 7) (by rw [List.length_replicate]; omega) (by omega)
    rw [show i / 7 * 7 + i % 7 = i by omega] at e
    have e2 : (List.replicate n stD).getD (i / 7) stD = stD := by
      simp only [List.getD, List.getElem?_replicate]; split <;> rfl
    rw [e2] at e
    have e3 : (stcs (List.replicate n stD)).toArray[i]? = (stcs (List.replicate n stD))[i]? := by simp
    rw [e3, e]
    unfold madeCells
    rw [Array.getElem?_map, Array.getElem?_range]
    rw [if_pos h]
    have h7 := Nat.mod_lt i (show 7 > 0 by omega)
    show some ((#[Value.int .i64 0, .int .i64 0, .int .i64 0, .int .i64 0, .int .i64 0, .int .i64 0, .string ⟨#[]⟩] : Array Value)[i % 7]!) = _
    generalize i % 7 = j at *
    rcases (show j = 0 ∨ j = 1 ∨ j = 2 ∨ j = 3 ∨ j = 4 ∨ j = 5 ∨ j = 6 by omega) with rfl | rfl | rfl | rfl | rfl | rfl | rfl <;> rfl
  · rw [Array.getElem?_eq_none (by rw [size_madeCells]; omega), List.getElem?_toArray, List.getElem?_eq_none (by rw [stcs_len, List.length_replicate]; omega)]
theorem make_steps (n : Nat) (hn : n * 64 ≤ 281474976710656) (W : World) : (Instr.makeSlice 28 (.int .i64 (n : Int)) (.int .i64 (n : Int))).run Tryz.prog W = .ok (.slice (some ⟨W.heap.size, 0, none⟩) n n) (W.alloc (.cells (stcs (List.replicate n stD)).toArray 48)) := by
  obtain ⟨i0, hi, hz0, hz1, hz2⟩ := info_parts infoStep
  have := run_make (P := Tryz.prog) W 28 48 i0 _ Tryz.underlying28 hi hz0 .i64 .i64 n n (by omega) (by omega) (by rw [hz2]; omega) (by omega)
  rw [this, Int.toNat_natCast, hz1, made_steps]
def pgm (P : List Stp) (k : Nat) : List Stp := (List.range P.length).map (fun i => if i < k then P.getD i stD else stD)
theorem pgm_len (P : List Stp) (k : Nat) : (pgm P k).length = P.length := by simp [pgm]
theorem pgm_zero (P : List Stp) : pgm P 0 = List.replicate P.length stD := by
  unfold pgm
  apply List.ext_getElem?
  intro i
  simp only [List.getElem?_map, List.getElem?_replicate]
  by_cases h : i < P.length
  · simp [List.getElem?_range h, h]
  · rw [List.getElem?_eq_none (by simpa using h)]; simp [h]
theorem pgm_all (P : List Stp) : pgm P P.length = P := by
  unfold pgm
  apply List.ext_getElem?
  intro i
  by_cases h : i < P.length
  · simp [List.getElem?_range h, h]
  · rw [List.getElem?_eq_none (by simpa using h), List.getElem?_eq_none (by omega)]
theorem pgm_set (P : List Stp) (k : Nat) (h : k < P.length) : (pgm P k).set k (P.getD k stD) = pgm P (k + 1) := by
  unfold pgm
  apply List.ext_getElem?
  intro i
  rw [List.getElem?_set]
  by_cases hi : i < P.length
  · simp only [List.getElem?_map, List.getElem?_range hi, Option.map_some, List.length_map, List.length_range, h, if_true]
    by_cases e : k = i
    · subst e; simp
    · rw [if_neg e]
      by_cases h2 : i < k
      · rw [if_pos h2, if_pos (by omega)]
      · rw [if_neg h2, if_neg (by omega)]
  · rw [if_neg (by omega), List.getElem?_eq_none (by simpa using hi), List.getElem?_eq_none (by simpa using hi)]
theorem pgm_same (P : List Stp) (k : Nat) (h : P.getD k stD = stD) : pgm P (k + 1) = pgm P k := by
  unfold pgm
  refine List.map_congr_left (fun i _ => ?_)
  by_cases e : i = k
  · subst e; rw [if_pos (by omega), if_neg (by omega), h]
  · by_cases h2 : i < k
    · rw [if_pos (by omega), if_pos h2]
    · rw [if_neg (by omega), if_neg h2]
theorem hdW_t (c : Cf) : ∀ (l : List Stp) (h : Hs), h.t ≤ 1048575 → (hdW c h l).t ≤ 1048575 := by
  intro l
  induction l with
  | nil => exact fun h h1 => h1
  | cons s l ih =>
    intro h h1
    refine ih _ ?_
    unfold hdS
    split
    · split
      · dsimp only; omega
      · exact h1
    · split
      · exact h1
      · exact h1
theorem own_whole {w : World} {g B : Nat} {t : TypeId} {cs : List Value} (h : Blk w g t cs) (n size : Nat) (hl : cs.length = n * size) (hB : B ≤ g) (hn : n ≤ maxLen) : w.ownsRow B t size (.slice (some ⟨g, 0, none⟩) n n) n cs :=
  ⟨hl, .inr ⟨g, n, cs.toArray, rfl, hB, h, Nat.le_refl _, hn, by simpa using hl, by simp [← hl]⟩⟩
theorem rowC7 {w : World} {g : Nat} {t : TypeId} {cs : List Value} {a : Nat} (h : Blk w g t cs) (hl : a + 6 < cs.length) : (∃ v, w.cell? ⟨g, a, none⟩ = some v) ∧ (∃ v, w.cell? ⟨g, a + 1, none⟩ = some v) ∧ (∃ v, w.cell? ⟨g, a + 2, none⟩ = some v) ∧ (∃ v, w.cell? ⟨g, a + 3, none⟩ = some v) ∧ (∃ v, w.cell? ⟨g, a + 4, none⟩ = some v) ∧ (∃ v, w.cell? ⟨g, a + 5, none⟩ = some v) ∧ (∃ v, w.cell? ⟨g, a + 6, none⟩ = some v) := by
  have e : ∀ j, j < cs.length → ∃ v, w.cell? ⟨g, j, none⟩ = some v := fun j hj => ⟨_, (h.cell j).trans (List.getElem?_eq_getElem hj)⟩
  exact ⟨e _ (by omega), e _ (by omega), e _ (by omega), e _ (by omega), e _ (by omega), e _ (by omega), e _ hl⟩
section
variable {w : World} {c : Cf} {vp vd vw vg : Value}
set_option maxHeartbeats 2000000 in
theorem vpurge_no (hc : CfAt w vp vd vw vg c) (v : Value) (p : Int) (hno : ¬ (cfMay c = true ∧ inP c.ps.length p = true)) :
    Calls Tryz.prog 6 #[.agg #[.int .i64 c.fr, vp, vd, .int .i64 c.mj, vw, vg, .int .i64 c.se, .int .i64 c.qu, .int .i64 c.qt], v, .int .i64 p] w fun e w' => e = .returned (.tuple #[.slice none 0 0, .int .i64 2300]) ∧ Below w.heap.size w w' := by
  obtain ⟨hb, hB⟩ := cf_box w c vp vd vw vg
  have HBB := Lib.hid hb; have HB := Lib.hid hB; have HA := Lib.hid (hc.below hB)
  obtain ⟨q0, q1, q2, q3, q4, q5, q6, q7, q8⟩ := cf_at hb
  clear hb hB hc
  have HM := Lib.hid (cmay_any HA.out)
  cases hm : cfMay c with
  | false =>
    rw [hm] at HM
    clear hm hno
    go_enter Tryz.func6, Tryz.ntmps6
    go_wp2_with fail
    refine HM.out.mono ?_
    rintro e w1 ⟨rfl, b1⟩
    have HB1 := Lib.hid b1
    clear b1
    go_wp2_with fail
    go_ret2
    exact ⟨rfl, Below.down HB.out HB1.out HB.out.size⟩
  | true =>
    rw [hm] at HM
    have hy : inP c.ps.length p = false := by
      cases h : inP c.ps.length p with
      | false => rfl
      | true => exact absurd ⟨hm, h⟩ hno
    have HH := Lib.hid (fun W hW => (vhaspart_any (w := W) (HA.out.below hW) p))
    rw [hy] at HH
    clear hm hy hno
    go_enter Tryz.func6, Tryz.ntmps6
    go_wp2_with fail
    generalize w.alloc (.cells #[.int .i64 c.fr, vp, vd, .int .i64 c.mj, vw, vg, .int .i64 c.se, .int .i64 c.qu, .int .i64 c.qt] 27) = w0 at *
    refine HM.out.mono ?_
    rintro e w1 ⟨rfl, b1⟩
    obtain ⟨q0, q1, q2, q3, q4, q5, q6, q7, q8⟩ := cf_at (HBB.out.below b1 HBB.out.lt)
    have HB1 := Lib.hid b1
    clear b1
    go_wp2_with fail
    refine (HH.out w1 HB1.out).mono ?_
    rintro e w2 ⟨rfl, b2⟩
    have HB2 := Lib.hid (Below.down HB1.out b2 HB1.out.size)
    clear b2
    go_wp2_with fail
    go_ret2
    exact ⟨rfl, Below.down HB.out HB2.out HB.out.size⟩
set_option maxHeartbeats 4000000 in
theorem vpurge_yes (hc : CfAt w vp vd vw vg c) (hm : cfMay c = true) (p : Nat) (hp : p < c.ps.length) (v : Value) (l : List Stp) (hv : Sl w v l.length 7 (stcs l)) (hn : l.length * 64 ≤ 140737488351232) :
    Calls Tryz.prog 6 #[.agg #[.int .i64 c.fr, vp, vd, .int .i64 c.mj, vw, vg, .int .i64 c.se, .int .i64 c.qu, .int .i64 c.qt], v, .int .i64 (p : Int)] w fun e w' => ∃ g, e = .returned (.tuple #[.slice (some ⟨g, 0, none⟩) l.length l.length, .int .i64 0]) ∧ Tk nos w [obB g 48 (stcs (pgL c p (hsNew c) l))] w' := by
  obtain ⟨hb, hB⟩ := cf_box w c vp vd vw vg
  have HBB := Lib.hid hb; have HB := Lib.hid hB; have HA := Lib.hid (hc.below hB); have HCW := Lib.hid hc
  obtain ⟨q0, q1, q2, q3, q4, q5, q6, q7, q8⟩ := cf_at hb
  have HV := Lib.hid hv
  obtain ⟨A, cap, rfl, hcap, -, -⟩ := hv
  have HM := Lib.hid (cmay_any HA.out)
  have HH := Lib.hid (fun W hW => (vhaspart_any (w := W) (HA.out.below hW) (p : Int)))
  rw [hm] at HM
  rw [inP_at hp] at HH
  have HC := Lib.hid hm; have HP := Lib.hid hp
  clear hb hB hc hm hp
  obtain ⟨n, hl⟩ : ∃ n, l.length = n := ⟨_, rfl⟩
  have HL := Lib.hid hl
  rw [hl] at HV hn ⊢
  have hmk := fun W => make_steps n (by omega) W
  clear hl hcap
  go_enter Tryz.func6, Tryz.ntmps6
  go_wp2_with fail
  generalize w.alloc (.cells #[.int .i64 c.fr, vp, vd, .int .i64 c.mj, vw, vg, .int .i64 c.se, .int .i64 c.qu, .int .i64 c.qt] 27) = w0 at *
  refine HM.out.mono ?_
  rintro e w1 ⟨rfl, b1⟩
  obtain ⟨q0, q1, q2, q3, q4, q5, q6, q7, q8⟩ := cf_at (HBB.out.below b1 HBB.out.lt)
  have HB1 := Lib.hid b1
  clear b1
  go_wp2_with fail
  refine (HH.out w1 HB1.out).mono ?_
  rintro e w2 ⟨rfl, b2⟩
  have HB2 := Lib.hid (Below.down HB1.out b2 HB1.out.size)
  clear b2 q0 q1 q2 q3 q4 q5 q6 q7 q8
  obtain ⟨q0, q1, q2, q3, q4, q5, q6, q7, q8⟩ := cf_at (HBB.out.below HB2.out HBB.out.lt)
  go_wp2_with fail
  refine (vhearing_any (HA.out.below HB2.out) HC.out p HP.out).mono ?_
  rintro e w3 ⟨ic, rfl, hic, t3⟩
  have T3 := Lib.hid (show Tk nos w (hO ic c p (hsNew c) []) w3 by
    have := ((Tk.empty w).next (Below.down HB.out HB2.out HB.out.size)).add t3
    rwa [List.append_nil] at this)
  obtain ⟨rfl, rfl, rfl, rfl⟩ := hic
  clear t3 q0 q1 q2 q3 q4 q5 q6 q7 q8
  unfold heV
  go_wp2_with fail
  obtain ⟨P, hP⟩ : ∃ P, pgL c p (hsNew c) l = P := ⟨_, rfl⟩
  have HPL := Lib.hid (show P.length = n by rw [← hP, pgL_len, HL.out])
  have HPA := Lib.hid (fun k (hk : k < n) => (show P.getD k stD = if hdB c p (hdW c (hsNew c) (l.take k)) (l.getD k stD) then l.getD k stD else stD by rw [← hP]; exact pgL_at c p l _ k (by rw [HL.out]; exact hk)))
  have HPE := Lib.hid hP
  have t4 : Tk nos w (hO ic c p (hsNew c) [obB w3.heap.size 48 (stcs (pgm P 0))]) (w3.alloc (.cells (stcs (List.replicate n stD)).toArray 48)) := by
    have := T3.out.alloc 48 (stcs (List.replicate n stD))
    rw [pgm_zero, HPL.out]
    exact this.perm (List.perm_append_comm (l₁ := [_]))
  have T4 := Lib.hid t4
  clear t4 T3 hP hmk
  generalize w3.alloc (.cells (stcs (List.replicate n stD)).toArray 48) = w4 at *
  generalize w3.heap.size = gL at *
  go_loopw [29, 10, 11] (fun i a b wr => ∃ (k : Nat), k ≤ n ∧ i = .int .i64 k ∧ a = a ∧ b = b ∧ Hid (Tk nos w (hO ic c p (hdW c (hsNew c) (l.take k)) [obB gL 48 (stcs (pgm P k))]) wr)) (fun i _ _ _ => n - (intOf i).toNat)
  case atStart => exact ⟨0, by omega, rfl, rfl, rfl, T4⟩
  case round =>
    clear T4
    obtain ⟨k, hkn, rfl, -, -, HT⟩ := hrel
    by_cases hlt : k < n
    · have hltI : (k : Int) < n := by omega
      have hbel := HT.out.below
      obtain ⟨sb, so, rfl, -, c0, c1, c2, c3, c4, c5, c6⟩ := stcs_at (HV.out.below hbel) HL.out k hlt
      have hPA := HPA.out k hlt
      have hW1 := hdW_succ c (hsNew c) l k (by rw [HL.out]; exact hlt)
      have hWt := hdW_t c (l.take k) (hsNew c) (Nat.zero_le _)
      generalize hdW c (hsNew c) (l.take k) = hs at *
      generalize l.getD k stD = x at *
      have t1 := (HT.out.alloc 48 (stc x)).perm (List.perm_append_comm (l₁ := [_]))
      have T1 : Hid (Tk nos w (hO ic c p hs [obB gL 48 (stcs (pgm P k)), obB wr.heap.size 48 (stc x)]) (wr.alloc (.cells (stc x).toArray 48))) := Lib.hid t1
      obtain ⟨s0, s1, s2, s3, s4, s5, s6⟩ := stp_cells (T1.out.blk (i := 7) rfl)
      have HPAk := Lib.hid hPA; have HW1 := Lib.hid hW1; have HWt := Lib.hid hWt
      clear t1 hbel hPA hW1 hWt
      go_wp2_with fail
      refine (tk_hear HC.out HWt.out (HCW.out.below T1.out.below) T1.out x).mono ?_
      rintro e w5 ⟨rfl, t5⟩
      rw [← HW1.out] at t5
      have T5 := Lib.hid t5
      have X5 := t5.blk (i := 6) rfl
      obtain ⟨s0, s1, s2, s3, s4, s5, s6⟩ := stp_cells (t5.blk (i := 7) rfl)
      clear t5 T1 HT
      cases hh : hdB c p hs x with
      | false =>
        have HX := Lib.hid (show pgm P (k + 1) = pgm P k from pgm_same P k (by rw [HPAk.out, hh]; rfl))
        clear hh X5
        go_wp2_with fail
        go_roundw
        case rel => exact ⟨k + 1, by omega, by go_num, trivial, trivial, Lib.hid (by rw [HX.out]; exact T5.out.sub (List.Sublist.append_left (List.sublist_append_left [_] [_]) (hO ic c p _ [])))⟩
        case measure => simp [intOf]; omega
      | true =>
        have HX := Lib.hid (show (pgm P k).set k x = pgm P (k + 1) by rw [← pgm_set P k (by rw [HPL.out]; exact hlt), HPAk.out, hh]; rfl)
        have hlen : k * 7 + 6 < (stcs (pgm P k)).length := by rw [stcs_len, pgm_len, HPL.out]; omega
        have T6 : Hid (Tk nos w (hO ic c p (hdW c (hsNew c) (l.take (k + 1))) [obB gL 48 (stcs (pgm P (k + 1))), obB wr.heap.size 48 (stc x)]) (((((((w5.setCell ⟨gL, k * 7, none⟩ (.int .i64 x.k)).setCell ⟨gL, k * 7 + 1, none⟩ (.int .i64 x.p)).setCell ⟨gL, k * 7 + 2, none⟩ (.int .i64 x.d)).setCell ⟨gL, k * 7 + 3, none⟩ (.int .i64 x.a)).setCell ⟨gL, k * 7 + 4, none⟩ (.int .i64 x.b)).setCell ⟨gL, k * 7 + 5, none⟩ (.int .i64 x.c)).setCell ⟨gL, k * 7 + 6, none⟩ (.string x.s))) := Lib.hid (by
          have t6 := ((((((T5.out.store (i := 6) rfl (k * 7) (.int .i64 x.k)).store (i := 6) rfl (k * 7 + 1) (.int .i64 x.p)).store (i := 6) rfl (k * 7 + 2) (.int .i64 x.d)).store (i := 6) rfl (k * 7 + 3) (.int .i64 x.a)).store (i := 6) rfl (k * 7 + 4) (.int .i64 x.b)).store (i := 6) rfl (k * 7 + 5) (.int .i64 x.c)).store (i := 6) rfl (k * 7 + 6) (.string x.s)
          rw [← HX.out, ← stcs_set _ k x (by rw [pgm_len, HPL.out]; exact hlt)]
          exact t6)
        obtain ⟨⟨v0, d0⟩, ⟨v1, d1⟩, ⟨v2, d2⟩, ⟨v3, d3⟩, ⟨v4, d4⟩, ⟨v5, d5⟩, ⟨v6, d6⟩⟩ := rowC7 X5 hlen
        have f0 := X5.frozen (k * 7)
        have f1 := X5.frozen (k * 7 + 1)
        have f2 := X5.frozen (k * 7 + 2)
        have f3 := X5.frozen (k * 7 + 3)
        have f4 := X5.frozen (k * 7 + 4)
        have f5 := X5.frozen (k * 7 + 5)
        have f6 := X5.frozen (k * 7 + 6)
        clear hh X5 hlen
        go_wp2_with fail
        go_roundw
        case rel => exact ⟨k + 1, by omega, by go_num, trivial, trivial, Lib.hid (T6.out.sub (List.Sublist.append_left (List.sublist_append_left [_] [_]) (hO ic c p _ [])))⟩
        case measure => simp [intOf]; omega
    · obtain rfl : k = n := by omega
      have hlk : l.take k = l := List.take_of_length_le (by rw [HL.out]; omega)
      have hpk : pgm P k = P := by rw [← HPL.out]; exact pgm_all P
      rw [hpk] at HT
      clear hlk hpk
      go_wp2_with fail
      go_ret2
      exact ⟨gL, rfl, by rw [HPE.out]; exact HT.out.sub (List.sublist_append_right (hO ic c p _ []) [_])⟩
end
end Go.Proofs.YtkaalinoiilmoaaGreat
namespace Go.Proofs.YtkaalinoiilmoaaGreat
open Go.RowKit
set_option linter.unusedVariables false
set_option linter.unusedSimpArgs false
set_option maxRecDepth 100000
theorem one_stc (x : Stp) : ∀ u ∈ stc x, u.oneCell' = true := by
  intro u hu
  simp only [stc, List.mem_cons, List.not_mem_nil, or_false] at hu
  rcases hu with rfl | rfl | rfl | rfl | rfl | rfl | rfl <;> rfl
def obS (v : Value) (L : List Stp) : Ob := obR 48 7 v L.length (stcs L)
theorem obS_app (v : Value) (L : List Stp) (x : Stp) : obR 48 7 v (L.length + 1) (stcs L ++ stc x) = obS v (L ++ [x]) := by
  unfold obS; rw [stcs_append, List.length_append]; simp [stcs]
theorem Tk.grow {S : Nat → Prop} {W0 w w1 w6 : World} {os : List Ob} {i : Nat} {t : TypeId} {size n m g cap : Nat} {v : Value} {xs news : List Value} (h : Tk S W0 os w) (hi : os[i]? = some (obR t size v n xs)) (BL : Below w.heap.size w w1)
    (own6 : w6.ownsRow 0 t size (.slice (some ⟨g, 0, none⟩) m cap) m (xs ++ news)) (gr6 : w1.grownBy w6 v.ownBlock) (hat6 : v.ownBlock = some g ∨ w1.heap.size ≤ g) : Tk S W0 (os.set i (obR t size (.slice (some ⟨g, 0, none⟩) m cap) m (xs ++ news))) w6 := by
  refine (h.next BL).turnR hi gr6 own6 (fun x hx => ?_)
  have e : g = x := by simpa [Value.ownBlock] using hx
  subst e
  rcases hat6 with h | h
  · exact .inl h
  · exact .inr (by omega)
end Go.Proofs.YtkaalinoiilmoaaGreat
namespace Go.Proofs.YtkaalinoiilmoaaGreat
open Go.RowKit
set_option linter.unusedVariables false
set_option maxRecDepth 100000
def ahF (O : Nat → Int) (L : Nat → Nat) (T : Nat → Int) : Nat → Int := fun i => if i % 3 = 0 then (if L (i / 3) = 0 then O (i / 3) else -1) else if i % 3 = 1 then T (i / 3) else (L (i / 3) : Int)
section
variable (O : Nat → Int) (L : Nat → Nat) (T : Nat → Int) (i : Nat)
theorem ahF_o : ahF O L T (i * 3) = if L i = 0 then O i else -1 := by
  unfold ahF
  rw [if_pos (by omega), show i * 3 / 3 = i by omega]
theorem ahF_t : ahF O L T (i * 3 + 1) = T i := by
  unfold ahF
  rw [if_neg (by omega), if_pos (by omega), show (i * 3 + 1) / 3 = i by omega]
theorem ahF_l : ahF O L T (i * 3 + 2) = (L i : Int) := by
  unfold ahF
  rw [if_neg (by omega), if_neg (by omega), show (i * 3 + 2) / 3 = i by omega]
theorem ahF_def (j : Nat) : ahF O L T j = if j % 3 = 0 then (if L (j / 3) = 0 then O (j / 3) else -1) else if j % 3 = 1 then T (j / 3) else (L (j / 3) : Int) := rfl
theorem iF_at {f : Nat → Int} {k : Nat} {x : Int} {j : Nat} (h : j = k) : iF f k x j = x := by unfold iF; rw [if_pos h]
theorem iF_off {f : Nat → Int} {k : Nat} {x : Int} {j : Nat} (h : j ≠ k) : iF f k x j = f j := by unfold iF; rw [if_neg h]
theorem uN_at {f : Nat → Nat} {k x j : Nat} (h : j = k) : uN f k x j = x := by unfold uN; rw [if_pos h]
theorem uN_off {f : Nat → Nat} {k x j : Nat} (h : j ≠ k) : uN f k x j = f j := by unfold uN; rw [if_neg h]
theorem ahF_move (t : Int) (q : Nat) (hq : q ≠ 0) : iF (iF (iF (ahF O L T) (i * 3) (-1)) (i * 3 + 1) t) (i * 3 + 2) q = ahF (iF O i t) (uN L i q) (iF T i t) := by
  funext j
  rw [ahF_def]
  by_cases h : j / 3 = i
  · rw [uN_at h, iF_at h, iF_at h]
    by_cases h0 : j % 3 = 0
    · rw [iF_off (by omega), iF_off (by omega), iF_at (by omega), if_pos h0, if_neg hq]
    · by_cases h1 : j % 3 = 1
      · rw [iF_off (by omega), iF_at (by omega), if_neg h0, if_pos h1]
      · rw [iF_at (by omega), if_neg h0, if_neg h1]
  · rw [uN_off h, iF_off h, iF_off h, iF_off (by omega), iF_off (by omega), iF_off (by omega), ahF_def]
theorem ahF_less (h : L i ≠ 0) (h1 : L i - 1 ≠ 0) : iF (ahF O L T) (i * 3 + 2) ((L i - 1 : Nat) : Int) = ahF O (uN L i (L i - 1)) T := by
  funext j
  rw [ahF_def]
  by_cases e : j / 3 = i
  · rw [uN_at e]
    by_cases h0 : j % 3 = 0
    · rw [iF_off (by omega), ahF_def, if_pos h0, if_pos h0, e, if_neg h, if_neg h1]
    · by_cases h2 : j % 3 = 1
      · rw [iF_off (by omega), ahF_def, if_neg h0, if_pos h2, if_neg h0, if_pos h2]
      · rw [iF_at (by omega), if_neg h0, if_neg h2]
  · rw [uN_off e, iF_off (by omega), ahF_def]
theorem ahF_last (h : T i = O i) : iF (iF (ahF O L T) (i * 3 + 2) 0) (i * 3) (O i) = ahF O (uN L i 0) T := by
  funext j
  rw [ahF_def]
  by_cases e : j / 3 = i
  · rw [uN_at e]
    by_cases h0 : j % 3 = 0
    · rw [iF_at (by omega), if_pos h0, if_pos rfl, e]
    · by_cases h2 : j % 3 = 1
      · rw [iF_off (by omega), iF_off (by omega), ahF_def, if_neg h0, if_pos h2, if_neg h0, if_pos h2]
      · rw [iF_off (by omega), iF_at (by omega), if_neg h0, if_neg h2]; rfl
  · rw [uN_off e, iF_off (by omega), iF_off (by omega), ahF_def]
end
structure DA (w : World) (y b c q P D : Nat) (O : Nat → Int) (L : Nat → Nat) (T : Nat → Int) : Prop where
  q1 : 1 ≤ q
  q8 : q ≤ 8
  p4 : P ≤ 4
  d4 : D ≤ 4
  l8 : ∀ i, L i ≤ 8
  tt : ∀ i, L i ≠ 0 → T i = O i
  dc : D ≤ c
  blk : Blk w y 90 [.int .i64 q, .int .i64 P, .slice (some ⟨b, 0, none⟩) D c]
  row : w.ownsRow 0 87 3 (.slice (some ⟨b, 0, none⟩) D c) D (itc (ahF O L T) (D * 3))
section
variable {w w' : World} {y b c q P D : Nat} {O O' : Nat → Int} {L L' : Nat → Nat} {T T' : Nat → Int}
theorem DA.apart (h : DA w y b c q P D O L T) : y ≠ b := fun e => own_apart_blk h.row h.blk (by decide) (by rw [e]; rfl)
theorem DA.heads (h : DA w y b c q P D O L T) : w.cell? ⟨y, 0, none⟩ = some (.int .i64 q) ∧ w.cell? ⟨y, 1, none⟩ = some (.int .i64 P) ∧ w.cell? ⟨y, 2, none⟩ = some (.slice (some ⟨b, 0, none⟩) D c) := by
  refine ⟨?_, ?_, ?_⟩ <;> (rw [h.blk.cell]; rfl)
theorem DA.at_ (h : DA w y b c q P D O L T) (i : Nat) (hi : i < D) : w.cell? ⟨b, i * 3, none⟩ = some (.int .i64 (if L i = 0 then O i else -1)) ∧ w.cell? ⟨b, i * 3 + 1, none⟩ = some (.int .i64 (T i)) ∧ w.cell? ⟨b, i * 3 + 2, none⟩ = some (.int .i64 (L i : Int)) := by
  refine ⟨?_, ?_, ?_⟩ <;> rw [h.row.cellAt _ (by omega), itc_get _ _ _ (by omega)]
  · rw [ahF_o]
  · rw [ahF_t]
  · rw [ahF_l]
theorem DA.frozen (h : DA w y b c q P D O L T) (i : Nat) : w.frozen? ⟨b, i, none⟩ = false := h.row.frozenAt i
theorem DA.lt (h : DA w y b c q P D O L T) : b < w.heap.size := (h.row.lt b rfl).2
theorem DA.below (h : DA w y b c q P D O L T) (hb : Below w.heap.size w w') : DA w' y b c q P D O L T := ⟨h.q1, h.q8, h.p4, h.d4, h.l8, h.tt, h.dc, h.blk.below hb h.blk.lt, own_below h.row hb⟩
theorem DA.set3 (h : DA w y b c q P D O L T) (i : Nat) (x1 x2 x3 : Int) (l8 : ∀ i, L' i ≤ 8) (tt : ∀ i, L' i ≠ 0 → T' i = O' i) (e : iF (iF (iF (ahF O L T) (i * 3) x1) (i * 3 + 1) x2) (i * 3 + 2) x3 = ahF O' L' T') :
    DA (((w.setCell ⟨b, i * 3, none⟩ (.int .i64 x1)).setCell ⟨b, i * 3 + 1, none⟩ (.int .i64 x2)).setCell ⟨b, i * 3 + 2, none⟩ (.int .i64 x3)) y b c q P D O' L' T' := by
  have r1 := (h.row.stored (i * 3) (.int .i64 x1)).1
  have r2 := (r1.stored (i * 3 + 1) (.int .i64 x2)).1
  have r3 := (r2.stored (i * 3 + 2) (.int .i64 x3)).1
  rw [itc_set, itc_set, itc_set, e] at r3
  have b1 := h.blk.far (p := ⟨b, i * 3, none⟩) h.apart (.int .i64 x1)
  have b2 := b1.far (p := ⟨b, i * 3 + 1, none⟩) h.apart (.int .i64 x2)
  exact ⟨h.q1, h.q8, h.p4, h.d4, l8, tt, h.dc, b2.far (p := ⟨b, i * 3 + 2, none⟩) h.apart (.int .i64 x3), r3⟩
end
def obDA1 (y b c q P D : Nat) (O : Nat → Int) (L : Nat → Nat) (T : Nat → Int) : Ob :=
  ⟨fun S w => DA w y b c q P D O L T ∧ ∀ k, S k ↔ (k = y ∨ k = b), fun ⟨h, e⟩ hk hs => ⟨⟨h.q1, h.q8, h.p4, h.d4, h.l8, h.tt, h.dc, (hk y h.blk.lt ((e y).2 (.inl rfl))).trans h.blk, own_stay h.row (fun b' hb' => by
      have e' : b = b' := by simpa [Value.ownBlock] using hb'
      subst e'
      exact hk b h.lt ((e b).2 (.inr rfl)))⟩, e⟩, fun ⟨h, e⟩ hb => ((e _).1 hb).elim (fun e => e ▸ h.blk.lt) (fun e => e ▸ h.lt)⟩
def obDA (y q P D : Nat) (O : Nat → Int) (L : Nat → Nat) : Ob := obX fun x : Nat × Nat × (Nat → Int) => obDA1 y x.1 x.2.1 q P D O L x.2.2
section
variable {S : Nat → Prop} {W0 w w' : World} {os : List Ob} {i y b c q P D : Nat} {O O' : Nat → Int} {L L' : Nat → Nat} {T T' : Nat → Int}
theorem Tk.da (h : Tk S W0 os w) (hi : os[i]? = some (obDA y q P D O L)) : ∃ b c T, DA w y b c q P D O L T ∧ ∀ w' O' L' T', DA w' y b c q P D O' L' T' → w.grownBy w' (some b) → Tk S W0 (os.set i (obDA y q P D O' L')) w' := by
  obtain ⟨S1, ⟨⟨b, c, T⟩, q⟩, _, k⟩ := h.call hi
  exact ⟨b, c, T, q.1, fun w' O' L' T' hp hg => k w' _ [] ⟨S1, obs_one.2 ⟨(b, c, T'), hp, q.2⟩, fun _ _ h => h, (Fo.refl _ _).grown hg (fun x hx => .inl ((q.2 x).2 (.inr (by injection hx with hx; exact hx.symm))))⟩⟩
end
section
variable {y b c q P D : Nat} {O : Nat → Int} {L : Nat → Nat} {T : Nat → Int}
theorem dathere_any (d : Int) (w : World) (h : DA w y b c q P D O L T) :
    Calls Tryz.prog 47 #[.pointer (some ⟨y, 0, none⟩), .int .i64 d] w fun e w' => e = .returned (.bool (adB D d)) ∧ w = w' := by
  obtain ⟨_, _, hc⟩ := h.heads
  have HB := Lib.hid (show adB D d = decide (0 ≤ d ∧ d < (D : Int)) from rfl)
  clear h
  by_cases h0 : 0 ≤ d
  · by_cases h1 : d < (D : Int)
    · go_enter Tryz.func47, Tryz.ntmps47
      go_wp2
      go_ret
      exact ⟨by rw [HB.out, decide_eq_true (show 0 ≤ d ∧ d < (D : Int) from ⟨h0, h1⟩)]; rfl, rfl⟩
    · go_enter Tryz.func47, Tryz.ntmps47
      go_wp2
      go_ret
      exact ⟨by rw [HB.out, decide_eq_false (show ¬ (0 ≤ d ∧ d < (D : Int)) by omega)]; rfl, rfl⟩
  · go_enter Tryz.func47, Tryz.ntmps47
    go_wp2
    go_ret
    exact ⟨by rw [HB.out, decide_eq_false (show ¬ (0 ≤ d ∧ d < (D : Int)) by omega)]; rfl, rfl⟩
theorem daowner_any (d : Int) (w : World) (h : DA w y b c q P D O L T) :
    Calls Tryz.prog 24 #[.pointer (some ⟨y, 0, none⟩), .int .i64 d] w fun e w' => e = .returned (.int .i64 (aoX D O L d)) ∧ w = w' := by
  have H := Lib.hid h
  obtain ⟨_, _, hc⟩ := h.heads
  cases hb : adB D d with
  | true =>
    have HB := Lib.hid hb
    obtain ⟨i, rfl, hi⟩ := adB_way hb
    obtain ⟨_, _, e1⟩ := a_yes D O L i hi
    obtain ⟨c0, _, _⟩ := h.at_ i hi
    rw [e1]
    generalize (if L i = 0 then O i else -1) = X at *
    have hiI : (i : Int) < D := by omega
    clear h hb e1
    go_enter Tryz.func24, Tryz.ntmps24
    go_wp2_with fail
    refine (dathere_any _ _ H.out).mono ?_
    rintro e w' ⟨rfl, rfl⟩
    rw [HB.out]
    go_wp2_with fail
    go_ret
    exact ⟨rfl, rfl⟩
  | false =>
    obtain ⟨_, _, e1⟩ := a_no D O L d hb
    have HB := Lib.hid hb
    rw [e1]
    clear h hb e1
    go_enter Tryz.func24, Tryz.ntmps24
    go_wp2_with fail
    refine (dathere_any _ _ H.out).mono ?_
    rintro e w' ⟨rfl, rfl⟩
    rw [HB.out]
    go_wp2_with fail
    go_ret
    exact ⟨rfl, rfl⟩
theorem damove_no (d t : Int) (w : World) (h : DA w y b c q P D O L T) (hb : amB D P d t = false) :
    Calls Tryz.prog 25 #[.pointer (some ⟨y, 0, none⟩), .int .i64 d, .int .i64 t] w fun e w' => e = .returned (.int .i64 1500) ∧ w = w' := by
  obtain ⟨_, cP, _⟩ := h.heads
  have H := Lib.hid h; clear h
  unfold amB at hb
  cases hd : adB D d with
  | false =>
    have HB := Lib.hid hd; clear hb hd
    go_enter Tryz.func25, Tryz.ntmps25
    go_wp2_with fail
    refine (dathere_any _ _ H.out).mono ?_
    rintro e w' ⟨rfl, rfl⟩
    rw [HB.out]
    go_wp2_with fail
    go_ret
    exact ⟨rfl, rfl⟩
  | true =>
    rw [hd, Bool.true_and] at hb
    have ht : t < 0 ∨ (decide (t < 0) = false ∧ (P : Int) ≤ t) := by
      unfold adB at hb
      simp only [decide_eq_false_iff_not] at hb ⊢
      omega
    have HB := Lib.hid hd; clear hb hd
    rcases ht with ht | ⟨ht, ht2⟩
    all_goals
      go_enter Tryz.func25, Tryz.ntmps25
      go_wp2_with fail
      refine (dathere_any _ _ H.out).mono ?_
      rintro e w' ⟨rfl, rfl⟩
      rw [HB.out]
      go_wp2_with fail
      go_ret
      exact ⟨rfl, rfl⟩
theorem damove_busy (i : Nat) (t : Int) (w : World) (h : DA w y b c q P D O L T) (hi : i < D) (ht : adB P t = true) (hl : L i ≠ 0) :
    Calls Tryz.prog 25 #[.pointer (some ⟨y, 0, none⟩), .int .i64 i, .int .i64 t] w fun e w' => e = .returned (.int .i64 1501) ∧ w = w' := by
  obtain ⟨_, cP, hc⟩ := h.heads
  obtain ⟨_, _, c2⟩ := h.at_ i hi
  have H := Lib.hid h; clear h
  have hiI : (i : Int) < D := by omega
  have HB := Lib.hid (adB_nat hi)
  unfold adB at ht
  simp only [decide_eq_true_eq] at ht
  have t0 : decide (t < 0) = false := by simp; omega
  have t1 : decide ((P : Int) ≤ t) = false := by simp; omega
  have hlI : 0 < (L i : Int) := by omega
  generalize (L i : Int) = l at *
  clear ht hl hi
  go_enter Tryz.func25, Tryz.ntmps25
  go_wp2_with fail
  refine (dathere_any _ _ H.out).mono ?_
  rintro e w' ⟨rfl, rfl⟩
  rw [HB.out]
  go_wp2_with fail
  go_ret
  exact ⟨rfl, rfl⟩
end
end Go.Proofs.YtkaalinoiilmoaaGreat
