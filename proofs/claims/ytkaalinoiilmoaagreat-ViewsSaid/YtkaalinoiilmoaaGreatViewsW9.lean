/-
  What the proofs lean on: contracts of the program's functions, plain facts.
-/
import Derived.Test.YtkaalinoiilmoaaGreatViewsW8
import Derived.Test.YtkaalinoiilmoaaGreatViewsW3
import Derived.Deep.RegionHeld3
import Derived.Test.YtkaalinoiilmoaaGreatViewsW6
import Derived.Test.YtkaalinoiilmoaaGreatViewsW2
namespace Go.Proofs.YtkaalinoiilmoaaGreat
open Go.RowKit
set_option linter.unusedVariables false
set_option linter.unusedSimpArgs false
set_option maxRecDepth 100000
theorem ownP_at (l : List Pa) (k : Nat) (hk : k < l.length) (i f : Int) : ownP i (l.drop k) f = if f ∈ (l.getD k paD).fr then i else ownP (i + 1) (l.drop (k + 1)) f := by
  rw [List.drop_eq_getElem_cons hk]
  simp only [ownP, List.getD, List.getElem?_eq_getElem hk, Option.getD_some]
theorem in_row {l : List Int} {x : Int} {j : Nat} (hj : j < l.length) (h : l.getD j 0 = x) : x ∈ l := by
  rw [← h]
  simp only [List.getD, List.getElem?_eq_getElem hj, Option.getD_some]
  exact List.getElem_mem hj
theorem in_row_no {l : List Int} {x : Int} (h : ∀ j, j < l.length → l.getD j 0 ≠ x) : ¬ x ∈ l := by
  intro hm
  obtain ⟨j, hj, e⟩ := List.getElem_of_mem hm
  exact h j hj (by simp [List.getD, List.getElem?_eq_getElem hj, e])
section
variable {w : World} {c : Cf} {vp vd vw vg : Value}
set_option maxHeartbeats 2000000 in
theorem rowner_any (h : CfAt w vp vd vw vg c) (f : Int) : Calls Tryz.prog 52 #[.agg #[.int .i64 c.fr, vp, vd, .int .i64 c.mj, vw, vg, .int .i64 c.se, .int .i64 c.qu, .int .i64 c.qt], .int .i64 f] w fun e w' => e = .returned (.int .i64 (ownF c f)) ∧ Below w.heap.size w w' := by
  obtain ⟨hb, hB⟩ := cf_box w c vp vd vw vg
  have h1 := (h.below hB).ps
  have hz := h.pz
  obtain ⟨A, cap, rfl, hA⟩ := h1
  have hz1 := hz.1
  obtain ⟨-, k1, -⟩ := cf_at hb
  have HB := Lib.hid hB; have HA := Lib.hid hA; have HZ := Lib.hid hz.2
  obtain ⟨Q, hQ⟩ : ∃ Q, ownF c f = Q := ⟨_, rfl⟩
  rw [hQ]
  have HQ : Hid (Q = ownP (0 : Nat) (c.ps.drop 0) f) := Lib.hid (by rw [← hQ, List.drop_zero]; rfl)
  clear h hb hB hA hz hQ
  generalize hpn : c.ps.length = n at *
  have HPN := Lib.hid hpn
  clear hpn
  go_enter Tryz.func52, Tryz.ntmps52
  go_wp2_with fail
  generalize w.alloc (.cells #[.int .i64 c.fr, .slice A n cap, vd, .int .i64 c.mj, vw, vg, .int .i64 c.se, .int .i64 c.qu, .int .i64 c.qt] 27) = w1 at *
  go_loopw [5] (fun i wr => ∃ k : Nat, k ≤ n ∧ i = .int .i64 k ∧ wr = w1 ∧ Hid (Q = ownP k (c.ps.drop k) f)) (fun i _ => n - (intOf i).toNat)
  case atStart => exact ⟨0, by omega, rfl, rfl, HQ⟩
  case round =>
    obtain ⟨k, hk, rfl, rfl, H⟩ := hrel
    by_cases hlt : k < n
    · obtain ⟨b, o, rfl, hbw, hat⟩ := HA.out (by omega)
      obtain ⟨A2, c2, -, -, r2, -, -, hsl, -⟩ := hat k hlt
      have hzf := HZ.out k
      have hst := ownP_at c.ps k (by rw [HPN.out]; exact hlt) k f
      rw [← H.out] at hst
      have HST := Lib.hid hst
      obtain ⟨A3, c3, e3, -, -, hS⟩ := hsl
      simp only [Value.slice.injEq] at e3
      obtain ⟨rfl, -, rfl⟩ := e3
      have HS := Lib.hid hS
      clear hat hst hS
      generalize (c.ps.getD k paD).fr = fr at *
      generalize hm : fr.length = m at *
      have HM := Lib.hid hm
      clear hm
      go_wp2_with fail
      go_loop [6] (fun i => ∃ j : Nat, j ≤ m ∧ i = .int .i64 j ∧ Hid (∀ q, q < j → fr.getD q 0 ≠ f)) (fun i => m - (intOf i).toNat)
      case atStart => exact ⟨0, by omega, rfl, Lib.hid fun j hj => by omega⟩
      case round =>
        obtain ⟨j, hj, rfl, HJ⟩ := hrel
        by_cases hjm : j < m
        · obtain ⟨b', o', rfl, hb', hcell⟩ := HS.out (by omega)
          have c0 := hcell j _ (ints_get fr j (by rw [HM.out]; exact hjm))
          clear hcell
          by_cases he : fr.getD j 0 = f
          · have HE : Hid (Q = (k : Int)) := Lib.hid (by rw [HST.out, if_pos (in_row (by rw [HM.out]; exact hjm) he)])
            rw [he] at c0
            clear he
            go_wp2
            go_ret
            exact ⟨by rw [HE.out]; rfl, HB.out⟩
          · have HE := Lib.hid he
            have he2 : (fr.getD j 0 == f) = false := by simpa using he
            generalize fr.getD j 0 = y at c0 he2
            clear he
            go_wp2
            go_round
            case rel => exact ⟨j + 1, by omega, by go_num, Lib.hid fun q hq => by
              by_cases e : q = j
              · rw [e]; exact HE.out
              · exact HJ.out q (by omega)⟩
            case measure => simp [intOf]; omega
        · obtain rfl : j = m := by omega
          have HE : Hid (Q = ownP ((k + 1 : Nat) : Int) (c.ps.drop (k + 1)) f) := Lib.hid (by rw [HST.out, if_neg (in_row_no (fun q hq => HJ.out q (by rw [← HM.out]; exact hq)))]; rfl)
          go_wp2
          go_roundw
          case rel => exact ⟨k + 1, by omega, by go_num, by first | rfl | trivial, HE⟩
          case measure => simp [intOf]; omega
    · obtain rfl : k = n := by omega
      have HE : Hid (Q = -1) := Lib.hid (by rw [H.out, List.drop_eq_nil_of_le (by rw [HPN.out]; exact Nat.le_refl _)]; rfl)
      go_wp2
      go_ret
      exact ⟨by rw [HE.out]; rfl, HB.out⟩
theorem grB_at0 (c : Cf) (k : Nat) (l : List Gr) (hk : k < l.length) : grB c (l.take k) (l.drop k) = ((okG c (l.getD k grD) && !(l.take k).any (sgB (l.getD k grD))) && grB c (l.take (k + 1)) (l.drop (k + 1))) := by
  rw [List.drop_eq_getElem_cons hk, List.take_add_one, List.getElem?_eq_getElem hk]
  simp only [grB, List.getD, List.getElem?_eq_getElem hk, Option.getD_some, Option.toList_some]
theorem any_take_yes {l : List Gr} {x : Gr} {k j : Nat} (hj : j < k) (hk : k ≤ l.length) (h : sgB x (l.getD j grD) = true) : (l.take k).any (sgB x) = true := by
  refine List.any_eq_true.2 ⟨l.getD j grD, ?_, h⟩
  have hl : j < l.length := by omega
  simp only [List.getD, List.getElem?_eq_getElem hl, Option.getD_some]
  rw [List.mem_take_iff_getElem]
  exact ⟨j, by omega, rfl⟩
theorem any_take_no {l : List Gr} {x : Gr} {k : Nat} (hk : k ≤ l.length) (h : ∀ j, j < k → sgB x (l.getD j grD) = false) : (l.take k).any (sgB x) = false := by
  refine List.any_eq_false.2 (fun y hy => ?_)
  rw [List.mem_take_iff_getElem] at hy
  obtain ⟨j, hj, rfl⟩ := hy
  have := h j (by omega)
  simp only [List.getD, List.getElem?_eq_getElem (show j < l.length by omega), Option.getD_some] at this
  rw [this]; simp
set_option maxHeartbeats 4000000 in
theorem rgrants_any (h : CfAt w vp vd vw vg c) : Calls Tryz.prog 42 #[.agg #[.int .i64 c.fr, vp, vd, .int .i64 c.mj, vw, vg, .int .i64 c.se, .int .i64 c.qu, .int .i64 c.qt]] w fun e w' => e = .returned (.bool (gsB c)) ∧ Below w.heap.size w w' := by
  obtain ⟨hb, hB⟩ := cf_box w c vp vd vw vg
  have h1 := h.below hB
  obtain ⟨A, cap, rfl, -⟩ := h.ps
  have hz := h.gz
  have hpz := h.pz.1
  have hgs := h1.gs
  obtain ⟨A', cap', rfl⟩ : ∃ A' cap', vg = .slice A' c.gs.length cap' := by obtain ⟨A', c', e, _⟩ := hgs; exact ⟨A', c', e⟩
  have HB := Lib.hid hB; have HCB := Lib.hid hb; have HGS := Lib.hid hgs; have H1 := Lib.hid h1
  obtain ⟨Q, hQ⟩ : ∃ Q, gsB c = Q := ⟨_, rfl⟩
  rw [hQ]
  have HQ : Hid (Q = grB c (c.gs.take 0) (c.gs.drop 0)) := Lib.hid (by rw [List.take_zero, List.drop_zero, ← hQ]; rfl)
  have hlt1 : w.heap.size < (w.alloc (.cells #[.int .i64 c.fr, .slice A c.ps.length cap, vd, .int .i64 c.mj, vw, .slice A' c.gs.length cap', .int .i64 c.se, .int .i64 c.qu, .int .i64 c.qt] 27)).heap.size := by simp
  clear h h1 hb hB hgs hQ
  generalize hpn : c.ps.length = n at *
  generalize hgn : c.gs.length = m at *
  have HPN := Lib.hid hpn; have HGN := Lib.hid hgn
  clear hpn hgn
  go_enter Tryz.func42, Tryz.ntmps42
  go_wp2_with fail
  generalize w.alloc (.cells #[.int .i64 c.fr, .slice A n cap, vd, .int .i64 c.mj, vw, .slice A' m cap', .int .i64 c.se, .int .i64 c.qu, .int .i64 c.qt] 27) = w1 at *
  go_loopw [3] (fun i wr => ∃ k : Nat, k ≤ m ∧ i = .int .i64 k ∧ Hid (Q = grB c (c.gs.take k) (c.gs.drop k) ∧ Below w1.heap.size w1 wr)) (fun i _ => m - (intOf i).toNat)
  case atStart => exact ⟨0, by omega, rfl, Lib.hid ⟨HQ.out, Below.refl _ _⟩⟩
  case round =>
    obtain ⟨k, hk, rfl, H⟩ := hrel
    obtain ⟨hst, hbel⟩ := H.out
    obtain ⟨f0, f1, f2, f3, f4, f5, f6, f7, f8⟩ := cf_at (HCB.out.below hbel hlt1)
    by_cases hlt : k < m
    · have hws := hbel.size
      obtain ⟨b, o, rfl, hb1, q0, q1, q2⟩ := grs_at (HGS.out.below hbel) HGN.out k hlt
      rw [grB_at0 c k c.gs (by rw [HGN.out]; exact hlt)] at hst
      have HANY := Lib.hid (fun x (h : ∀ j, j < k → sgB x (c.gs.getD j grD) = false) => any_take_no (l := c.gs) (x := x) (by rw [HGN.out]; exact hk) h)
      have HANZ := Lib.hid (fun x j (hj : j < k) (h : sgB x (c.gs.getD j grD) = true) => any_take_yes (l := c.gs) (x := x) hj (by rw [HGN.out]; exact hk) h)
      obtain ⟨xf, xt, xw, hx⟩ : ∃ xf xt xw, c.gs.getD k grD = ⟨xf, xt, xw⟩ := ⟨_, _, _, rfl⟩
      rw [hx] at hst q0 q1 q2
      simp only at q0 q1 q2
      have hz2 : wr.heap.size < (wr.alloc (.cells #[.int .i64 xf, .int .i64 xt, .bool xw] 65)).heap.size := by simp
      have hbl4 : Below w1.heap.size w1 (wr.alloc (.cells #[.int .i64 xf, .int .i64 xt, .bool xw] 65)) := hbel.alloc hws _
      have hgb : Blk (wr.alloc (.cells #[.int .i64 xf, .int .i64 xt, .bool xw] 65)) wr.heap.size 65 [.int .i64 xf, .int .i64 xt, .bool xw] := Blk.new _ _ _
      have HOF := Lib.hid (rowner_any (H1.out.below hbl4) xf)
      have HCB4 := Lib.hid (HCB.out.below hbl4 hlt1)
      obtain ⟨f0, f1, f2, f3, f4, f5, f6, f7, f8⟩ := cf_at HCB4.out
      have c0 := hgb.cell 0
      simp only [List.getElem?_cons_zero] at c0
      have HST := Lib.hid hst; have HBL := Lib.hid hbl4; have HGB := Lib.hid hgb
      clear hst hbel hx hbl4 hgb H
      go_wp2_with fail
      generalize wr.alloc (.cells #[.int .i64 xf, .int .i64 xt, .bool xw] 65) = w4 at *
      generalize hzz : wr.heap.size = z at *
      clear hzz
      refine HOF.out.mono ?_
      rintro e w5 ⟨rfl, b5⟩
      have HB5 := Lib.hid (Below.down HBL.out b5 HBL.out.size)
      have HG5 := Lib.hid (HGB.out.below b5 hz2)
      have HC5 := Lib.hid (HCB4.out.below b5 HCB4.out.lt)
      have g0 := HG5.out.cell 0
      have g1 := HG5.out.cell 1
      simp only [List.getElem?_cons_zero, List.getElem?_cons_succ] at g0 g1
      have j1 := (cf_at HC5.out).2.1
      have h5z : z < w5.heap.size := by have := b5.size; omega
      have HOK : Hid (okG c ⟨xf, xt, xw⟩ = (decide (0 ≤ ownF c xf) && (inP n xt && decide (xt ≠ ownF c xf)))) := Lib.hid (by rw [← HPN.out]; rfl)
      obtain ⟨N, hN⟩ : ∃ N, ownF c xf = N := ⟨_, rfl⟩
      rw [hN] at HOK
      clear f0 f1 f2 f3 f4 f5 f6 f7 f8 q0 q1 q2 c0 b5
      rw [hN]
      clear hN
      by_cases hn0 : 0 ≤ N
      · by_cases ht0 : 0 ≤ xt
        · by_cases ht1 : xt < (n : Int)
          · obtain ⟨t, rfl⟩ := Int.eq_ofNat_of_zero_le ht0
            have htn : t < n := by omega
            have htd : decide (n ≤ t) = false := decide_eq_false (by omega)
            by_cases hto : (t : Int) = N
            · have e : Q = false := by rw [HST.out, HOK.out, decide_eq_false (show ¬ (t : Int) ≠ N from fun h => h hto)]; simp
              subst e
              have hte : ((t : Int) == N) = true := by rw [hto]; simp
              clear hto
              go_wp2_with fail
              go_ret
              exact ⟨rfl, Below.down HB.out HB5.out HB.out.size⟩
            · have hte : ((t : Int) == N) = false := by simpa using hto
              have HOKT : Hid (okG c ⟨xf, t, xw⟩ = true) := Lib.hid (by rw [HOK.out, decide_eq_true hn0, inP_at htn, decide_eq_true hto]; rfl)
              have HST2 : Hid (Q = (!(c.gs.take k).any (sgB ⟨xf, t, xw⟩) && grB c (c.gs.take (k + 1)) (c.gs.drop (k + 1)))) := Lib.hid (by rw [HST.out, HOKT.out, Bool.true_and])
              have HS5 := Lib.hid (HGS.out.below HB5.out)
              clear hto HST HOK
              go_wp2_with fail
              clear g0 g1 j1
              go_loopw [6] (fun i wr => ∃ j : Nat, j ≤ k ∧ i = .int .i64 j ∧ Hid ((∀ q, q < j → sgB ⟨xf, t, xw⟩ (c.gs.getD q grD) = false) ∧ Below w5.heap.size w5 wr)) (fun i _ => k - (intOf i).toNat)
              case atStart => exact ⟨0, by omega, rfl, Lib.hid ⟨fun j hj => by omega, Below.refl _ _⟩⟩
              case round =>
                obtain ⟨j, hj, rfl, HJ⟩ := hrel
                obtain ⟨hja, hjb⟩ := HJ.out
                have j5 := (cf_at (HC5.out.below hjb HC5.out.lt)).2.2.2.2.2.1
                have hg6 := HG5.out.below hjb h5z
                have g0 := hg6.cell 0
                have g1 := hg6.cell 1
                simp only [List.getElem?_cons_zero, List.getElem?_cons_succ] at g0 g1
                by_cases hjk : j < k
                · obtain ⟨b', o', e', -, r0, r1, -⟩ := grs_at (HS5.out.below hjb) HGN.out j (by omega)
                  simp only [Option.some.injEq, Addr.mk.injEq, and_true] at e'
                  obtain ⟨rfl, rfl⟩ := e'
                  have hjm : (j : Int) < m := by omega
                  have hjm2 : j < m := by omega
                  obtain ⟨yf, yt, yw, hy⟩ : ∃ yf yt yw, c.gs.getD j grD = ⟨yf, yt, yw⟩ := ⟨_, _, _, rfl⟩
                  rw [hy] at r0 r1
                  simp only at r0 r1
                  have HY := Lib.hid hy
                  have HJB := Lib.hid hjb; have HJA := Lib.hid hja
                  clear hy hjb hja hg6 HJ
                  by_cases hef : yf = xf
                  · by_cases het : yt = t
                    · have e : Q = false := by
                        rw [HST2.out, HANZ.out ⟨xf, t, xw⟩ j hjk (by rw [HY.out]; unfold sgB; exact decide_eq_true ⟨hef, het⟩)]; rfl
                      subst e
                      subst hef het
                      go_wp2_with fail
                      go_quiet (fail)
                      go_wp2_with fail
                      go_ret
                      exact ⟨rfl, bdrewN (Below.down (Below.down HB.out HB5.out HB.out.size) HJB.out (by have := HB.out.size; have := HB5.out.size; omega)) _⟩
                    · have he2 : (yt == (t : Int)) = false := by simpa using het
                      have HE : Hid (sgB ⟨xf, t, xw⟩ (c.gs.getD j grD) = false) := Lib.hid (by rw [HY.out]; unfold sgB; exact decide_eq_false (fun h => het h.2))
                      subst hef
                      clear het
                      go_wp2_with fail
                      go_quiet (fail)
                      go_wp2_with fail
                      go_roundw
                      case rel => exact ⟨j + 1, by omega, by go_num, Lib.hid ⟨fun q hq => by
                        by_cases e : q = j
                        · rw [e]; exact HE.out
                        · exact HJA.out q (by omega), bdrewN HJB.out _⟩⟩
                      case measure => simp [intOf]; omega
                  · have he2 : (yf == xf) = false := by simpa using hef
                    have HE : Hid (sgB ⟨xf, t, xw⟩ (c.gs.getD j grD) = false) := Lib.hid (by rw [HY.out]; unfold sgB; exact decide_eq_false (fun h => hef h.1))
                    clear hef
                    go_wp2_with fail
                    go_quiet (fail)
                    go_wp2_with fail
                    go_roundw
                    case rel => exact ⟨j + 1, by omega, by go_num, Lib.hid ⟨fun q hq => by
                      by_cases e : q = j
                      · rw [e]; exact HE.out
                      · exact HJA.out q (by omega), bdrewN HJB.out _⟩⟩
                    case measure => simp [intOf]; omega
                · obtain rfl : j = k := by omega
                  have HE : Hid (Q = grB c (c.gs.take (j + 1)) (c.gs.drop (j + 1))) := Lib.hid (by rw [HST2.out, HANY.out _ hja]; rfl)
                  have HJB := Lib.hid (Below.down HB5.out hjb HB5.out.size)
                  clear hjb hja hg6 HJ
                  go_wp2_with fail
                  go_roundw
                  case rel => exact ⟨j + 1, by omega, by go_num, Lib.hid ⟨HE.out, HJB.out⟩⟩
                  case measure => simp [intOf]; omega
          · have e : Q = false := by rw [HST.out, HOK.out, show inP n xt = false from decide_eq_false (fun h => ht1 h.2)]; simp
            subst e
            have ht2 : (n : Int) ≤ xt := by omega
            clear ht1
            go_wp2_with fail
            go_ret
            exact ⟨rfl, Below.down HB.out HB5.out HB.out.size⟩
        · have e : Q = false := by rw [HST.out, HOK.out, show inP n xt = false from decide_eq_false (fun h => ht0 h.1)]; simp
          subst e
          have ht2 : xt < 0 := by omega
          clear ht0
          go_wp2_with fail
          go_ret
          exact ⟨rfl, Below.down HB.out HB5.out HB.out.size⟩
      · have e : Q = false := by rw [HST.out, HOK.out, decide_eq_false hn0]; rfl
        subst e
        have hn2 : N < 0 := by omega
        clear hn0
        go_wp2_with fail
        go_ret
        exact ⟨rfl, Below.down HB.out HB5.out HB.out.size⟩
    · obtain rfl : k = m := by omega
      have e : Q = true := by rw [hst, List.drop_eq_nil_of_le (by rw [HGN.out]; exact Nat.le_refl _)]; rfl
      subst e
      have HBL := Lib.hid hbel
      clear hst hbel H
      go_wp2_with fail
      go_ret
      exact ⟨rfl, Below.down HB.out HBL.out HB.out.size⟩
end
end Go.Proofs.YtkaalinoiilmoaaGreat
namespace Go.Proofs.YtkaalinoiilmoaaGreat
open Go.RowKit
set_option linter.unusedVariables false
set_option linter.unusedSimpArgs false
set_option maxRecDepth 100000
theorem ra_take (c : Cf) (a b : Int) {k : Nat} (hk : k < c.gs.length) (h : ∀ j, j < k → rgB c a b (c.gs.getD j grD) = false) (h2 : rgB c a b (c.gs.getD k grD) = true) : c.gs.any (rgB c a b) = true := by
  rw [← any_range c.gs grD]; exact range_any_yes hk h2
theorem ra_none (c : Cf) (a b : Int) (h : ∀ j, j < c.gs.length → rgB c a b (c.gs.getD j grD) = false) : c.gs.any (rgB c a b) = false := by
  rw [← any_range c.gs grD]; exact range_any_no h
structure VeS (w1 : World) (c : Cf) (vp vd' vw vg : Value) (y pb pa i j : Nat) (li ci lj cj : Int) (gb ga k : Nat) (gr : Gr) (w' : World) : Prop where
  vd : VdS w1 c vp vd' vw vg y pb pa i j li ci lj cj w'
  g : w'.cell? ⟨gb, ga + k * 3, none⟩ = some (.int .i64 gr.f) ∧ w'.cell? ⟨gb, ga + k * 3 + 1, none⟩ = some (.int .i64 gr.t) ∧ w'.cell? ⟨gb, ga + k * 3 + 2, none⟩ = some (.bool gr.wr)
  glt : gb < w'.heap.size
section
variable {w1 w' w2 : World} {c : Cf} {vp vd' vw vg : Value} {y pb pa i j : Nat} {li ci lj cj : Int} {gb ga k : Nat} {gr : Gr}
theorem VeS.next (h : VeS w1 c vp vd' vw vg y pb pa i j li ci lj cj gb ga k gr w') (hb : Below w'.heap.size w' w2) : VeS w1 c vp vd' vw vg y pb pa i j li ci lj cj gb ga k gr w2 := by
  have e := fun x => hb.cell (p := ⟨gb, x, none⟩) h.glt
  exact ⟨h.vd.next hb, ⟨(e _).trans h.g.1, (e _).trans h.g.2.1, (e _).trans h.g.2.2⟩, Nat.lt_of_lt_of_le h.glt hb.size⟩
theorem VeS.drew (h : VeS w1 c vp vd' vw vg y pb pa i j li ci lj cj gb ga k gr w') : VeS w1 c vp vd' vw vg y pb pa i j li ci lj cj gb ga k gr w'.drew := h.next (bdrewN (Below.refl _ _) 1)
theorem VeS.all (h : VeS w1 c vp vd' vw vg y pb pa i j li ci lj cj gb ga k gr w') : (w'.cell? ⟨y, 0, none⟩ = some (.int .i64 c.fr) ∧ w'.cell? ⟨y, 1, none⟩ = some vp ∧ w'.cell? ⟨y, 2, none⟩ = some vd' ∧ w'.cell? ⟨y, 3, none⟩ = some (.int .i64 c.mj) ∧ w'.cell? ⟨y, 4, none⟩ = some vw ∧ w'.cell? ⟨y, 5, none⟩ = some vg ∧ w'.cell? ⟨y, 6, none⟩ = some (.int .i64 c.se) ∧ w'.cell? ⟨y, 7, none⟩ = some (.int .i64 c.qu) ∧ w'.cell? ⟨y, 8, none⟩ = some (.int .i64 c.qt)) ∧ w'.cell? ⟨gb, ga + k * 3, none⟩ = some (.int .i64 gr.f) ∧ VeS w1 c vp vd' vw vg y pb pa i j li ci lj cj gb ga k gr w' :=
  ⟨cf_at h.vd.cb, h.g.1, h⟩
end
set_option maxHeartbeats 8000000 in
theorem rdirect_any {w : World} {c : Cf} {vp vd vw vg : Value} (hc : CfAt w vp vd vw vg c) (i j : Nat) (hi : i < c.ps.length) (hj : j < c.ps.length) :
    Calls Tryz.prog 28 #[.agg #[.int .i64 c.fr, vp, vd, .int .i64 c.mj, vw, vg, .int .i64 c.se, .int .i64 c.qu, .int .i64 c.qt], .int .i64 (i : Int), .int .i64 (j : Int)] w fun e w' => e = .returned (.bool (rdB_V c i j)) ∧ Below w.heap.size w w' := by
  obtain ⟨A, cap, pb, pa, sv, rfl, hA, hr⟩ := hc.ps.rows
  obtain ⟨rfl, hpb⟩ := hA (by omega)
  obtain ⟨⟨i0, i1, -, -, -⟩, -⟩ := hr i hi
  obtain ⟨⟨j0, j1, -, -, -⟩, -⟩ := hr j hj
  have hps := hc.pz.1
  have hgs := hc.gs
  have hgz := hc.gz
  obtain ⟨Ag, cg, rfl, hgcap, -, -⟩ := id hgs
  obtain ⟨hb, hB⟩ := cf_box w c (.slice (some ⟨pb, pa, none⟩) c.ps.length cap) vd vw (.slice Ag c.gs.length cg)
  have g := fun x => hB.cell (p := ⟨pb, x, none⟩) hpb
  have hS : VdS (w.alloc (.cells #[.int .i64 c.fr, (.slice (some ⟨pb, pa, none⟩) c.ps.length cap), vd, .int .i64 c.mj, vw, (.slice Ag c.gs.length cg), .int .i64 c.se, .int .i64 c.qu, .int .i64 c.qt] 27)) c (.slice (some ⟨pb, pa, none⟩) c.ps.length cap) vd vw (.slice Ag c.gs.length cg) w.heap.size pb pa i j (c.ps.getD i paD).lv (c.ps.getD i paD).ct (c.ps.getD j paD).lv (c.ps.getD j paD).ct (w.alloc (.cells #[.int .i64 c.fr, (.slice (some ⟨pb, pa, none⟩) c.ps.length cap), vd, .int .i64 c.mj, vw, (.slice Ag c.gs.length cg), .int .i64 c.se, .int .i64 c.qu, .int .i64 c.qt] 27)) :=
    ⟨hb, hc.below hB, ⟨(g _).trans i0, (g _).trans i1, (g _).trans j0, (g _).trans j1⟩, Nat.lt_of_lt_of_le hpb hB.size, Below.refl _ _⟩
  have HB := Lib.hid hB
  obtain ⟨Q, hQ⟩ : ∃ Q, rdB_V c i j = Q := ⟨_, rfl⟩
  rw [hQ]
  obtain ⟨L, hL⟩ : ∃ L, ldB c i j = L := ⟨_, rfl⟩
  unfold rdB_V at hQ
  rw [hL] at hQ
  unfold ldB at hL
  simp only [Int.toNat_natCast] at hL
  have HQ := Lib.hid hQ; have HL := Lib.hid hL; have HGS := Lib.hid (hgs.below hB)
  clear hQ hL hB hb g i0 i1 j0 j1 hr hA hc hgs
  generalize (c.ps.getD i paD).lv = li at *
  generalize (c.ps.getD i paD).ct = ci at *
  generalize (c.ps.getD j paD).lv = lj at *
  generalize (c.ps.getD j paD).ct = cj at *
  generalize c.ps.length = n at *
  generalize hm : c.gs.length = m at *
  have HM := Lib.hid hm
  clear hm
  have hii : (i : Int) < (n : Int) := by omega
  have hji : (j : Int) < (n : Int) := by omega
  by_cases he : i = j
  · have HQ9 := Lib.hid (show Q = true by rw [← HQ.out, he]; simp)
    have hee : ((i : Int) == (j : Int)) = true := by rw [he]; simp
    clear he
    go_enter Tryz.func28, Tryz.ntmps28
    go_wp2_with fail
    generalize w.alloc (.cells #[.int .i64 c.fr, (.slice (some ⟨pb, pa, none⟩) n cap), vd, .int .i64 c.mj, vw, (.slice Ag m cg), .int .i64 c.se, .int .i64 c.qu, .int .i64 c.qt] 27) = w1 at *
    generalize hz : w.heap.size = y at *
    refine wp_region_held_drew (S := (fun w' => (w'.cell? ⟨y, 0, none⟩ = some (.int .i64 c.fr) ∧ w'.cell? ⟨y, 1, none⟩ = some (.slice (some ⟨pb, pa, none⟩) n cap) ∧ w'.cell? ⟨y, 2, none⟩ = some vd ∧ w'.cell? ⟨y, 3, none⟩ = some (.int .i64 c.mj) ∧ w'.cell? ⟨y, 4, none⟩ = some vw ∧ w'.cell? ⟨y, 5, none⟩ = some (.slice Ag m cg) ∧ w'.cell? ⟨y, 6, none⟩ = some (.int .i64 c.se) ∧ w'.cell? ⟨y, 7, none⟩ = some (.int .i64 c.qu) ∧ w'.cell? ⟨y, 8, none⟩ = some (.int .i64 c.qt) ∧ w'.cell? ⟨pb, pa + i * 5, none⟩ = some (.int .i64 li) ∧ w'.cell? ⟨pb, pa + i * 5 + 1, none⟩ = some (.int .i64 ci) ∧ w'.cell? ⟨pb, pa + j * 5, none⟩ = some (.int .i64 lj) ∧ w'.cell? ⟨pb, pa + j * 5 + 1, none⟩ = some (.int .i64 cj)) ∧ VdS w1 c (.slice (some ⟨pb, pa, none⟩) n cap) vd vw (.slice Ag m cg) y pb pa i j li ci lj cj w')) (by kernel_rfl) ?_ (fun hHeld => ?_)
    · try dsimp only
      (refine VdS.all ?_; (first | with_reducible assumption | with_reducible exact VdS.drew (by assumption) | with_reducible exact VdS.drew (And.right (by assumption)) | with_reducible exact VdS.next (by assumption) (by assumption) | with_reducible exact VdS.next (And.right (by assumption)) (by assumption)))
    refine wpAnyH_take (i := 0) (v := ?v0zA) rfl (by kernel_rfl) (by kernel_rfl) (by kernel_rfl) (fun _ _ _ h => h) (Or.inl ⟨by rfl, ?hy0zA⟩) (by assumption) ?rest0zA
    case hy0zA => intro w hSw; (try dsimp only at hSw); first | (go_simp; done) | (go_simp; with_reducible rfl)
    try simp only [Act.put, List.getElem_toArray, List.getElem_cons_succ, List.getElem_cons_zero, List.setIfInBounds_toArray, List.set_cons_zero, List.set_cons_succ]
    refine wpAnyH_take (i := 1) (v := ?v1zA) rfl (by kernel_rfl) (by kernel_rfl) (by kernel_rfl) (fun _ _ _ h => h) (Or.inl ⟨by rfl, ?hy1zA⟩) (by assumption) ?rest1zA
    case hy1zA => intro w hSw; (try dsimp only at hSw); first | (go_simp; done) | (go_simp; with_reducible rfl)
    try simp only [Act.put, List.getElem_toArray, List.getElem_cons_succ, List.getElem_cons_zero, List.setIfInBounds_toArray, List.set_cons_zero, List.set_cons_succ]
    refine wpAnyH_take (i := 2) (v := ?v2zA) rfl (by kernel_rfl) (by kernel_rfl) (by kernel_rfl) (fun _ _ _ h => h) (Or.inl ⟨by rfl, ?hy2zA⟩) (by assumption) ?rest2zA
    case hy2zA => intro w hSw; (try dsimp only at hSw); first | (go_simp; done) | (go_simp; with_reducible rfl)
    try simp only [Act.put, List.getElem_toArray, List.getElem_cons_succ, List.getElem_cons_zero, List.setIfInBounds_toArray, List.set_cons_zero, List.set_cons_succ]
    refine wpAnyH_take (i := 3) (v := ?v3zA) rfl (by kernel_rfl) (by kernel_rfl) (by kernel_rfl) (fun _ _ _ h => h) (Or.inl ⟨by rfl, ?hy3zA⟩) (by assumption) ?rest3zA
    case hy3zA => intro w hSw; (try dsimp only at hSw); first | (go_simp; done) | (go_simp; with_reducible rfl)
    try simp only [Act.put, List.getElem_toArray, List.getElem_cons_succ, List.getElem_cons_zero, List.setIfInBounds_toArray, List.set_cons_zero, List.set_cons_succ]
    refine wpAnyH_take (i := 4) (v := undef) rfl (by kernel_rfl) (by kernel_rfl) (by kernel_rfl) (fun _ _ _ h => h) (Or.inr ⟨by rfl, rfl⟩) (by assumption) ?rest4zA
    try simp only [Act.put, List.getElem_toArray, List.getElem_cons_succ, List.getElem_cons_zero, List.setIfInBounds_toArray, List.set_cons_zero, List.set_cons_succ]
    refine wpAnyH_take (i := 5) (v := undef) rfl (by kernel_rfl) (by kernel_rfl) (by kernel_rfl) (fun _ _ _ h => h) (Or.inr ⟨by rfl, rfl⟩) (by assumption) ?rest5zA
    try simp only [Act.put, List.getElem_toArray, List.getElem_cons_succ, List.getElem_cons_zero, List.setIfInBounds_toArray, List.set_cons_zero, List.set_cons_succ]
    refine wpAnyH_take (i := 6) (v := undef) rfl (by kernel_rfl) (by kernel_rfl) (by kernel_rfl) (fun _ _ _ h => h) (Or.inr ⟨by rfl, rfl⟩) (by assumption) ?rest6zA
    try simp only [Act.put, List.getElem_toArray, List.getElem_cons_succ, List.getElem_cons_zero, List.setIfInBounds_toArray, List.set_cons_zero, List.set_cons_succ]
    refine wpAnyH_take (i := 7) (v := undef) rfl (by kernel_rfl) (by kernel_rfl) (by kernel_rfl) (fun _ _ _ h => h) (Or.inr ⟨by rfl, rfl⟩) (by assumption) ?rest7zA
    try simp only [Act.put, List.getElem_toArray, List.getElem_cons_succ, List.getElem_cons_zero, List.setIfInBounds_toArray, List.set_cons_zero, List.set_cons_succ]
    refine wpAnyH_take (i := 8) (v := undef) rfl (by kernel_rfl) (by kernel_rfl) (by kernel_rfl) (fun _ _ _ h => h) (Or.inr ⟨by rfl, rfl⟩) (by assumption) ?rest8zA
    try simp only [Act.put, List.getElem_toArray, List.getElem_cons_succ, List.getElem_cons_zero, List.setIfInBounds_toArray, List.set_cons_zero, List.set_cons_succ]
    refine wpAnyH_take (i := 9) (v := undef) rfl (by kernel_rfl) (by kernel_rfl) (by kernel_rfl) (fun _ _ _ h => h) (Or.inr ⟨by rfl, rfl⟩) (by assumption) ?rest9zA
    try simp only [Act.put, List.getElem_toArray, List.getElem_cons_succ, List.getElem_cons_zero, List.setIfInBounds_toArray, List.set_cons_zero, List.set_cons_succ]
    refine wpAnyH_take (i := 10) (v := undef) rfl (by kernel_rfl) (by kernel_rfl) (by kernel_rfl) (fun _ _ _ h => h) (Or.inr ⟨by rfl, rfl⟩) (by assumption) ?rest10zA
    try simp only [Act.put, List.getElem_toArray, List.getElem_cons_succ, List.getElem_cons_zero, List.setIfInBounds_toArray, List.set_cons_zero, List.set_cons_succ]
    refine wpAnyH_take (i := 11) (v := undef) rfl (by kernel_rfl) (by kernel_rfl) (by kernel_rfl) (fun _ _ _ h => h) (Or.inr ⟨by rfl, rfl⟩) (by assumption) ?rest11zA
    try simp only [Act.put, List.getElem_toArray, List.getElem_cons_succ, List.getElem_cons_zero, List.setIfInBounds_toArray, List.set_cons_zero, List.set_cons_succ]
    refine wpAnyH_take (i := 12) (v := undef) rfl (by kernel_rfl) (by kernel_rfl) (by kernel_rfl) (fun _ _ _ h => h) (Or.inr ⟨by rfl, rfl⟩) (by assumption) ?rest12zA
    try simp only [Act.put, List.getElem_toArray, List.getElem_cons_succ, List.getElem_cons_zero, List.setIfInBounds_toArray, List.set_cons_zero, List.set_cons_succ]
    refine wpAnyH_take (i := 13) (v := undef) rfl (by kernel_rfl) (by kernel_rfl) (by kernel_rfl) (fun _ _ _ h => h) (Or.inr ⟨by rfl, rfl⟩) (by assumption) ?rest13zA
    try simp only [Act.put, List.getElem_toArray, List.getElem_cons_succ, List.getElem_cons_zero, List.setIfInBounds_toArray, List.set_cons_zero, List.set_cons_succ]
    refine wpAnyH_take (i := 14) (v := undef) rfl (by kernel_rfl) (by kernel_rfl) (by kernel_rfl) (fun _ _ _ h => h) (Or.inr ⟨by rfl, rfl⟩) (by assumption) ?rest14zA
    try simp only [Act.put, List.getElem_toArray, List.getElem_cons_succ, List.getElem_cons_zero, List.setIfInBounds_toArray, List.set_cons_zero, List.set_cons_succ]
    refine wpAnyH_take (i := 15) (v := undef) rfl (by kernel_rfl) (by kernel_rfl) (by kernel_rfl) (fun _ _ _ h => h) (Or.inr ⟨by rfl, rfl⟩) (by assumption) ?rest15zA
    try simp only [Act.put, List.getElem_toArray, List.getElem_cons_succ, List.getElem_cons_zero, List.setIfInBounds_toArray, List.set_cons_zero, List.set_cons_succ]
    refine wpAnyH_take (i := 16) (v := undef) rfl (by kernel_rfl) (by kernel_rfl) (by kernel_rfl) (fun _ _ _ h => h) (Or.inr ⟨by rfl, rfl⟩) (by assumption) ?rest16zA
    try simp only [Act.put, List.getElem_toArray, List.getElem_cons_succ, List.getElem_cons_zero, List.setIfInBounds_toArray, List.set_cons_zero, List.set_cons_succ]
    refine wpAnyH_take (i := 17) (v := ?v17zA) rfl (by kernel_rfl) (by kernel_rfl) (by kernel_rfl) (fun _ _ _ h => h) (Or.inl ⟨by rfl, ?hy17zA⟩) (by assumption) ?rest17zA
    case hy17zA => intro w hSw; (try dsimp only at hSw); first | (go_simp; done) | (go_simp; with_reducible rfl)
    try simp only [Act.put, List.getElem_toArray, List.getElem_cons_succ, List.getElem_cons_zero, List.setIfInBounds_toArray, List.set_cons_zero, List.set_cons_succ]
    refine wpAnyH_done (by kernel_rfl) ?_ _
    all_goals
      have HS9 := Lib.hid hHeld.2.below
      clear hHeld
      go_wp2_with fail
      go_ret
      exact ⟨by rw [HQ9.out]; rfl, by rw [hz]; exact Below.down HB.out HS9.out (by have := HB.out.size; omega)⟩
  · have hee : ((i : Int) == (j : Int)) = false := beq_eq_false_iff_ne.2 (by omega)
    have hd : decide ((i : Int) = (j : Int)) = false := decide_eq_false (by omega)
    rw [hd, Bool.false_or] at HQ
    have HNE := Lib.hid he
    clear he hd
    cases L with
    | true =>
      have HQ9 := Lib.hid (show Q = true by rw [← HQ.out]; rfl)
      go_enter Tryz.func28, Tryz.ntmps28
      go_wp2_with fail
      generalize w.alloc (.cells #[.int .i64 c.fr, (.slice (some ⟨pb, pa, none⟩) n cap), vd, .int .i64 c.mj, vw, (.slice Ag m cg), .int .i64 c.se, .int .i64 c.qu, .int .i64 c.qt] 27) = w1 at *
      generalize hz : w.heap.size = y at *
      refine wp_region_held_drew (S := (fun w' => (w'.cell? ⟨y, 0, none⟩ = some (.int .i64 c.fr) ∧ w'.cell? ⟨y, 1, none⟩ = some (.slice (some ⟨pb, pa, none⟩) n cap) ∧ w'.cell? ⟨y, 2, none⟩ = some vd ∧ w'.cell? ⟨y, 3, none⟩ = some (.int .i64 c.mj) ∧ w'.cell? ⟨y, 4, none⟩ = some vw ∧ w'.cell? ⟨y, 5, none⟩ = some (.slice Ag m cg) ∧ w'.cell? ⟨y, 6, none⟩ = some (.int .i64 c.se) ∧ w'.cell? ⟨y, 7, none⟩ = some (.int .i64 c.qu) ∧ w'.cell? ⟨y, 8, none⟩ = some (.int .i64 c.qt) ∧ w'.cell? ⟨pb, pa + i * 5, none⟩ = some (.int .i64 li) ∧ w'.cell? ⟨pb, pa + i * 5 + 1, none⟩ = some (.int .i64 ci) ∧ w'.cell? ⟨pb, pa + j * 5, none⟩ = some (.int .i64 lj) ∧ w'.cell? ⟨pb, pa + j * 5 + 1, none⟩ = some (.int .i64 cj)) ∧ VdS w1 c (.slice (some ⟨pb, pa, none⟩) n cap) vd vw (.slice Ag m cg) y pb pa i j li ci lj cj w')) (by kernel_rfl) ?_ (fun hHeld => ?_)
      · try dsimp only
        (refine VdS.all ?_; (first | with_reducible assumption | with_reducible exact VdS.drew (by assumption) | with_reducible exact VdS.drew (And.right (by assumption)) | with_reducible exact VdS.next (by assumption) (by assumption) | with_reducible exact VdS.next (And.right (by assumption)) (by assumption)))
      refine wpAnyH_take (i := 0) (v := ?v0zB) rfl (by kernel_rfl) (by kernel_rfl) (by kernel_rfl) (fun _ _ _ h => h) (Or.inl ⟨by rfl, ?hy0zB⟩) (by assumption) ?rest0zB
      case hy0zB => intro w hSw; (try dsimp only at hSw); first | (go_simp; done) | (go_simp; with_reducible rfl)
      try simp only [Act.put, List.getElem_toArray, List.getElem_cons_succ, List.getElem_cons_zero, List.setIfInBounds_toArray, List.set_cons_zero, List.set_cons_succ]
      refine wpAnyH_take (i := 1) (v := ?v1zB) rfl (by kernel_rfl) (by kernel_rfl) (by kernel_rfl) (fun _ _ _ h => h) (Or.inl ⟨by rfl, ?hy1zB⟩) (by assumption) ?rest1zB
      case hy1zB => intro w hSw; (try dsimp only at hSw); first | (go_simp; done) | (go_simp; with_reducible rfl)
      try simp only [Act.put, List.getElem_toArray, List.getElem_cons_succ, List.getElem_cons_zero, List.setIfInBounds_toArray, List.set_cons_zero, List.set_cons_succ]
      refine wpAnyH_take (i := 2) (v := ?v2zB) rfl (by kernel_rfl) (by kernel_rfl) (by kernel_rfl) (fun _ _ _ h => h) (Or.inl ⟨by rfl, ?hy2zB⟩) (by assumption) ?rest2zB
      case hy2zB => intro w hSw; (try dsimp only at hSw); first | (go_simp; done) | (go_simp; with_reducible rfl)
      try simp only [Act.put, List.getElem_toArray, List.getElem_cons_succ, List.getElem_cons_zero, List.setIfInBounds_toArray, List.set_cons_zero, List.set_cons_succ]
      refine wpAnyH_take (i := 3) (v := ?v3zB) rfl (by kernel_rfl) (by kernel_rfl) (by kernel_rfl) (fun _ _ _ h => h) (Or.inl ⟨by rfl, ?hy3zB⟩) (by assumption) ?rest3zB
      case hy3zB => intro w hSw; (try dsimp only at hSw); first | (go_simp; done) | (go_simp; with_reducible rfl)
      try simp only [Act.put, List.getElem_toArray, List.getElem_cons_succ, List.getElem_cons_zero, List.setIfInBounds_toArray, List.set_cons_zero, List.set_cons_succ]
      refine wpAnyH_take (i := 4) (v := ?v4zB) rfl (by kernel_rfl) (by kernel_rfl) (by kernel_rfl) (fun _ _ _ h => h) (Or.inl ⟨by rfl, ?hy4zB⟩) (by assumption) ?rest4zB
      case hy4zB => intro w hSw; (try dsimp only at hSw); first | (go_simp; done) | (go_simp; with_reducible rfl)
      try simp only [Act.put, List.getElem_toArray, List.getElem_cons_succ, List.getElem_cons_zero, List.setIfInBounds_toArray, List.set_cons_zero, List.set_cons_succ]
      refine wpAnyH_take (i := 5) (v := ?v5zB) rfl (by kernel_rfl) (by kernel_rfl) (by kernel_rfl) (fun _ _ _ h => h) (Or.inl ⟨by rfl, ?hy5zB⟩) (by assumption) ?rest5zB
      case hy5zB => intro w hSw; (try dsimp only at hSw); first | (go_simp; done) | (go_simp; with_reducible rfl)
      try simp only [Act.put, List.getElem_toArray, List.getElem_cons_succ, List.getElem_cons_zero, List.setIfInBounds_toArray, List.set_cons_zero, List.set_cons_succ]
      refine wpAnyH_take (i := 6) (v := ?v6zB) rfl (by kernel_rfl) (by kernel_rfl) (by kernel_rfl) (fun _ _ _ h => h) (Or.inl ⟨by rfl, ?hy6zB⟩) (by assumption) ?rest6zB
      case hy6zB => intro w hSw; (try dsimp only at hSw); first | (go_simp; done) | (go_simp; with_reducible rfl)
      try simp only [Act.put, List.getElem_toArray, List.getElem_cons_succ, List.getElem_cons_zero, List.setIfInBounds_toArray, List.set_cons_zero, List.set_cons_succ]
      refine wpAnyH_take (i := 7) (v := ?v7zB) rfl (by kernel_rfl) (by kernel_rfl) (by kernel_rfl) (fun _ _ _ h => h) (Or.inl ⟨by rfl, ?hy7zB⟩) (by assumption) ?rest7zB
      case hy7zB => intro w hSw; (try dsimp only at hSw); first | (go_simp; done) | (go_simp; with_reducible rfl)
      try simp only [Act.put, List.getElem_toArray, List.getElem_cons_succ, List.getElem_cons_zero, List.setIfInBounds_toArray, List.set_cons_zero, List.set_cons_succ]
      refine wpAnyH_take (i := 8) (v := ?v8zB) rfl (by kernel_rfl) (by kernel_rfl) (by kernel_rfl) (fun _ _ _ h => h) (Or.inl ⟨by rfl, ?hy8zB⟩) (by assumption) ?rest8zB
      case hy8zB => intro w hSw; (try dsimp only at hSw); first | (go_simp; done) | (go_simp; with_reducible rfl)
      try simp only [Act.put, List.getElem_toArray, List.getElem_cons_succ, List.getElem_cons_zero, List.setIfInBounds_toArray, List.set_cons_zero, List.set_cons_succ]
      refine wpAnyH_take (i := 9) (v := ?v9zB) rfl (by kernel_rfl) (by kernel_rfl) (by kernel_rfl) (fun _ _ _ h => h) (Or.inl ⟨by rfl, ?hy9zB⟩) (by assumption) ?rest9zB
      case hy9zB => intro w hSw; (try dsimp only at hSw); first | (go_simp; done) | (go_simp; with_reducible rfl)
      try simp only [Act.put, List.getElem_toArray, List.getElem_cons_succ, List.getElem_cons_zero, List.setIfInBounds_toArray, List.set_cons_zero, List.set_cons_succ]
      refine wpAnyH_take (i := 10) (v := ?v10zB) rfl (by kernel_rfl) (by kernel_rfl) (by kernel_rfl) (fun _ _ _ h => h) (Or.inl ⟨by rfl, ?hy10zB⟩) (by assumption) ?rest10zB
      case hy10zB => intro w hSw; (try dsimp only at hSw); first | (go_simp; done) | (go_simp; with_reducible rfl)
      try simp only [Act.put, List.getElem_toArray, List.getElem_cons_succ, List.getElem_cons_zero, List.setIfInBounds_toArray, List.set_cons_zero, List.set_cons_succ]
      refine wpAnyH_take (i := 11) (v := ?v11zB) rfl (by kernel_rfl) (by kernel_rfl) (by kernel_rfl) (fun _ _ _ h => h) (Or.inl ⟨by rfl, ?hy11zB⟩) (by assumption) ?rest11zB
      case hy11zB => intro w hSw; (try dsimp only at hSw); first | (go_simp; done) | (go_simp; with_reducible rfl)
      try simp only [Act.put, List.getElem_toArray, List.getElem_cons_succ, List.getElem_cons_zero, List.setIfInBounds_toArray, List.set_cons_zero, List.set_cons_succ]
      refine wpAnyH_take (i := 12) (v := ?v12zB) rfl (by kernel_rfl) (by kernel_rfl) (by kernel_rfl) (fun _ _ _ h => h) (Or.inl ⟨by rfl, ?hy12zB⟩) (by assumption) ?rest12zB
      case hy12zB => intro w hSw; (try dsimp only at hSw); first | (go_simp; done) | (go_simp; with_reducible rfl)
      try simp only [Act.put, List.getElem_toArray, List.getElem_cons_succ, List.getElem_cons_zero, List.setIfInBounds_toArray, List.set_cons_zero, List.set_cons_succ]
      refine wpAnyH_take (i := 13) (v := ?v13zB) rfl (by kernel_rfl) (by kernel_rfl) (by kernel_rfl) (fun _ _ _ h => h) (Or.inl ⟨by rfl, ?hy13zB⟩) (by assumption) ?rest13zB
      case hy13zB => intro w hSw; (try dsimp only at hSw); first | (go_simp; done) | (go_simp; with_reducible rfl)
      try simp only [Act.put, List.getElem_toArray, List.getElem_cons_succ, List.getElem_cons_zero, List.setIfInBounds_toArray, List.set_cons_zero, List.set_cons_succ]
      refine wpAnyH_take (i := 14) (v := ?v14zB) rfl (by kernel_rfl) (by kernel_rfl) (by kernel_rfl) (fun _ _ _ h => h) (Or.inl ⟨by rfl, ?hy14zB⟩) (by assumption) ?rest14zB
      case hy14zB => intro w hSw; (try dsimp only at hSw); first | (go_simp; done) | (go_simp; with_reducible rfl)
      try simp only [Act.put, List.getElem_toArray, List.getElem_cons_succ, List.getElem_cons_zero, List.setIfInBounds_toArray, List.set_cons_zero, List.set_cons_succ]
      refine wpAnyH_take (i := 15) (v := ?v15zB) rfl (by kernel_rfl) (by kernel_rfl) (by kernel_rfl) (fun _ _ _ h => h) (Or.inl ⟨by rfl, ?hy15zB⟩) (by assumption) ?rest15zB
      case hy15zB => intro w hSw; (try dsimp only at hSw); first | (go_simp; done) | (go_simp; with_reducible rfl)
      try simp only [Act.put, List.getElem_toArray, List.getElem_cons_succ, List.getElem_cons_zero, List.setIfInBounds_toArray, List.set_cons_zero, List.set_cons_succ]
      refine wpAnyH_ready (rs := [16]) (by kernel_rfl) (by simp) ?_
      refine AllReadyH.cons rfl (fun K hK => ?_) AllReadyH.nil
      go_simp
      refine (rldom_any _ _ _ _ _).mono ?_
      rintro e w5 ⟨rfl, hb5⟩
      rw [HL.out]
      go_wp2_with fail
      refine hK.out _ _ ?_ (fun hHeld2 => ?_)
      · try dsimp only
        (refine VdS.all ?_; (first | with_reducible assumption | with_reducible exact VdS.drew (by assumption) | with_reducible exact VdS.drew (And.right (by assumption)) | with_reducible exact VdS.next (by assumption) (by assumption) | with_reducible exact VdS.next (And.right (by assumption)) (by assumption)))
      clear hK K hHeld
      have hHeld := hHeld2; clear hHeld2
      try simp only [Act.put, List.getElem_toArray, List.getElem_cons_succ, List.getElem_cons_zero, List.setIfInBounds_toArray, List.set_cons_zero, List.set_cons_succ]
      refine wpAnyH_take (i := 17) (v := ?v17zB) rfl (by kernel_rfl) (by kernel_rfl) (by kernel_rfl) (fun _ _ _ h => h) (Or.inl ⟨by rfl, ?hy17zB⟩) (by assumption) ?rest17zB
      case hy17zB => intro w hSw; (try dsimp only at hSw); first | (go_simp; done) | (go_simp; with_reducible rfl)
      try simp only [Act.put, List.getElem_toArray, List.getElem_cons_succ, List.getElem_cons_zero, List.setIfInBounds_toArray, List.set_cons_zero, List.set_cons_succ]
      refine wpAnyH_done (by kernel_rfl) ?_ _
      all_goals
        have HS9 := Lib.hid hHeld.2.below
        clear hHeld
        go_wp2_with fail
        go_ret
        exact ⟨by rw [HQ9.out]; rfl, by rw [hz]; exact Below.down HB.out HS9.out (by have := HB.out.size; omega)⟩
    | false =>
      have HQ8 := Lib.hid (show Q = c.gs.any (rgB c i j) by rw [← HQ.out]; rfl)
      go_enter Tryz.func28, Tryz.ntmps28
      go_wp2_with fail
      generalize w.alloc (.cells #[.int .i64 c.fr, (.slice (some ⟨pb, pa, none⟩) n cap), vd, .int .i64 c.mj, vw, (.slice Ag m cg), .int .i64 c.se, .int .i64 c.qu, .int .i64 c.qt] 27) = w1 at *
      generalize hz : w.heap.size = y at *
      refine wp_region_held_drew (S := (fun w' => (w'.cell? ⟨y, 0, none⟩ = some (.int .i64 c.fr) ∧ w'.cell? ⟨y, 1, none⟩ = some (.slice (some ⟨pb, pa, none⟩) n cap) ∧ w'.cell? ⟨y, 2, none⟩ = some vd ∧ w'.cell? ⟨y, 3, none⟩ = some (.int .i64 c.mj) ∧ w'.cell? ⟨y, 4, none⟩ = some vw ∧ w'.cell? ⟨y, 5, none⟩ = some (.slice Ag m cg) ∧ w'.cell? ⟨y, 6, none⟩ = some (.int .i64 c.se) ∧ w'.cell? ⟨y, 7, none⟩ = some (.int .i64 c.qu) ∧ w'.cell? ⟨y, 8, none⟩ = some (.int .i64 c.qt) ∧ w'.cell? ⟨pb, pa + i * 5, none⟩ = some (.int .i64 li) ∧ w'.cell? ⟨pb, pa + i * 5 + 1, none⟩ = some (.int .i64 ci) ∧ w'.cell? ⟨pb, pa + j * 5, none⟩ = some (.int .i64 lj) ∧ w'.cell? ⟨pb, pa + j * 5 + 1, none⟩ = some (.int .i64 cj)) ∧ VdS w1 c (.slice (some ⟨pb, pa, none⟩) n cap) vd vw (.slice Ag m cg) y pb pa i j li ci lj cj w')) (by kernel_rfl) ?_ (fun hHeld => ?_)
      · try dsimp only
        (refine VdS.all ?_; (first | with_reducible assumption | with_reducible exact VdS.drew (by assumption) | with_reducible exact VdS.drew (And.right (by assumption)) | with_reducible exact VdS.next (by assumption) (by assumption) | with_reducible exact VdS.next (And.right (by assumption)) (by assumption)))
      refine wpAnyH_take (i := 0) (v := ?v0zC) rfl (by kernel_rfl) (by kernel_rfl) (by kernel_rfl) (fun _ _ _ h => h) (Or.inl ⟨by rfl, ?hy0zC⟩) (by assumption) ?rest0zC
      case hy0zC => intro w hSw; (try dsimp only at hSw); first | (go_simp; done) | (go_simp; with_reducible rfl)
      try simp only [Act.put, List.getElem_toArray, List.getElem_cons_succ, List.getElem_cons_zero, List.setIfInBounds_toArray, List.set_cons_zero, List.set_cons_succ]
      refine wpAnyH_take (i := 1) (v := ?v1zC) rfl (by kernel_rfl) (by kernel_rfl) (by kernel_rfl) (fun _ _ _ h => h) (Or.inl ⟨by rfl, ?hy1zC⟩) (by assumption) ?rest1zC
      case hy1zC => intro w hSw; (try dsimp only at hSw); first | (go_simp; done) | (go_simp; with_reducible rfl)
      try simp only [Act.put, List.getElem_toArray, List.getElem_cons_succ, List.getElem_cons_zero, List.setIfInBounds_toArray, List.set_cons_zero, List.set_cons_succ]
      refine wpAnyH_take (i := 2) (v := ?v2zC) rfl (by kernel_rfl) (by kernel_rfl) (by kernel_rfl) (fun _ _ _ h => h) (Or.inl ⟨by rfl, ?hy2zC⟩) (by assumption) ?rest2zC
      case hy2zC => intro w hSw; (try dsimp only at hSw); first | (go_simp; done) | (go_simp; with_reducible rfl)
      try simp only [Act.put, List.getElem_toArray, List.getElem_cons_succ, List.getElem_cons_zero, List.setIfInBounds_toArray, List.set_cons_zero, List.set_cons_succ]
      refine wpAnyH_take (i := 3) (v := ?v3zC) rfl (by kernel_rfl) (by kernel_rfl) (by kernel_rfl) (fun _ _ _ h => h) (Or.inl ⟨by rfl, ?hy3zC⟩) (by assumption) ?rest3zC
      case hy3zC => intro w hSw; (try dsimp only at hSw); first | (go_simp; done) | (go_simp; with_reducible rfl)
      try simp only [Act.put, List.getElem_toArray, List.getElem_cons_succ, List.getElem_cons_zero, List.setIfInBounds_toArray, List.set_cons_zero, List.set_cons_succ]
      refine wpAnyH_take (i := 4) (v := ?v4zC) rfl (by kernel_rfl) (by kernel_rfl) (by kernel_rfl) (fun _ _ _ h => h) (Or.inl ⟨by rfl, ?hy4zC⟩) (by assumption) ?rest4zC
      case hy4zC => intro w hSw; (try dsimp only at hSw); first | (go_simp; done) | (go_simp; with_reducible rfl)
      try simp only [Act.put, List.getElem_toArray, List.getElem_cons_succ, List.getElem_cons_zero, List.setIfInBounds_toArray, List.set_cons_zero, List.set_cons_succ]
      refine wpAnyH_take (i := 5) (v := ?v5zC) rfl (by kernel_rfl) (by kernel_rfl) (by kernel_rfl) (fun _ _ _ h => h) (Or.inl ⟨by rfl, ?hy5zC⟩) (by assumption) ?rest5zC
      case hy5zC => intro w hSw; (try dsimp only at hSw); first | (go_simp; done) | (go_simp; with_reducible rfl)
      try simp only [Act.put, List.getElem_toArray, List.getElem_cons_succ, List.getElem_cons_zero, List.setIfInBounds_toArray, List.set_cons_zero, List.set_cons_succ]
      refine wpAnyH_take (i := 6) (v := ?v6zC) rfl (by kernel_rfl) (by kernel_rfl) (by kernel_rfl) (fun _ _ _ h => h) (Or.inl ⟨by rfl, ?hy6zC⟩) (by assumption) ?rest6zC
      case hy6zC => intro w hSw; (try dsimp only at hSw); first | (go_simp; done) | (go_simp; with_reducible rfl)
      try simp only [Act.put, List.getElem_toArray, List.getElem_cons_succ, List.getElem_cons_zero, List.setIfInBounds_toArray, List.set_cons_zero, List.set_cons_succ]
      refine wpAnyH_take (i := 7) (v := ?v7zC) rfl (by kernel_rfl) (by kernel_rfl) (by kernel_rfl) (fun _ _ _ h => h) (Or.inl ⟨by rfl, ?hy7zC⟩) (by assumption) ?rest7zC
      case hy7zC => intro w hSw; (try dsimp only at hSw); first | (go_simp; done) | (go_simp; with_reducible rfl)
      try simp only [Act.put, List.getElem_toArray, List.getElem_cons_succ, List.getElem_cons_zero, List.setIfInBounds_toArray, List.set_cons_zero, List.set_cons_succ]
      refine wpAnyH_take (i := 8) (v := ?v8zC) rfl (by kernel_rfl) (by kernel_rfl) (by kernel_rfl) (fun _ _ _ h => h) (Or.inl ⟨by rfl, ?hy8zC⟩) (by assumption) ?rest8zC
      case hy8zC => intro w hSw; (try dsimp only at hSw); first | (go_simp; done) | (go_simp; with_reducible rfl)
      try simp only [Act.put, List.getElem_toArray, List.getElem_cons_succ, List.getElem_cons_zero, List.setIfInBounds_toArray, List.set_cons_zero, List.set_cons_succ]
      refine wpAnyH_take (i := 9) (v := ?v9zC) rfl (by kernel_rfl) (by kernel_rfl) (by kernel_rfl) (fun _ _ _ h => h) (Or.inl ⟨by rfl, ?hy9zC⟩) (by assumption) ?rest9zC
      case hy9zC => intro w hSw; (try dsimp only at hSw); first | (go_simp; done) | (go_simp; with_reducible rfl)
      try simp only [Act.put, List.getElem_toArray, List.getElem_cons_succ, List.getElem_cons_zero, List.setIfInBounds_toArray, List.set_cons_zero, List.set_cons_succ]
      refine wpAnyH_take (i := 10) (v := ?v10zC) rfl (by kernel_rfl) (by kernel_rfl) (by kernel_rfl) (fun _ _ _ h => h) (Or.inl ⟨by rfl, ?hy10zC⟩) (by assumption) ?rest10zC
      case hy10zC => intro w hSw; (try dsimp only at hSw); first | (go_simp; done) | (go_simp; with_reducible rfl)
      try simp only [Act.put, List.getElem_toArray, List.getElem_cons_succ, List.getElem_cons_zero, List.setIfInBounds_toArray, List.set_cons_zero, List.set_cons_succ]
      refine wpAnyH_take (i := 11) (v := ?v11zC) rfl (by kernel_rfl) (by kernel_rfl) (by kernel_rfl) (fun _ _ _ h => h) (Or.inl ⟨by rfl, ?hy11zC⟩) (by assumption) ?rest11zC
      case hy11zC => intro w hSw; (try dsimp only at hSw); first | (go_simp; done) | (go_simp; with_reducible rfl)
      try simp only [Act.put, List.getElem_toArray, List.getElem_cons_succ, List.getElem_cons_zero, List.setIfInBounds_toArray, List.set_cons_zero, List.set_cons_succ]
      refine wpAnyH_take (i := 12) (v := ?v12zC) rfl (by kernel_rfl) (by kernel_rfl) (by kernel_rfl) (fun _ _ _ h => h) (Or.inl ⟨by rfl, ?hy12zC⟩) (by assumption) ?rest12zC
      case hy12zC => intro w hSw; (try dsimp only at hSw); first | (go_simp; done) | (go_simp; with_reducible rfl)
      try simp only [Act.put, List.getElem_toArray, List.getElem_cons_succ, List.getElem_cons_zero, List.setIfInBounds_toArray, List.set_cons_zero, List.set_cons_succ]
      refine wpAnyH_take (i := 13) (v := ?v13zC) rfl (by kernel_rfl) (by kernel_rfl) (by kernel_rfl) (fun _ _ _ h => h) (Or.inl ⟨by rfl, ?hy13zC⟩) (by assumption) ?rest13zC
      case hy13zC => intro w hSw; (try dsimp only at hSw); first | (go_simp; done) | (go_simp; with_reducible rfl)
      try simp only [Act.put, List.getElem_toArray, List.getElem_cons_succ, List.getElem_cons_zero, List.setIfInBounds_toArray, List.set_cons_zero, List.set_cons_succ]
      refine wpAnyH_take (i := 14) (v := ?v14zC) rfl (by kernel_rfl) (by kernel_rfl) (by kernel_rfl) (fun _ _ _ h => h) (Or.inl ⟨by rfl, ?hy14zC⟩) (by assumption) ?rest14zC
      case hy14zC => intro w hSw; (try dsimp only at hSw); first | (go_simp; done) | (go_simp; with_reducible rfl)
      try simp only [Act.put, List.getElem_toArray, List.getElem_cons_succ, List.getElem_cons_zero, List.setIfInBounds_toArray, List.set_cons_zero, List.set_cons_succ]
      refine wpAnyH_take (i := 15) (v := ?v15zC) rfl (by kernel_rfl) (by kernel_rfl) (by kernel_rfl) (fun _ _ _ h => h) (Or.inl ⟨by rfl, ?hy15zC⟩) (by assumption) ?rest15zC
      case hy15zC => intro w hSw; (try dsimp only at hSw); first | (go_simp; done) | (go_simp; with_reducible rfl)
      try simp only [Act.put, List.getElem_toArray, List.getElem_cons_succ, List.getElem_cons_zero, List.setIfInBounds_toArray, List.set_cons_zero, List.set_cons_succ]
      refine wpAnyH_ready (rs := [16]) (by kernel_rfl) (by simp) ?_
      refine AllReadyH.cons rfl (fun K hK => ?_) AllReadyH.nil
      go_simp
      refine (rldom_any _ _ _ _ _).mono ?_
      rintro e w5 ⟨rfl, hb5⟩
      rw [HL.out]
      go_wp2_with fail
      refine hK.out _ _ ?_ (fun hHeld2 => ?_)
      · try dsimp only
        (refine VdS.all ?_; (first | with_reducible assumption | with_reducible exact VdS.drew (by assumption) | with_reducible exact VdS.drew (And.right (by assumption)) | with_reducible exact VdS.next (by assumption) (by assumption) | with_reducible exact VdS.next (And.right (by assumption)) (by assumption)))
      clear hK K hHeld
      have hHeld := hHeld2; clear hHeld2
      try simp only [Act.put, List.getElem_toArray, List.getElem_cons_succ, List.getElem_cons_zero, List.setIfInBounds_toArray, List.set_cons_zero, List.set_cons_succ]
      refine wpAnyH_take (i := 17) (v := ?v17zC) rfl (by kernel_rfl) (by kernel_rfl) (by kernel_rfl) (fun _ _ _ h => h) (Or.inl ⟨by rfl, ?hy17zC⟩) (by assumption) ?rest17zC
      case hy17zC => intro w hSw; (try dsimp only at hSw); first | (go_simp; done) | (go_simp; with_reducible rfl)
      try simp only [Act.put, List.getElem_toArray, List.getElem_cons_succ, List.getElem_cons_zero, List.setIfInBounds_toArray, List.set_cons_zero, List.set_cons_succ]
      refine wpAnyH_done (by kernel_rfl) ?_ _
      all_goals
        have HS9 := Lib.hid hHeld.2
        clear hHeld hS
        go_wp2_with fail
        go_loopw [7, 8] (fun v o wr => ∃ k : Nat, k ≤ m ∧ v = .int .i64 k ∧ o = o ∧ Hid (VdS w1 c (.slice (some ⟨pb, pa, none⟩) n cap) vd vw (.slice Ag m cg) y pb pa i j li ci lj cj wr ∧ ∀ q, q < k → rgB c i j (c.gs.getD q grD) = false)) (fun v _ _ => m - (intOf v).toNat)
        case atStart => exact ⟨0, by omega, rfl, rfl, Lib.hid ⟨HS9.out, fun q hq => by omega⟩⟩
        case round =>
          clear HS9
          obtain ⟨k, hkm, rfl, -, HX⟩ := hrel
          obtain ⟨q0, q1, q2, q3, q4, q5, q6, q7, q8⟩ := cf_at HX.out.1.cb
          by_cases hlt : k < m
          · have hltI : (k : Int) < m := by omega
            obtain ⟨gb, ga, rfl, hglt, g0, g1, g2⟩ := grs_at (HGS.out.below HX.out.1.below) HM.out k hlt
            have hVE : VeS w1 c (.slice (some ⟨pb, pa, none⟩) n cap) vd vw (.slice (some ⟨gb, ga, none⟩) m cg) y pb pa i j li ci lj cj gb ga k (c.gs.getD k grD) wr := ⟨HX.out.1, ⟨g0, g1, g2⟩, hglt⟩
            have HPREV := Lib.hid HX.out.2
            have HNX := Lib.hid (fun (h : rgB c i j (c.gs.getD k grD) = false) => (show ∀ q, q < k + 1 → rgB c i j (c.gs.getD q grD) = false from fun q hq => by
              by_cases e : q = k
              · subst e; exact h
              · exact HX.out.2 q (by omega)))
            have HYES := Lib.hid (fun (h : rgB c i j (c.gs.getD k grD) = true) => ra_take c i j (by rw [HM.out]; exact hlt) HX.out.2 h)
            clear HX
            generalize c.gs.getD k grD = gr at *
            obtain ⟨gf, gt, gw⟩ := gr
            dsimp only at g0 g1 g2
            go_wp2_with fail
            go_region_held3 (fun w' => (w'.cell? ⟨y, 0, none⟩ = some (.int .i64 c.fr) ∧ w'.cell? ⟨y, 1, none⟩ = some (.slice (some ⟨pb, pa, none⟩) n cap) ∧ w'.cell? ⟨y, 2, none⟩ = some vd ∧ w'.cell? ⟨y, 3, none⟩ = some (.int .i64 c.mj) ∧ w'.cell? ⟨y, 4, none⟩ = some vw ∧ w'.cell? ⟨y, 5, none⟩ = some (.slice (some ⟨gb, ga, none⟩) m cg) ∧ w'.cell? ⟨y, 6, none⟩ = some (.int .i64 c.se) ∧ w'.cell? ⟨y, 7, none⟩ = some (.int .i64 c.qu) ∧ w'.cell? ⟨y, 8, none⟩ = some (.int .i64 c.qt)) ∧ w'.cell? ⟨gb, ga + k * 3, none⟩ = some (.int .i64 gf) ∧ VeS w1 c (.slice (some ⟨pb, pa, none⟩) n cap) vd vw (.slice (some ⟨gb, ga, none⟩) m cg) y pb pa i j li ci lj cj gb ga k ⟨gf, gt, gw⟩ w')
              ((go_split_ands; refine VeS.all (c := c) (gr := ⟨gf, gt, gw⟩) ?_; (first | with_reducible assumption | with_reducible exact VeS.drew (by assumption) | with_reducible exact VeS.next (by assumption) (by assumption))))
              (first
                | (go_at_call 52; refine (rowner_any (VeS.vd (w1 := w1) (c := c) (vp := .slice (some ⟨pb, pa, none⟩) n cap) (vd' := vd) (vw := vw) (vg := .slice (some ⟨gb, ga, none⟩) m cg) (y := y) (pb := pb) (pa := pa) (i := i) (j := j) (li := li) (ci := ci) (lj := lj) (cj := cj) (gb := gb) (ga := ga) (k := k) (gr := ⟨gf, gt, gw⟩) (by go_split_ands; assumption)).ca gf).mono ?_; rintro e w6 ⟨rfl, b6⟩))
            all_goals
              rename_i hH
              have HV6 := Lib.hid hH.2.2
              clear hH hVE g0 g1 g2 q0 q1 q2 q3 q4 q5 q6 q7 q8
              obtain ⟨⟨q0, q1, q2, q3, q4, q5, q6, q7, q8⟩, -⟩ := HV6.out.all
              obtain ⟨g0, g1, g2⟩ := HV6.out.g
              dsimp only at g0 g1 g2
              obtain ⟨O, hO⟩ : ∃ O, ownF c gf = O := ⟨_, rfl⟩
              have HO := Lib.hid hO
              rw [hO]
              clear hO
              rcases (show (O = i ∧ gt = j) ∨ (O = i ∧ gt ≠ j) ∨ (O ≠ i ∧ O = j ∧ gt = i) ∨ (O ≠ i ∧ O = j ∧ gt ≠ i) ∨ (O ≠ i ∧ O ≠ j) by omega) with ⟨h1, h2⟩ | ⟨h1, h2⟩ | ⟨h1, h2, h3⟩ | ⟨h1, h2, h3⟩ | ⟨h1, h2⟩
              · have HY := Lib.hid (HYES.out (by unfold rgB; dsimp only; rw [HO.out, decide_eq_true h1, decide_eq_true h2]; rfl))
                have e1 : (O == (i : Int)) = true := by simp [h1]
                have e2 : (gt == (j : Int)) = true := by simp [h2]
                clear h1 h2
                go_wp2_with fail
                go_ret
                exact ⟨by rw [HQ8.out, HY.out]; rfl, by rw [hz]; exact Below.down HB.out HV6.out.vd.below (by have := HB.out.size; omega)⟩
              · have hOj : ¬ O = (j : Int) := by have := HNE.out; omega
                have HN := Lib.hid (HNX.out (by unfold rgB; dsimp only; rw [HO.out, decide_eq_false h2, decide_eq_false hOj]; simp))
                have e1 : (O == (i : Int)) = true := by simp [h1]
                have e2 : (gt == (j : Int)) = false := beq_eq_false_iff_ne.2 h2
                have e3 : (O == (j : Int)) = false := beq_eq_false_iff_ne.2 hOj
                clear h1 h2 hOj
                go_wp2_with fail
                go_roundw
                case rel => exact ⟨k + 1, by omega, by go_num, trivial, Lib.hid ⟨HV6.out.vd, HN.out⟩⟩
                case measure => simp [intOf]; omega
              · have e1 : (O == (i : Int)) = false := beq_eq_false_iff_ne.2 h1
                have e3 : (O == (j : Int)) = true := by simp [h2]
                have e4 : (gt == (i : Int)) = true := by simp [h3]
                cases gw with
                | true =>
                  have HY := Lib.hid (HYES.out (by unfold rgB; dsimp only; rw [HO.out, decide_eq_true h2, decide_eq_true h3]; simp))
                  clear h1 h2 h3
                  go_wp2_with fail
                  go_ret
                  exact ⟨by rw [HQ8.out, HY.out]; rfl, by rw [hz]; exact Below.down HB.out HV6.out.vd.below (by have := HB.out.size; omega)⟩
                | false =>
                  have HN := Lib.hid (HNX.out (by unfold rgB; dsimp only; rw [HO.out, decide_eq_false h1]; simp))
                  clear h1 h2 h3
                  go_wp2_with fail
                  go_roundw
                  case rel => exact ⟨k + 1, by omega, by go_num, trivial, Lib.hid ⟨HV6.out.vd, HN.out⟩⟩
                  case measure => simp [intOf]; omega
              · have HN := Lib.hid (HNX.out (by unfold rgB; dsimp only; rw [HO.out, decide_eq_false h1, decide_eq_false h3]; simp))
                have e1 : (O == (i : Int)) = false := beq_eq_false_iff_ne.2 h1
                have e3 : (O == (j : Int)) = true := by simp [h2]
                have e4 : (gt == (i : Int)) = false := beq_eq_false_iff_ne.2 h3
                clear h1 h2 h3
                go_wp2_with fail
                go_roundw
                case rel => exact ⟨k + 1, by omega, by go_num, trivial, Lib.hid ⟨HV6.out.vd, HN.out⟩⟩
                case measure => simp [intOf]; omega
              · have HN := Lib.hid (HNX.out (by unfold rgB; dsimp only; rw [HO.out, decide_eq_false h1, decide_eq_false h2]; simp))
                have e1 : (O == (i : Int)) = false := beq_eq_false_iff_ne.2 h1
                have e3 : (O == (j : Int)) = false := beq_eq_false_iff_ne.2 h2
                clear h1 h2
                go_wp2_with fail
                go_roundw
                case rel => exact ⟨k + 1, by omega, by go_num, trivial, Lib.hid ⟨HV6.out.vd, HN.out⟩⟩
                case measure => simp [intOf]; omega
          · obtain rfl : k = m := by omega
            have HE := Lib.hid (ra_none c i j (by rw [HM.out]; exact HX.out.2))
            go_wp2_with fail
            go_ret
            exact ⟨by rw [HQ8.out, HE.out]; rfl, by rw [hz]; exact Below.down HB.out HX.out.1.below (by have := HB.out.size; omega)⟩
end Go.Proofs.YtkaalinoiilmoaaGreat
namespace Go.Proofs.YtkaalinoiilmoaaGreat
open Go.RowKit
set_option linter.unusedVariables false
set_option linter.unusedSimpArgs false
set_option maxRecDepth 100000
theorem zSs_runR (w : World) : Sem.run Tryz.prog (zeroValue 106) w = .ok (.agg zSs) w := by
  have hi : (Tryz.prog.info? 106).map (fun i => i.zero) = some (some (.agg zSs)) := by kernel_rfl
  cases h : Tryz.prog.info? 106 with
  | none => rw [h] at hi; cases hi
  | some i =>
    rw [h] at hi
    simp only [Option.map_some, Option.some.injEq] at hi
    simp [zeroValue, typeInfo, h, hi]
set_option maxHeartbeats 2000000 in
theorem rextmay_any (v : Value) (ps : List (Int × Int)) (s : Int) (w : World) (h : PtS w v ps) :
    Calls Tryz.prog 44 #[v, .int .i64 s] w fun e w' => e = .returned (.bool (extB ps s)) ∧ Below w.heap.size w w' := by
  obtain ⟨A, cap, rfl, hn, hA⟩ := h
  obtain ⟨n, hl⟩ : ∃ n, ps.length = n := ⟨_, rfl⟩
  have HL := Lib.hid hl
  rw [hl] at hn hA ⊢
  unfold maxLen at hn
  have HA := Lib.hid hA; clear hA
  by_cases hok : (1 ≤ n ∧ n ≤ 4) ∧ (0 ≤ s ∧ s ≤ 64)
  · obtain ⟨⟨n1, n4⟩, s0, s64⟩ := hok
    have hR : extB ps s = goB (ps.drop 0) s noB := by unfold extB; rw [hl, decide_eq_true ⟨n1, n4⟩, decide_eq_true ⟨s0, s64⟩, List.drop_zero]; rfl
    obtain ⟨R, hR2⟩ : ∃ R, goB (ps.drop 0) s noB = R := ⟨_, rfl⟩
    rw [hR, hR2]
    have HR := Lib.hid hR2
    clear hR hR2 hl
    have hz := zSs_runR w
    have hne := zSs_ne
    have c0 : Blk (w.alloc (.cells zSs 106)) w.heap.size 106 (bitc noB 64) := Blk.new w _ (bitc noB 64)
    have b0 : Below w.heap.size w (w.alloc (.cells zSs 106)) := (Below.refl _ _).alloc (Nat.le_refl _) _
    have C0 := Lib.hid c0; have B0 := Lib.hid b0
    clear c0 b0
    go_enter Tryz.func44, Tryz.ntmps44
    go_wp2_with fail
    clear hz hne
    go_loopw [6] (fun i wr => ∃ (k : Nat) (F : Nat → Bool), k ≤ n ∧ i = .int .i64 k ∧ Hid (goB (ps.drop k) s F = R ∧ Blk wr w.heap.size 106 (bitc F 64) ∧ Below w.heap.size w wr)) (fun i _ => n - (intOf i).toNat)
    case atStart => exact ⟨0, noB, by omega, rfl, Lib.hid ⟨HR.out, C0.out, B0.out⟩⟩
    case round =>
      obtain ⟨k, F, hk, rfl, H⟩ := hrel
      by_cases hlt : k < n
      · obtain ⟨b, o, rfl, hb, hcell⟩ := HA.out (by omega)
        obtain ⟨l, c, A2, n2, c2, q0, q1, q2, q3, q4⟩ := hcell k hlt
        have hst := goB_step ps s F k (by rw [HL.out]; exact hlt)
        rw [H.out.1] at hst
        obtain ⟨fi, hfi⟩ : ∃ x, (ps.getD k (0, 0)).1 = x := ⟨_, rfl⟩
        obtain ⟨co, hco⟩ : ∃ x, (ps.getD k (0, 0)).2 = x := ⟨_, rfl⟩
        rw [hfi, hco] at hst
        rw [hfi] at q3
        rw [hco] at q4
        have HQ : Hid (∀ W, Below w.heap.size w W → W.cell? ⟨b, o + k * 5 + 3, none⟩ = some (.int .i64 fi) ∧ W.cell? ⟨b, o + k * 5 + 4, none⟩ = some (.int .i64 co)) :=
          Lib.hid fun W hW => ⟨(hW.cell (p := ⟨b, _, none⟩) hb).trans q3, (hW.cell (p := ⟨b, _, none⟩) hb).trans q4⟩
        have HF := Lib.hid H.out.2.1
        have HB := Lib.hid H.out.2.2
        obtain ⟨p3, p4⟩ := HQ.out _ HB.out
        clear hcell hfi hco H q0 q1 q2 q3 q4
        by_cases hr : 0 ≤ fi ∧ 0 ≤ co ∧ fi ≤ s ∧ co ≤ s - fi
        · have hrt : runB fi co s = true := decide_eq_true hr
          obtain ⟨r0, r1, r2, r3⟩ := hr
          rw [hrt, Bool.true_and] at hst
          obtain ⟨a, rfl⟩ := Int.eq_ofNat_of_zero_le r0
          obtain ⟨m, rfl⟩ := Int.eq_ofNat_of_zero_le r1
          simp only [Int.toNat_natCast] at hst
          have HST := Lib.hid hst
          clear hst hrt
          go_wp2_with fail
          go_quiet ((go_at_call 70; first | exact quiet_ (fun W => rmay_yes _ _ _ W r0 r1 r2 r3 (by omega)) | exact quiet_a (fun W => rmay_yes _ _ _ W r0 r1 r2 r3 (by omega))))
          go_wp2_with fail
          clear p3 p4
          go_loopw [7] (fun j wi => ∃ q : Nat, q ≤ m ∧ j = .int .i64 ((a + q : Nat) : Int) ∧ Hid (Blk wi w.heap.size 106 (bitc (addF F a q) 64) ∧ Below w.heap.size w wi ∧ freeB F a m = freeB F (a + q) (m - q))) (fun j _ => a + m - (intOf j).toNat)
          case atStart => exact ⟨0, by omega, by rw [Nat.add_zero], Lib.hid ⟨by rw [addF_zero]; exact HF.out, bdrewN HB.out _, rfl⟩⟩
          case round =>
            obtain ⟨q, hq, rfl, H⟩ := hrel
            obtain ⟨p3, p4⟩ := HQ.out _ H.out.2.1
            by_cases hqm : q < m
            · have hc := H.out.1.cell (a + q)
              rw [bitc_get _ _ _ (by omega), addF_at] at hc
              have hfz := H.out.1.frozen (a + q)
              have hstep := freeB_step F a m q hqm
              rw [← H.out.2.2] at hstep
              have HS : Hid (∀ W, Blk W w.heap.size 106 (bitc (addF F a q) 64) → Blk (W.setCell ⟨w.heap.size, a + q, none⟩ (.bool true)) w.heap.size 106 (bitc (addF F a (q + 1)) 64)) := Lib.hid fun W hW => by
                have := hW.set (a + q) (.bool true)
                rw [bitc_set, addF_step] at this
                exact this
              have hlt64 : a + q < 64 := by omega
              cases hF : F (a + q)
              · rw [hF] at hc hstep
                have hstep' : freeB F a m = freeB F (a + (q + 1)) (m - (q + 1)) := by rw [hstep]; rfl
                have HE := Lib.hid hstep'
                clear hF hstep hstep'
                have H1 := Lib.hid H.out.1
                have H2 := Lib.hid H.out.2.1
                clear H
                go_wp2_with fail
                go_quiet (fail)
                go_wp2_with fail
                go_roundw
                case rel => exact ⟨q + 1, by omega, by go_num, Lib.hid ⟨HS.out _ H1.out, (bdrewN H2.out _).setCell (p := ⟨w.heap.size, a + q, none⟩) (Nat.le_refl _) _, HE.out⟩⟩
                case measure => simp [intOf]; omega
              · rw [hF] at hc hstep
                have hRf : R = false := by rw [HST.out, hstep]; rfl
                have HRF := Lib.hid hRf
                have H2 := Lib.hid H.out.2.1
                clear hF hstep hRf H
                go_wp2_with fail
                go_quiet (fail)
                go_wp2_with fail
                go_ret
                exact ⟨by rw [HRF.out]; rfl, bdrewN H2.out _⟩
            · obtain rfl : q = m := by omega
              have hend : freeB F a q = true := by rw [H.out.2.2, Nat.sub_self]; rfl
              have hRt : goB (ps.drop (k + 1)) s (addF F a q) = R := by rw [HST.out, hend]; rfl
              have HRT := Lib.hid hRt
              have H1 := Lib.hid H.out.1
              have H2 := Lib.hid H.out.2.1
              clear hend hRt H
              go_wp2_with fail
              go_quiet (fail)
              go_wp2_with fail
              go_roundw
              case rel => exact ⟨k + 1, _, by omega, by go_num, Lib.hid ⟨HRT.out, H1.out, bdrewN H2.out _⟩⟩
              case measure => simp [intOf]; omega
        · have hrf : runB fi co s = false := decide_eq_false hr
          have hRf : R = false := by rw [hst, hrf]; rfl
          have HRF := Lib.hid hRf
          have HR2 := Lib.hid hr
          clear hRf hst hrf hr
          go_wp2_with fail
          go_quiet ((go_at_call 70; first | exact quiet_ (fun W => rmay_no _ _ _ W HR2.out (by omega)) | exact quiet_a (fun W => rmay_no _ _ _ W HR2.out (by omega))))
          go_wp2_with fail
          go_ret
          exact ⟨by rw [HRF.out]; rfl, bdrewN HB.out _⟩
      · go_wp2_with fail
        go_ret
        exact ⟨by rw [← H.out.1, goB_end _ _ _ _ (by rw [HL.out]; omega)]; rfl, H.out.2.2⟩
  · have hR : extB ps s = false := by
      unfold extB; rw [hl]
      by_cases h1 : 1 ≤ n ∧ n ≤ 4
      · rw [decide_eq_false (show ¬ (0 ≤ s ∧ s ≤ 64) from fun h => hok ⟨h1, h⟩)]; simp
      · rw [decide_eq_false h1]; simp
    rw [hR]
    have hw : n < 1 ∨ (1 ≤ n ∧ 4 < n) ∨ (1 ≤ n ∧ n ≤ 4 ∧ s < 0) ∨ (1 ≤ n ∧ n ≤ 4 ∧ 0 ≤ s ∧ 64 < s) := by omega
    clear hR hok hl
    rcases hw with h1 | ⟨h1, h2⟩ | ⟨h1, h2, h3⟩ | ⟨h1, h2, h3, h4⟩
    all_goals
      go_enter Tryz.func44, Tryz.ntmps44
      go_wp2_with fail
      go_ret
      exact ⟨rfl, Below.refl _ _⟩
end Go.Proofs.YtkaalinoiilmoaaGreat
