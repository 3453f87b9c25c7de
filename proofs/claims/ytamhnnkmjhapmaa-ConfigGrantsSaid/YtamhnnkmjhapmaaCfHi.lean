/-
  Contracts of config's windowsMay, grantsMay.
-/
import Derived.Test.YtamhnnkmjhapmaaCfMid
import Derived.Test.YtamhnnkmjhapmaaItWin
import Derived.Deep.RegionHeld3
import Derived.BigRegion
import Derived.StillTailTactics
import Derived.Test.YtamhnnkmjhapmaaItRule
import Derived.Test.YtamhnnkmjhapmaaItGr
import Derived.Test.YtamhnnkmjhapmaaItPiece
namespace Go.Proofs.Ytamhnnkmjhapmaa
open Go.RowKit
set_option linter.unusedVariables false
set_option linter.unusedSimpArgs false
set_option maxRecDepth 100000

def wD : Win := ⟨0, 0, 0, 0⟩
/-- Windows row by row. -/
theorem Ws.rows {w : World} {v : Value} {n : Nat} {l : List Win} (h : Ws w v n l) : ∃ (A : Option Addr) (cap b o : Nat), v = .slice A n cap ∧ (0 < n → A = some ⟨b, o, none⟩ ∧ b < w.heap.size) ∧
    ∀ i, i < n → w.cell? ⟨b, o + i * 4, none⟩ = some (.int .i64 (l.getD i wD).p) ∧ w.cell? ⟨b, o + i * 4 + 1, none⟩ = some (.int .i64 (l.getD i wD).s) ∧ w.cell? ⟨b, o + i * 4 + 2, none⟩ = some (.int .i64 (l.getD i wD).l) ∧ w.cell? ⟨b, o + i * 4 + 3, none⟩ = some (.int .i64 (l.getD i wD).d) := by
  obtain ⟨A, cap, rfl⟩ := h.form
  by_cases h0 : 0 < n
  · have hl := h.len
    obtain ⟨b, o, rfl, hb, _⟩ := wd_at h.sl hl 0 (by omega)
    refine ⟨_, cap, b, o, rfl, fun _ => ⟨rfl, hb⟩, fun i hi => ?_⟩
    obtain ⟨b', o', e, _, q⟩ := wd_at h.sl hl i (by omega)
    simp only [Option.some.injEq, Addr.mk.injEq, and_true] at e
    obtain ⟨rfl, rfl⟩ := e
    have hg : l.getD i wD = l[i] := by simp [List.getD, List.getElem?_eq_getElem (show i < l.length by omega)]
    rw [hg]
    exact q
  · exact ⟨A, cap, 0, 0, rfl, fun h => absurd h h0, fun i hi => absurd hi (by omega)⟩

theorem wm1_any (x : Win) (k : Int) (y : Nat) (w : World) (hy : Blk w y 3 [.int .i64 k]) :
    Calls Try.prog 67 #[.agg #[.int .i64 x.p, .int .i64 x.s, .int .i64 x.l, .int .i64 x.d], .pointer (some ⟨y, 0, none⟩)] w fun e w' => e = .returned (.bool (decide (x.p = k))) ∧ Below w.heap.size w w' := by
  have hy1 := hy.alloc (.cells #[.int .i64 x.p, .int .i64 x.s, .int .i64 x.l, .int .i64 x.d] 58)
  have k0 := hy1.cell 0
  simp only [List.getElem?_cons_zero] at k0
  obtain ⟨xp, xs, xl, xd⟩ := x
  simp only at *
  have hlt := hy.lt
  clear hy hy1
  by_cases e : xp = k
  · subst e
    go_enter Try.func67, Try.ntmps67
    go_wp2
    go_ret
    exact ⟨by simp, (Below.refl _ _).alloc (Nat.le_refl _) _⟩
  · have e2 : (xp == k) = false := by simpa using e
    have HR := Lib.hid (decide_eq_false e)
    clear e
    go_enter Try.func67, Try.ntmps67
    go_wp2
    go_ret
    exact ⟨by rw [HR.out]; rfl, (Below.refl _ _).alloc (Nat.le_refl _) _⟩

section
variable {w : World} {c : Cf} {vp vd vw vg : Value}
set_option maxHeartbeats 2000000 in
theorem windowsmay_any (h : CfAt w vp vd vw vg c) : Calls Try.prog 41 #[.agg #[.int .i64 c.fr, vp, vd, .int .i64 c.mj, vw, vg, .int .i64 c.se, .int .i64 c.qu, .int .i64 c.qt]] w fun e w' => e = .returned (.bool (wsB c)) ∧ Below w.heap.size w w' := by
  obtain ⟨hb, hB⟩ := cf_box w c vp vd vw vg
  have h1 := h.below hB
  obtain ⟨A, cap, rfl, _⟩ := h.ps
  obtain ⟨A', cap', b, o, rfl, hA, hr⟩ := h1.ws.rows
  have hz := h.pz.1
  have hnm : c.ws.length ≤ maxLen := h.ws.big
  obtain ⟨-, k1, -, k3, k4, -⟩ := cf_at hb
  have hsz : (w.alloc (.cells #[.int .i64 c.fr, .slice A c.ps.length cap, vd, .int .i64 c.mj, .slice A' c.ws.length cap', vg, .int .i64 c.se, .int .i64 c.qu, .int .i64 c.qt] 27)).heap.size = w.heap.size + 1 := by simp
  have HX : Hid (wsB c = (mayW c.ws c.mj c.ps.length && (List.range c.ps.length).all (fun i => hasW c.ws i))) := Lib.hid rfl
  have HM := Lib.hid (may_ws h1.ws c.mj c.ps.length _ rfl)
  have HB := Lib.hid hB; have HA := Lib.hid hA; have HR := Lib.hid hr
  clear h h1 hb hB hA hr
  generalize c.ps.length = n at *
  generalize hwl : c.ws.length = m at *
  have HWL := Lib.hid hwl
  generalize wsB c = Q at *
  generalize c.mj = mj at *
  generalize hM : mayW c.ws mj n = M at *
  clear hM hwl
  go_enter Try.func41, Try.ntmps41
  go_wp2_with fail
  generalize w.alloc (.cells #[.int .i64 c.fr, .slice A n cap, vd, .int .i64 mj, .slice A' m cap', vg, .int .i64 c.se, .int .i64 c.qu, .int .i64 c.qt] 27) = w1 at *
  have hlt1 : w.heap.size < w1.heap.size := by omega
  clear hsz
  refine HM.out.mono ?_
  rintro e w2 ⟨rfl, hb2⟩
  cases M with
  | false =>
    have e : Q = false := by rw [HX.out]; rfl
    subst e
    go_wp2_with fail
    go_ret
    exact ⟨rfl, Below.down HB.out hb2 (by omega)⟩
  | true =>
    have hQ : Q = (List.range n).all (fun i => hasW c.ws i) := by rw [HX.out]; rfl
    have HQ := Lib.hid hQ
    have q1 := (hb2.cell (p := ⟨w.heap.size, 1, none⟩) hlt1).trans k1
    have HB2 := Lib.hid hb2
    have HK4 := Lib.hid k4
    clear hQ HX hb2 HM k1 k3 k4
    go_wp2_with fail
    clear q1
    go_loopw [16] (fun i wr => ∃ k : Nat, k ≤ n ∧ i = .int .i64 k ∧ Hid ((∀ j, j < k → hasW c.ws j = true) ∧ Below w1.heap.size w1 wr)) (fun i _ => n - (intOf i).toNat)
    case atStart => exact ⟨0, by omega, rfl, Lib.hid ⟨fun j hj => by omega, HB2.out⟩⟩
    case round =>
      obtain ⟨k, hk, rfl, H⟩ := hrel
      by_cases hlt : k < n
      · obtain ⟨hall, hbel⟩ := H.out
        have hws := hbel.size
        have hb3 : Below w1.heap.size w1 (wr.alloc (.cells #[.int .i64 (k : Int)] 3)) := hbel.alloc hws _
        have hk3 : Blk (wr.alloc (.cells #[.int .i64 (k : Int)] 3)) wr.heap.size 3 [.int .i64 (k : Int)] := Blk.new _ _ _
        have q4 := (hb3.cell (p := ⟨w.heap.size, 4, none⟩) hlt1).trans HK4.out
        have hE := cf_Win A' b o m cap' wr.heap.size (fun i => .int .i64 (c.ws.getD i wD).p) (fun i => .int .i64 (c.ws.getD i wD).s) (fun i => .int .i64 (c.ws.getD i wD).l) (fun i => .int .i64 (c.ws.getD i wD).d) (fun i => decide ((c.ws.getD i wD).p = (k : Int))) nos
          (fun _ W => Below w1.heap.size w1 W ∧ Blk W wr.heap.size 3 [.int .i64 (k : Int)]) (wr.alloc (.cells #[.int .i64 (k : Int)] 3)) hnm (fun h0 => (HA.out h0).1)
          (fun i W hi hI => by
            have hlt := (HA.out (by omega)).2
            have g := fun x => hI.1.cell (p := ⟨b, x, none⟩) hlt
            obtain ⟨q0, q1, q2, q3⟩ := HR.out i hi
            exact ⟨(g _).trans q0, (g _).trans q1, (g _).trans q2, (g _).trans q3⟩)
          (fun i W hi _ hI => by
            refine (wm1_any (c.ws.getD i wD) k wr.heap.size W hI.2).mono ?_
            rintro e w' ⟨rfl, hb⟩
            exact ⟨rfl, ⟨Below.down hI.1 hb hI.1.size, hI.2.below hb hI.2.lt⟩, Fo.of hb _⟩)
          ⟨hb3, hk3⟩
        have e9 : (List.range m).any (fun i => decide ((c.ws.getD i wD).p = (k : Int))) = hasW c.ws k := by rw [← HWL.out]; exact any_range c.ws wD (fun x => decide (x.p = (k : Int)))
        rw [e9] at hE
        have HE := Lib.hid hE; have HALL := Lib.hid hall; have HB3 := Lib.hid hb3
        clear hE hall hb3 hk3 e9 hbel H
        generalize hH : hasW c.ws k = R at *
        have HH := Lib.hid hH
        clear hH
        go_wp2_with fail
        refine HE.out.mono ?_
        rintro e w3 ⟨rfl, -, hf⟩
        have HB4 := Lib.hid (Below.down HB3.out hf.nos HB3.out.size)
        clear hf q4 HE
        cases R with
        | false =>
          have e : Q = false := by
            rw [HQ.out]
            exact List.all_eq_false.2 ⟨k, List.mem_range.2 hlt, by rw [HH.out]; simp⟩
          subst e
          go_wp2_with fail
          go_ret
          exact ⟨rfl, Below.down HB.out HB4.out (by omega)⟩
        | true =>
          go_wp2_with fail
          go_roundw
          case rel => exact ⟨k + 1, by omega, by go_num, Lib.hid ⟨fun j hj => by
            by_cases e : j = k
            · rw [e]; exact HH.out
            · exact HALL.out j (by omega), HB4.out⟩⟩
          case measure => simp [intOf]; omega
      · obtain rfl : k = n := by omega
        have e : Q = true := by rw [HQ.out]; exact range_all_iff.2 H.out.1
        subst e
        go_wp2_with fail
        go_ret
        exact ⟨rfl, Below.down HB.out H.out.2 (by omega)⟩
end

end Go.Proofs.Ytamhnnkmjhapmaa

namespace Go.Proofs.Ytamhnnkmjhapmaa
open Go.RowKit
set_option linter.unusedVariables false
set_option linter.unusedSimpArgs false
set_option maxRecDepth 100000

theorem haspart_f (c : Cf) (A : Option Addr) (n cap : Nat) (vd vw vg : Value) (hn : n ≤ 9223372036854775807) (p : Int) (R : Bool) (hR : inP n p = R) (w : World) :
    Calls Try.prog 48 #[.agg #[.int .i64 c.fr, .slice A n cap, vd, .int .i64 c.mj, vw, vg, .int .i64 c.se, .int .i64 c.qu, .int .i64 c.qt], .int .i64 p] w fun e w' => e = .returned (.bool R) ∧ Below w.heap.size w w' := by
  subst hR
  obtain ⟨hb, hB⟩ := cf_box w c (.slice A n cap) vd vw vg
  obtain ⟨-, k1, -⟩ := cf_at hb
  have HB := Lib.hid hB
  clear hb hB
  by_cases h0 : 0 ≤ p
  · by_cases h1 : p < (n : Int)
    · have HR := Lib.hid (show inP n p = true from decide_eq_true ⟨h0, h1⟩)
      have hd : decide (p < (n : Int)) = true := decide_eq_true h1
      clear h1
      go_enter Try.func48, Try.ntmps48
      go_wp2
      go_ret
      exact ⟨by rw [HR.out]; rfl, HB.out⟩
    · have HR := Lib.hid (show inP n p = false from decide_eq_false (fun h => h1 h.2))
      have hd : decide (p < (n : Int)) = false := decide_eq_false h1
      clear h1
      go_enter Try.func48, Try.ntmps48
      go_wp2
      go_ret
      exact ⟨by rw [HR.out]; rfl, HB.out⟩
  · have HR := Lib.hid (show inP n p = false from decide_eq_false (fun h => h0 h.1))
    have h2 : p < 0 := by omega
    clear h0
    go_enter Try.func48, Try.ntmps48
    go_wp2
    go_ret
    exact ⟨by rw [HR.out]; rfl, HB.out⟩

/-- The table of what is granted, at first: closed to the walk. -/
def zGr : Array Value := (bitc noB 256).toArray
theorem zGr_ne : ¬ (zGr = #[]) := by
  intro h
  have := congrArg Array.size h
  simp [zGr, bitc_len] at this
theorem zGr_run (w : World) : Sem.run Try.prog (zeroValue 92) w = .ok (.agg zGr) w := by
  have hi : (Try.prog.info? 92).map (fun i => i.zero) = some (some (.agg zGr)) := by kernel_rfl
  cases h : Try.prog.info? 92 with
  | none => rw [h] at hi; cases hi
  | some i =>
    rw [h] at hi
    simp only [Option.map_some, Option.some.injEq] at hi
    simp [zeroValue, typeInfo, h, hi]

/-- What a round of grantsMay needs of the world: the config's block, the grant's; what has turned since w1, since w4. -/
structure GmS (w1 w4 : World) (c : Cf) (vp vd vw vg : Value) (y z g zg : Nat) (G : Nat → Bool) (xf xt : Int) (xw : Bool) (w' : World) : Prop where
  tb : Tab w' g (tabL c.fr.toNat (ownM c))
  bits : Blk w' zg 92 (bitc G 256)
  cb : Blk w' y 27 (cfc c vp vd vw vg)
  gb : Blk w' z 44 [.int .i64 xf, .int .i64 xt, .bool xw]
  below : Below w1.heap.size w1 w'
  since : Below w4.heap.size w4 w'
section
variable {w1 w4 w' w2 : World} {c : Cf} {vp vd vw vg : Value} {y z g zg : Nat} {G : Nat → Bool} {xf xt : Int} {xw : Bool}
theorem GmS.next (h : GmS w1 w4 c vp vd vw vg y z g zg G xf xt xw w') (hb : Below w'.heap.size w' w2) : GmS w1 w4 c vp vd vw vg y z g zg G xf xt xw w2 :=
  ⟨h.tb.below hb h.tb.lt, h.bits.below hb h.bits.lt, h.cb.below hb h.cb.lt, h.gb.below hb h.gb.lt, Below.down h.below hb h.below.size, Below.down h.since hb h.since.size⟩
theorem GmS.drew (h : GmS w1 w4 c vp vd vw vg y z g zg G xf xt xw w') : GmS w1 w4 c vp vd vw vg y z g zg G xf xt xw w'.drew := h.next (bdrewN (Below.refl _ _) 1)
theorem GmS.all (h : GmS w1 w4 c vp vd vw vg y z g zg G xf xt xw w') : (w'.cell? ⟨y, 0, none⟩ = some (.int .i64 c.fr) ∧ w'.cell? ⟨y, 1, none⟩ = some vp ∧ w'.cell? ⟨y, 2, none⟩ = some vd ∧ w'.cell? ⟨y, 3, none⟩ = some (.int .i64 c.mj) ∧ w'.cell? ⟨y, 4, none⟩ = some vw ∧ w'.cell? ⟨y, 5, none⟩ = some vg ∧ w'.cell? ⟨y, 6, none⟩ = some (.int .i64 c.se) ∧ w'.cell? ⟨y, 7, none⟩ = some (.int .i64 c.qu) ∧ w'.cell? ⟨y, 8, none⟩ = some (.int .i64 c.qt)) ∧ w'.cell? ⟨z, 0, none⟩ = some (.int .i64 xf) ∧ w'.cell? ⟨z, 1, none⟩ = some (.int .i64 xt) ∧ GmS w1 w4 c vp vd vw vg y z g zg G xf xt xw w' :=
  ⟨cf_at h.cb, h.gb.cell 0, h.gb.cell 1, h⟩
theorem GmS.all2 {p : Nat} {u : Value} (hu : (bitc G 256)[p]? = some u) (h : GmS w1 w4 c vp vd vw vg y z g zg G xf xt xw w') : (w'.cell? ⟨y, 0, none⟩ = some (.int .i64 c.fr) ∧ w'.cell? ⟨y, 1, none⟩ = some vp ∧ w'.cell? ⟨y, 2, none⟩ = some vd ∧ w'.cell? ⟨y, 3, none⟩ = some (.int .i64 c.mj) ∧ w'.cell? ⟨y, 4, none⟩ = some vw ∧ w'.cell? ⟨y, 5, none⟩ = some vg ∧ w'.cell? ⟨y, 6, none⟩ = some (.int .i64 c.se) ∧ w'.cell? ⟨y, 7, none⟩ = some (.int .i64 c.qu) ∧ w'.cell? ⟨y, 8, none⟩ = some (.int .i64 c.qt)) ∧ w'.cell? ⟨z, 0, none⟩ = some (.int .i64 xf) ∧ w'.cell? ⟨z, 1, none⟩ = some (.int .i64 xt) ∧ w'.cell? ⟨zg, p, none⟩ = some u ∧ GmS w1 w4 c vp vd vw vg y z g zg G xf xt xw w' :=
  ⟨cf_at h.cb, h.gb.cell 0, h.gb.cell 1, (h.bits.cell p).trans hu, h⟩
end

theorem grB_at (c : Cf) (s : List Gr) (k : Nat) (l : List Gr) (hk : k < l.length) : grB c (l.take k) (l.drop k) = ((okG c (l.getD k grD) && !(l.take k).any (sgB (l.getD k grD))) && grB c (l.take (k + 1)) (l.drop (k + 1))) := by
  rw [List.drop_eq_getElem_cons hk, List.take_add_one, List.getElem?_eq_getElem hk]
  simp only [grB, List.getD, List.getElem?_eq_getElem hk, Option.getD_some, Option.toList_some]

/-- The bits of what is granted. -/
def GBits (l : List Gr) (G : Nat → Bool) : Prop := ∀ f t : Nat, f < 64 → t < 4 → G (f * 4 + t) = l.any (fun h => decide (h.f = (f : Int) ∧ h.t = (t : Int)))
theorem GBits.snoc {l : List Gr} {G : Nat → Bool} (h : GBits l G) (f t : Nat) (hf : f < 64) (ht : t < 4) (b : Bool) : GBits (l ++ [⟨f, t, b⟩]) (bitF G (f * 4 + t) true) := by
  intro f' t' hf' ht'
  rw [List.any_append]
  unfold bitF
  by_cases e : f' * 4 + t' = f * 4 + t
  · rw [if_pos e]
    have e1 : f' = f := by omega
    have e2 : t' = t := by omega
    subst e1 e2
    simp
  · rw [if_neg e, h f' t' hf' ht']
    have : ¬ ((f : Int) = f' ∧ (t : Int) = t') := by omega
    simp [this]

section
variable {w : World} {c : Cf} {vp vd vw vg : Value}
set_option maxHeartbeats 4000000 in
theorem grantsmay_any (h : CfAt w vp vd vw vg c) (hF : 1 ≤ c.fr ∧ c.fr ≤ 64) (hp4 : c.ps.length ≤ 4) (hu : unB c = true) : Calls Try.prog 42 #[.agg #[.int .i64 c.fr, vp, vd, .int .i64 c.mj, vw, vg, .int .i64 c.se, .int .i64 c.qu, .int .i64 c.qt]] w fun e w' => e = .returned (.bool (gsB c)) ∧ Below w.heap.size w w' := by
  obtain ⟨hb, hB⟩ := cf_box w c vp vd vw vg
  have h1 := h.below hB
  obtain ⟨A, cap, rfl, -⟩ := h.ps
  have hz := h.gz
  have hgs := h1.gs
  obtain ⟨A', cap', rfl⟩ : ∃ A' cap', vg = .slice A' c.gs.length cap' := by obtain ⟨A', c', e, _⟩ := hgs; exact ⟨A', c', e⟩
  have HO := Lib.hid (owners_any h1 hF hp4)
  have HU := Lib.hid hu
  have HF := Lib.hid hF
  obtain ⟨k0, k1, k2, k3, k4, k5, k6, k7, k8⟩ := cf_at hb
  have hsz : (w.alloc (.cells #[.int .i64 c.fr, .slice A c.ps.length cap, vd, .int .i64 c.mj, vw, .slice A' c.gs.length cap', .int .i64 c.se, .int .i64 c.qu, .int .i64 c.qt] 27)).heap.size = w.heap.size + 1 := by simp
  have HB := Lib.hid hB; have HCB := Lib.hid hb; have HGS := Lib.hid hgs
  have hzr := zGr_run; have hzn := zGr_ne
  have HP := Lib.hid (fun p R hR W => haspart_f c A c.ps.length cap vd vw (.slice A' c.gs.length cap') (by omega) p R hR W)
  have HQ : Hid (gsB c = grB c (c.gs.take 0) (c.gs.drop 0)) := Lib.hid (by rw [List.take_zero, List.drop_zero]; rfl)
  have HTB := Lib.hid (fun f => own_table hu f)
  have HTN := Lib.hid (fun f => own_table_no hu f)
  obtain ⟨Q, hQ⟩ : ∃ Q, gsB c = Q := ⟨_, rfl⟩
  rw [hQ] at HQ ⊢
  clear h h1 hb hB hgs hF hu hQ
  generalize hpn : c.ps.length = n at *
  generalize hgn : c.gs.length = m at *
  have HPN := Lib.hid hpn; have HGN := Lib.hid hgn
  clear hpn hgn
  go_enter Try.func42, Try.ntmps42
  go_wp2_with fail
  generalize w.alloc (.cells #[.int .i64 c.fr, .slice A n cap, vd, .int .i64 c.mj, vw, .slice A' m cap', .int .i64 c.se, .int .i64 c.qu, .int .i64 c.qt] 27) = w1 at *
  have hlt1 : w.heap.size < w1.heap.size := by omega
  clear hsz
  refine HO.out.mono ?_
  rintro e w2 ⟨b2, ⟨-, g, rfl, hg, hT⟩ | ⟨hno, -⟩⟩
  rotate_left
  · exact absurd (hno.symm.trans HU.out) (by simp)
  have q5 := (b2.cell (p := ⟨w.heap.size, 5, none⟩) hlt1).trans k5
  have hs2 := b2.size
  have b3 : Below w1.heap.size w1 (w2.alloc (.cells zGr 92)) := b2.alloc hs2 _
  have q5' := (b3.cell (p := ⟨w.heap.size, 5, none⟩) hlt1).trans k5
  have HT := Lib.hid (hT.below ((Below.refl _ _).alloc (Nat.le_refl _) (.cells zGr 92)) hT.lt)
  have hzb : Blk (w2.alloc (.cells zGr 92)) w2.heap.size 92 (bitc noB 256) := Blk.new w2 _ (bitc noB 256)
  have hgz : g < w2.heap.size := hT.lt
  have HB3 := Lib.hid b3; have HZB := Lib.hid hzb
  clear hT b2 b3 hzb HO
  go_wp2_with fail
  generalize w2.alloc (.cells zGr 92) = w3 at *
  generalize w2.heap.size = zg at *
  clear hzr hzn q5 q5' k0 k1 k2 k3 k4 k5 k6 k7 k8
  go_loopw [14] (fun i wr => ∃ k : Nat, k ≤ m ∧ i = .int .i64 k ∧ Hid (Q = grB c (c.gs.take k) (c.gs.drop k) ∧ Below w1.heap.size w1 wr ∧ Tab wr g (tabL c.fr.toNat (ownM c)) ∧ ∃ G, GBits (c.gs.take k) G ∧ Blk wr zg 92 (bitc G 256))) (fun i _ => m - (intOf i).toNat)
  case atStart => exact ⟨0, by omega, rfl, Lib.hid ⟨HQ.out, HB3.out, HT.out, noB, fun f t _ _ => by rw [List.take_zero]; rfl, HZB.out⟩⟩
  case round =>
    obtain ⟨k, hk, rfl, H⟩ := hrel
    by_cases hlt : k < m
    · obtain ⟨hst, hbel, hT, G, hG, hGb⟩ := H.out
      have hws := hbel.size
      obtain ⟨b, o, rfl, hb1, q0, q1, q2⟩ := grs_at (HGS.out.below hbel) HGN.out k hlt
      rw [grB_at c [] k c.gs (by rw [HGN.out]; exact hlt)] at hst
      have htk : c.gs.take (k + 1) = c.gs.take k ++ [c.gs.getD k grD] := by
        rw [List.take_add_one, List.getElem?_eq_getElem (by rw [HGN.out]; exact hlt)]
        simp [List.getD, List.getElem?_eq_getElem (show k < c.gs.length by rw [HGN.out]; exact hlt)]
      obtain ⟨xf, xt, xw, hx⟩ : ∃ xf xt xw, c.gs.getD k grD = ⟨xf, xt, xw⟩ := ⟨_, _, _, rfl⟩
      rw [hx] at hst q0 q1 q2 htk
      simp only at q0 q1 q2
      have HTK := Lib.hid htk
      have h4 : GmS w1 (wr.alloc (.cells #[.int .i64 xf, .int .i64 xt, .bool xw] 44)) c (.slice A n cap) vd vw (.slice (some ⟨b, o, none⟩) m cap') w.heap.size wr.heap.size g zg G xf xt xw (wr.alloc (.cells #[.int .i64 xf, .int .i64 xt, .bool xw] 44)) :=
        ⟨hT.below ((Below.refl _ _).alloc (Nat.le_refl _) _) hT.lt, hGb.alloc _, (HCB.out.below hbel hlt1).alloc _, Blk.new _ _ _, hbel.alloc hws _, Below.refl _ _⟩
      have hT4 := hT.below ((Below.refl _ _).alloc (Nat.le_refl _) (.cells #[.int .i64 xf, .int .i64 xt, .bool xw] 44)) hT.lt
      have hG4 := hGb.alloc (.cells #[.int .i64 xf, .int .i64 xt, .bool xw] 44)
      have hgz2 : wr.heap.size < (wr.alloc (.cells #[.int .i64 xf, .int .i64 xt, .bool xw] 44)).heap.size := by simp
      have hzgl := hGb.lt
      have HOF := Lib.hid (fun W hTW => pof_any g (tabL c.fr.toNat (ownM c)) xf W hTW)
      have HST := Lib.hid hst; have HGB := Lib.hid hG
      have H4 := Lib.hid h4; have HT4 := Lib.hid hT4; have HG4 := Lib.hid hG4
      have c0 := h4.gb.cell 0
      simp only [List.getElem?_cons_zero] at c0
      clear hst hbel hT hG hGb h4 hT4 hG4 H hx htk
      go_wp2_with fail
      generalize wr.alloc (.cells #[.int .i64 xf, .int .i64 xt, .bool xw] 44) = w4 at *
      generalize hzz : wr.heap.size = z at *
      have HZZ := Lib.hid hzz
      refine (HOF.out _ HT4.out).mono ?_
      rintro e w5 ⟨rfl, rfl⟩
      clear q0 q1 q2 c0 hzz
      rcases tabL_of c.fr.toNat (ownM c) xf with ⟨e1, -, e3⟩ | ⟨e1, e2, e3, e4, -⟩
      · -- no such frame
        have HQF : Hid (Ending.returned (.bool false) = Ending.returned (.bool Q)) := Lib.hid (by
          have ho : ownF c xf = -1 := by
            rcases HTB.out xf with h | h
            · exact h
            · exact absurd ⟨h.2.2.1, by have := h.2.2.2.1; have := HF.out; omega⟩ e3
          rw [HST.out]; unfold okG; rw [ho]; rfl)
        rw [e1]
        generalize ofN (tabL c.fr.toNat (ownM c)) xf = N
        clear e1 e3
        have hs4 := H4.out.below
        have HS4 := Lib.hid hs4
        clear hs4
        go_wp2_with fail
        go_quiet (fail)
        go_wp2_with fail
        go_ret
        exact ⟨HQF.out, bdrewN (Below.down HB.out HS4.out (by omega)) _⟩
      · rw [e1, e2]
        have hxl : xf < c.fr := by have := HF.out; omega
        obtain ⟨N, hN⟩ : ∃ N, ownM c xf.toNat = N := ⟨_, rfl⟩
        rw [hN]
        have HN := Lib.hid hN
        clear e1 e2 hN
        cases ho : inP n N with
        | false =>
          have HQF : Hid (Ending.returned (.bool false) = Ending.returned (.bool Q)) := Lib.hid (by
            have hoo : ownF c xf = -1 := by
              rcases HTB.out xf with h | h
              · exact h
              · exfalso
                have h5 := h.2.2.2.2
                rw [HN.out] at h5
                rw [h5] at ho
                unfold inP at ho
                have := of_decide_eq_false ho
                exact this ⟨h.1, h.2.1⟩
            rw [HST.out]; unfold okG; rw [hoo]; rfl)
          have HPO := Lib.hid (fun W => HP.out N false ho W)
          obtain ⟨⟨k0, k1, k2, k3, k4, k5, k6, k7, k8⟩, c0, c1, hGM⟩ := H4.out.all
          clear ho
          go_wp2_with fail
          refine wp_region_held_drew (S := (fun w' => (w'.cell? ⟨w.heap.size, 0, none⟩ = some (.int .i64 c.fr) ∧ w'.cell? ⟨w.heap.size, 1, none⟩ = some (.slice A n cap) ∧ w'.cell? ⟨w.heap.size, 2, none⟩ = some vd ∧ w'.cell? ⟨w.heap.size, 3, none⟩ = some (.int .i64 c.mj) ∧ w'.cell? ⟨w.heap.size, 4, none⟩ = some vw ∧ w'.cell? ⟨w.heap.size, 5, none⟩ = some (.slice (some ⟨b, o, none⟩) m cap') ∧ w'.cell? ⟨w.heap.size, 6, none⟩ = some (.int .i64 c.se) ∧ w'.cell? ⟨w.heap.size, 7, none⟩ = some (.int .i64 c.qu) ∧ w'.cell? ⟨w.heap.size, 8, none⟩ = some (.int .i64 c.qt)) ∧ w'.cell? ⟨z, 0, none⟩ = some (.int .i64 xf) ∧ w'.cell? ⟨z, 1, none⟩ = some (.int .i64 xt) ∧ GmS w1 w4 c (.slice A n cap) vd vw (.slice (some ⟨b, o, none⟩) m cap') w.heap.size z g zg G xf xt xw w')) (by kernel_rfl) ?_ (fun hHeld => ?_)
          · try dsimp only
            (go_split_ands; refine GmS.all ?_; (first | assumption | (exact GmS.drew (by assumption)) | (exact GmS.next (by assumption) (by assumption))))
          refine wpAnyH_take (i := 0) (v := ?v0zB) rfl (by kernel_rfl) (by kernel_rfl) (by kernel_rfl) (fun _ _ _ h => h) (Or.inl ⟨by rfl, ?hy0zB⟩) (by assumption) ?rest0zB
          case hy0zB => intro w hSw; (try dsimp only at hSw); first | (go_simp; done) | (go_simp; with_reducible rfl)
          try simp only [Act.put, List.getElem_toArray, List.getElem_cons_succ, List.getElem_cons_zero, List.setIfInBounds_toArray, List.set_cons_zero, List.set_cons_succ]
          refine wpAnyH_take (i := 1) (v := ?v1zB) rfl (by kernel_rfl) (by kernel_rfl) (by kernel_rfl) (fun _ _ _ h => h) (Or.inl ⟨by rfl, ?hy1zB⟩) (by assumption) ?rest1zB
          case hy1zB => intro w hSw; (try dsimp only at hSw); first | (go_simp; done) | (go_simp; with_reducible rfl)
          try simp only [Act.put, List.getElem_toArray, List.getElem_cons_succ, List.getElem_cons_zero, List.setIfInBounds_toArray, List.set_cons_zero, List.set_cons_succ]
          refine wpAnyH_take (i := 2) (v := ?v2zB) rfl (by kernel_rfl) (by kernel_rfl) (by kernel_rfl) (fun _ _ _ h => h) (Or.inl ⟨by rfl, ?hy2zB⟩) (by assumption) ?rest2zB
          case hy2zB => intro w hSw; (try dsimp only at hSw); first | (go_simp; done) | (go_simp; with_reducible rfl)
          try simp only [Act.put, List.getElem_toArray, List.getElem_cons_succ, List.getElem_cons_zero, List.setIfInBounds_toArray, List.set_cons_zero, List.set_cons_succ]
          refine wpAnyH_take (i := 3) (v := ?v3zB) rfl (by kernel_rfl) (by kernel_rfl) (by kernel_rfl) (fun _ _ _ h => h) (Or.inl ⟨by rfl, ?hy3zB⟩) (by assumption) ?rest3zB
          case hy3zB => intro w hSw; (try dsimp only at hSw); first | (go_simp; done) | (go_simp; with_reducible rfl)
          try simp only [Act.put, List.getElem_toArray, List.getElem_cons_succ, List.getElem_cons_zero, List.setIfInBounds_toArray, List.set_cons_zero, List.set_cons_succ]
          refine wpAnyH_take (i := 4) (v := ?v4zB) rfl (by kernel_rfl) (by kernel_rfl) (by kernel_rfl) (fun _ _ _ h => h) (Or.inl ⟨by rfl, ?hy4zB⟩) (by assumption) ?rest4zB
          case hy4zB => intro w hSw; (try dsimp only at hSw); first | (go_simp; done) | (go_simp; with_reducible rfl)
          try simp only [Act.put, List.getElem_toArray, List.getElem_cons_succ, List.getElem_cons_zero, List.setIfInBounds_toArray, List.set_cons_zero, List.set_cons_succ]
          refine wpAnyH_ready (rs := [5]) (by kernel_rfl) (by simp) ?_
          refine AllReadyH.cons rfl (fun K hK => ?_) AllReadyH.nil
          go_simp
          refine (HPO.out _).mono ?_
          rintro e w5 ⟨rfl, hb5⟩
          go_wp2_with fail
          refine hK.out _ _ ?_ (fun hHeld2 => ?_)
          · try dsimp only
            (go_split_ands; refine GmS.all ?_; (first | assumption | (exact GmS.drew (by assumption)) | (exact GmS.next (by assumption) (by assumption))))
          clear hK K hHeld
          have hHeld := hHeld2; clear hHeld2
          try simp only [Act.put, List.getElem_toArray, List.getElem_cons_succ, List.getElem_cons_zero, List.setIfInBounds_toArray, List.set_cons_zero, List.set_cons_succ]
          refine wpAnyH_take (i := 6) (v := ?v6zB) rfl (by kernel_rfl) (by kernel_rfl) (by kernel_rfl) (fun _ _ _ h => h) (Or.inl ⟨by rfl, ?hy6zB⟩) (by assumption) ?rest6zB
          case hy6zB => intro w hSw; (try dsimp only at hSw); first | (go_simp; done) | (go_simp; with_reducible rfl)
          try simp only [Act.put, List.getElem_toArray, List.getElem_cons_succ, List.getElem_cons_zero, List.setIfInBounds_toArray, List.set_cons_zero, List.set_cons_succ]
          refine wpAnyH_take (i := 7) (v := ?v7zB) rfl (by kernel_rfl) (by kernel_rfl) (by kernel_rfl) (fun _ _ _ h => h) (Or.inl ⟨by rfl, ?hy7zB⟩) (by assumption) ?rest7zB
          case hy7zB => intro w hSw; (try dsimp only at hSw); first | (go_simp; done) | (go_simp; with_reducible rfl)
          try simp only [Act.put, List.getElem_toArray, List.getElem_cons_succ, List.getElem_cons_zero, List.setIfInBounds_toArray, List.set_cons_zero, List.set_cons_succ]
          refine wpAnyH_take (i := 8) (v := ?v8zB) rfl (by kernel_rfl) (by kernel_rfl) (by kernel_rfl) (fun _ _ _ h => h) (Or.inl ⟨by rfl, ?hy8zB⟩) (by assumption) ?rest8zB
          case hy8zB => intro w hSw; (try dsimp only at hSw); first | (go_simp; done) | (go_simp; with_reducible rfl)
          try simp only [Act.put, List.getElem_toArray, List.getElem_cons_succ, List.getElem_cons_zero, List.setIfInBounds_toArray, List.set_cons_zero, List.set_cons_succ]
          refine wpAnyH_take (i := 9) (v := undef) rfl (by kernel_rfl) (by kernel_rfl) (by kernel_rfl) (fun _ _ _ h => h) (Or.inr ⟨by rfl, rfl⟩) (by assumption) ?rest9zB
          try simp only [Act.put, List.getElem_toArray, List.getElem_cons_succ, List.getElem_cons_zero, List.setIfInBounds_toArray, List.set_cons_zero, List.set_cons_succ]
          refine wpAnyH_take (i := 10) (v := undef) rfl (by kernel_rfl) (by kernel_rfl) (by kernel_rfl) (fun _ _ _ h => h) (Or.inr ⟨by rfl, rfl⟩) (by assumption) ?rest10zB
          try simp only [Act.put, List.getElem_toArray, List.getElem_cons_succ, List.getElem_cons_zero, List.setIfInBounds_toArray, List.set_cons_zero, List.set_cons_succ]
          refine wpAnyH_take (i := 11) (v := undef) rfl (by kernel_rfl) (by kernel_rfl) (by kernel_rfl) (fun _ _ _ h => h) (Or.inr ⟨by rfl, rfl⟩) (by assumption) ?rest11zB
          try simp only [Act.put, List.getElem_toArray, List.getElem_cons_succ, List.getElem_cons_zero, List.setIfInBounds_toArray, List.set_cons_zero, List.set_cons_succ]
          refine wpAnyH_take (i := 12) (v := undef) rfl (by kernel_rfl) (by kernel_rfl) (by kernel_rfl) (fun _ _ _ h => h) (Or.inr ⟨by rfl, rfl⟩) (by assumption) ?rest12zB
          try simp only [Act.put, List.getElem_toArray, List.getElem_cons_succ, List.getElem_cons_zero, List.setIfInBounds_toArray, List.set_cons_zero, List.set_cons_succ]
          refine wpAnyH_take (i := 13) (v := undef) rfl (by kernel_rfl) (by kernel_rfl) (by kernel_rfl) (fun _ _ _ h => h) (Or.inr ⟨by rfl, rfl⟩) (by assumption) ?rest13zB
          try simp only [Act.put, List.getElem_toArray, List.getElem_cons_succ, List.getElem_cons_zero, List.setIfInBounds_toArray, List.set_cons_zero, List.set_cons_succ]
          refine wpAnyH_take (i := 14) (v := ?v14zB) rfl (by kernel_rfl) (by kernel_rfl) (by kernel_rfl) (fun _ _ _ h => h) (Or.inl ⟨by rfl, ?hy14zB⟩) (by assumption) ?rest14zB
          case hy14zB => intro w hSw; (try dsimp only at hSw); first | (go_simp; done) | (go_simp; with_reducible rfl)
          try simp only [Act.put, List.getElem_toArray, List.getElem_cons_succ, List.getElem_cons_zero, List.setIfInBounds_toArray, List.set_cons_zero, List.set_cons_succ]
          refine wpAnyH_take (i := 15) (v := ?v15zB) rfl (by kernel_rfl) (by kernel_rfl) (by kernel_rfl) (fun _ _ _ h => h) (Or.inl ⟨by rfl, ?hy15zB⟩) (by assumption) ?rest15zB
          case hy15zB => intro w hSw; (try dsimp only at hSw); first | (go_simp; done) | (go_simp; with_reducible rfl)
          try simp only [Act.put, List.getElem_toArray, List.getElem_cons_succ, List.getElem_cons_zero, List.setIfInBounds_toArray, List.set_cons_zero, List.set_cons_succ]
          refine wpAnyH_take (i := 16) (v := undef) rfl (by kernel_rfl) (by kernel_rfl) (by kernel_rfl) (fun _ _ _ h => h) (Or.inr ⟨by rfl, rfl⟩) (by assumption) ?rest16zB
          try simp only [Act.put, List.getElem_toArray, List.getElem_cons_succ, List.getElem_cons_zero, List.setIfInBounds_toArray, List.set_cons_zero, List.set_cons_succ]
          refine wpAnyH_take (i := 17) (v := undef) rfl (by kernel_rfl) (by kernel_rfl) (by kernel_rfl) (fun _ _ _ h => h) (Or.inr ⟨by rfl, rfl⟩) (by assumption) ?rest17zB
          try simp only [Act.put, List.getElem_toArray, List.getElem_cons_succ, List.getElem_cons_zero, List.setIfInBounds_toArray, List.set_cons_zero, List.set_cons_succ]
          refine wpAnyH_take (i := 18) (v := undef) rfl (by kernel_rfl) (by kernel_rfl) (by kernel_rfl) (fun _ _ _ h => h) (Or.inr ⟨by rfl, rfl⟩) (by assumption) ?rest18zB
          try simp only [Act.put, List.getElem_toArray, List.getElem_cons_succ, List.getElem_cons_zero, List.setIfInBounds_toArray, List.set_cons_zero, List.set_cons_succ]
          refine wpAnyH_take (i := 19) (v := undef) rfl (by kernel_rfl) (by kernel_rfl) (by kernel_rfl) (fun _ _ _ h => h) (Or.inr ⟨by rfl, rfl⟩) (by assumption) ?rest19zB
          try simp only [Act.put, List.getElem_toArray, List.getElem_cons_succ, List.getElem_cons_zero, List.setIfInBounds_toArray, List.set_cons_zero, List.set_cons_succ]
          refine wpAnyH_take (i := 20) (v := ?v20zB) rfl (by kernel_rfl) (by kernel_rfl) (by kernel_rfl) (fun _ _ _ h => h) (Or.inl ⟨by rfl, ?hy20zB⟩) (by assumption) ?rest20zB
          case hy20zB => intro w hSw; (try dsimp only at hSw); first | (go_simp; done) | (go_simp; with_reducible rfl)
          try simp only [Act.put, List.getElem_toArray, List.getElem_cons_succ, List.getElem_cons_zero, List.setIfInBounds_toArray, List.set_cons_zero, List.set_cons_succ]
          refine wpAnyH_take (i := 21) (v := ?v21zB) rfl (by kernel_rfl) (by kernel_rfl) (by kernel_rfl) (fun _ _ _ h => h) (Or.inl ⟨by rfl, ?hy21zB⟩) (by assumption) ?rest21zB
          case hy21zB => intro w hSw; (try dsimp only at hSw); first | (go_simp; done) | (go_simp; with_reducible rfl)
          try simp only [Act.put, List.getElem_toArray, List.getElem_cons_succ, List.getElem_cons_zero, List.setIfInBounds_toArray, List.set_cons_zero, List.set_cons_succ]
          refine wpAnyH_take (i := 22) (v := undef) rfl (by kernel_rfl) (by kernel_rfl) (by kernel_rfl) (fun _ _ _ h => h) (Or.inr ⟨by rfl, rfl⟩) (by assumption) ?rest22zB
          try simp only [Act.put, List.getElem_toArray, List.getElem_cons_succ, List.getElem_cons_zero, List.setIfInBounds_toArray, List.set_cons_zero, List.set_cons_succ]
          refine wpAnyH_take (i := 23) (v := undef) rfl (by kernel_rfl) (by kernel_rfl) (by kernel_rfl) (fun _ _ _ h => h) (Or.inr ⟨by rfl, rfl⟩) (by assumption) ?rest23zB
          try simp only [Act.put, List.getElem_toArray, List.getElem_cons_succ, List.getElem_cons_zero, List.setIfInBounds_toArray, List.set_cons_zero, List.set_cons_succ]
          refine wpAnyH_take (i := 24) (v := undef) rfl (by kernel_rfl) (by kernel_rfl) (by kernel_rfl) (fun _ _ _ h => h) (Or.inr ⟨by rfl, rfl⟩) (by assumption) ?rest24zB
          try simp only [Act.put, List.getElem_toArray, List.getElem_cons_succ, List.getElem_cons_zero, List.setIfInBounds_toArray, List.set_cons_zero, List.set_cons_succ]
          refine wpAnyH_take (i := 25) (v := undef) rfl (by kernel_rfl) (by kernel_rfl) (by kernel_rfl) (fun _ _ _ h => h) (Or.inr ⟨by rfl, rfl⟩) (by assumption) ?rest25zB
          try simp only [Act.put, List.getElem_toArray, List.getElem_cons_succ, List.getElem_cons_zero, List.setIfInBounds_toArray, List.set_cons_zero, List.set_cons_succ]
          refine wpAnyH_take (i := 26) (v := undef) rfl (by kernel_rfl) (by kernel_rfl) (by kernel_rfl) (fun _ _ _ h => h) (Or.inr ⟨by rfl, rfl⟩) (by assumption) ?rest26zB
          try simp only [Act.put, List.getElem_toArray, List.getElem_cons_succ, List.getElem_cons_zero, List.setIfInBounds_toArray, List.set_cons_zero, List.set_cons_succ]
          refine wpAnyH_take (i := 27) (v := undef) rfl (by kernel_rfl) (by kernel_rfl) (by kernel_rfl) (fun _ _ _ h => h) (Or.inr ⟨by rfl, rfl⟩) (by assumption) ?rest27zB
          try simp only [Act.put, List.getElem_toArray, List.getElem_cons_succ, List.getElem_cons_zero, List.setIfInBounds_toArray, List.set_cons_zero, List.set_cons_succ]
          refine wpAnyH_take (i := 28) (v := undef) rfl (by kernel_rfl) (by kernel_rfl) (by kernel_rfl) (fun _ _ _ h => h) (Or.inr ⟨by rfl, rfl⟩) (by assumption) ?rest28zB
          try simp only [Act.put, List.getElem_toArray, List.getElem_cons_succ, List.getElem_cons_zero, List.setIfInBounds_toArray, List.set_cons_zero, List.set_cons_succ]
          refine wpAnyH_take (i := 29) (v := ?v29zB) rfl (by kernel_rfl) (by kernel_rfl) (by kernel_rfl) (fun _ _ _ h => h) (Or.inl ⟨by rfl, ?hy29zB⟩) (by assumption) ?rest29zB
          case hy29zB => intro w hSw; (try dsimp only at hSw); first | (go_simp; done) | (go_simp; with_reducible rfl)
          try simp only [Act.put, List.getElem_toArray, List.getElem_cons_succ, List.getElem_cons_zero, List.setIfInBounds_toArray, List.set_cons_zero, List.set_cons_succ]
          refine wpAnyH_done (by kernel_rfl) ?_ _
          all_goals
            have HS9 := Lib.hid hHeld.2.2.2
            clear hHeld
            go_wp2_with fail
            go_ret
            exact ⟨HQF.out, Below.down HB.out HS9.out.below (by omega)⟩
        | true =>
          have HPO := Lib.hid (fun W => HP.out N true ho W)
          have hown : ownF c xf = N ∧ 0 ≤ N := by
            unfold inP at ho
            have h9 := of_decide_eq_true ho
            rcases HTB.out xf with h | h
            · have := HTN.out xf h e3
              rw [HN.out] at this
              omega
            · exact ⟨by rw [← h.2.2.2.2, HN.out], h9.1⟩
          have HOW := Lib.hid hown
          clear hown ho
          cases hot : inP n xt with
          | false =>
            have HQF : Hid (Ending.returned (.bool false) = Ending.returned (.bool Q)) := Lib.hid (by
              rw [HST.out]; unfold okG; rw [HPN.out, hot]; simp)
            have HPT := Lib.hid (fun W => HP.out xt false hot W)
            obtain ⟨⟨k0, k1, k2, k3, k4, k5, k6, k7, k8⟩, c0, c1, hGM⟩ := H4.out.all
            clear hot
            go_wp2_with fail
            refine wp_region_held_drew (S := (fun w' => (w'.cell? ⟨w.heap.size, 0, none⟩ = some (.int .i64 c.fr) ∧ w'.cell? ⟨w.heap.size, 1, none⟩ = some (.slice A n cap) ∧ w'.cell? ⟨w.heap.size, 2, none⟩ = some vd ∧ w'.cell? ⟨w.heap.size, 3, none⟩ = some (.int .i64 c.mj) ∧ w'.cell? ⟨w.heap.size, 4, none⟩ = some vw ∧ w'.cell? ⟨w.heap.size, 5, none⟩ = some (.slice (some ⟨b, o, none⟩) m cap') ∧ w'.cell? ⟨w.heap.size, 6, none⟩ = some (.int .i64 c.se) ∧ w'.cell? ⟨w.heap.size, 7, none⟩ = some (.int .i64 c.qu) ∧ w'.cell? ⟨w.heap.size, 8, none⟩ = some (.int .i64 c.qt)) ∧ w'.cell? ⟨z, 0, none⟩ = some (.int .i64 xf) ∧ w'.cell? ⟨z, 1, none⟩ = some (.int .i64 xt) ∧ GmS w1 w4 c (.slice A n cap) vd vw (.slice (some ⟨b, o, none⟩) m cap') w.heap.size z g zg G xf xt xw w')) (by kernel_rfl) ?_ (fun hHeld => ?_)
            · try dsimp only
              (go_split_ands; refine GmS.all ?_; (first | assumption | (exact GmS.drew (by assumption)) | (exact GmS.next (by assumption) (by assumption))))
            refine wpAnyH_take (i := 0) (v := ?v0zC) rfl (by kernel_rfl) (by kernel_rfl) (by kernel_rfl) (fun _ _ _ h => h) (Or.inl ⟨by rfl, ?hy0zC⟩) (by assumption) ?rest0zC
            case hy0zC => intro w hSw; (try dsimp only at hSw); first | (go_simp; done) | (go_simp; with_reducible rfl)
            try simp only [Act.put, List.getElem_toArray, List.getElem_cons_succ, List.getElem_cons_zero, List.setIfInBounds_toArray, List.set_cons_zero, List.set_cons_succ]
            refine wpAnyH_take (i := 1) (v := ?v1zC) rfl (by kernel_rfl) (by kernel_rfl) (by kernel_rfl) (fun _ _ _ h => h) (Or.inl ⟨by rfl, ?hy1zC⟩) (by assumption) ?rest1zC
            case hy1zC => intro w hSw; (try dsimp only at hSw); first | (go_simp; done) | (go_simp; with_reducible rfl)
            try simp only [Act.put, List.getElem_toArray, List.getElem_cons_succ, List.getElem_cons_zero, List.setIfInBounds_toArray, List.set_cons_zero, List.set_cons_succ]
            refine wpAnyH_take (i := 2) (v := ?v2zC) rfl (by kernel_rfl) (by kernel_rfl) (by kernel_rfl) (fun _ _ _ h => h) (Or.inl ⟨by rfl, ?hy2zC⟩) (by assumption) ?rest2zC
            case hy2zC => intro w hSw; (try dsimp only at hSw); first | (go_simp; done) | (go_simp; with_reducible rfl)
            try simp only [Act.put, List.getElem_toArray, List.getElem_cons_succ, List.getElem_cons_zero, List.setIfInBounds_toArray, List.set_cons_zero, List.set_cons_succ]
            refine wpAnyH_take (i := 3) (v := ?v3zC) rfl (by kernel_rfl) (by kernel_rfl) (by kernel_rfl) (fun _ _ _ h => h) (Or.inl ⟨by rfl, ?hy3zC⟩) (by assumption) ?rest3zC
            case hy3zC => intro w hSw; (try dsimp only at hSw); first | (go_simp; done) | (go_simp; with_reducible rfl)
            try simp only [Act.put, List.getElem_toArray, List.getElem_cons_succ, List.getElem_cons_zero, List.setIfInBounds_toArray, List.set_cons_zero, List.set_cons_succ]
            refine wpAnyH_take (i := 4) (v := ?v4zC) rfl (by kernel_rfl) (by kernel_rfl) (by kernel_rfl) (fun _ _ _ h => h) (Or.inl ⟨by rfl, ?hy4zC⟩) (by assumption) ?rest4zC
            case hy4zC => intro w hSw; (try dsimp only at hSw); first | (go_simp; done) | (go_simp; with_reducible rfl)
            try simp only [Act.put, List.getElem_toArray, List.getElem_cons_succ, List.getElem_cons_zero, List.setIfInBounds_toArray, List.set_cons_zero, List.set_cons_succ]
            refine wpAnyH_ready (rs := [5]) (by kernel_rfl) (by simp) ?_
            refine AllReadyH.cons rfl (fun K hK => ?_) AllReadyH.nil
            go_simp
            refine (HPO.out _).mono ?_
            rintro e w5 ⟨rfl, hb5⟩
            go_wp2_with fail
            refine hK.out _ _ ?_ (fun hHeld2 => ?_)
            · try dsimp only
              (go_split_ands; refine GmS.all ?_; (first | assumption | (exact GmS.drew (by assumption)) | (exact GmS.next (by assumption) (by assumption))))
            clear hK K hHeld
            have hHeld := hHeld2; clear hHeld2
            try simp only [Act.put, List.getElem_toArray, List.getElem_cons_succ, List.getElem_cons_zero, List.setIfInBounds_toArray, List.set_cons_zero, List.set_cons_succ]
            refine wpAnyH_take (i := 6) (v := ?v6zC) rfl (by kernel_rfl) (by kernel_rfl) (by kernel_rfl) (fun _ _ _ h => h) (Or.inl ⟨by rfl, ?hy6zC⟩) (by assumption) ?rest6zC
            case hy6zC => intro w hSw; (try dsimp only at hSw); first | (go_simp; done) | (go_simp; with_reducible rfl)
            try simp only [Act.put, List.getElem_toArray, List.getElem_cons_succ, List.getElem_cons_zero, List.setIfInBounds_toArray, List.set_cons_zero, List.set_cons_succ]
            refine wpAnyH_take (i := 7) (v := ?v7zC) rfl (by kernel_rfl) (by kernel_rfl) (by kernel_rfl) (fun _ _ _ h => h) (Or.inl ⟨by rfl, ?hy7zC⟩) (by assumption) ?rest7zC
            case hy7zC => intro w hSw; (try dsimp only at hSw); first | (go_simp; done) | (go_simp; with_reducible rfl)
            try simp only [Act.put, List.getElem_toArray, List.getElem_cons_succ, List.getElem_cons_zero, List.setIfInBounds_toArray, List.set_cons_zero, List.set_cons_succ]
            refine wpAnyH_take (i := 8) (v := ?v8zC) rfl (by kernel_rfl) (by kernel_rfl) (by kernel_rfl) (fun _ _ _ h => h) (Or.inl ⟨by rfl, ?hy8zC⟩) (by assumption) ?rest8zC
            case hy8zC => intro w hSw; (try dsimp only at hSw); first | (go_simp; done) | (go_simp; with_reducible rfl)
            try simp only [Act.put, List.getElem_toArray, List.getElem_cons_succ, List.getElem_cons_zero, List.setIfInBounds_toArray, List.set_cons_zero, List.set_cons_succ]
            refine wpAnyH_take (i := 9) (v := ?v9zC) rfl (by kernel_rfl) (by kernel_rfl) (by kernel_rfl) (fun _ _ _ h => h) (Or.inl ⟨by rfl, ?hy9zC⟩) (by assumption) ?rest9zC
            case hy9zC => intro w hSw; (try dsimp only at hSw); first | (go_simp; done) | (go_simp; with_reducible rfl)
            try simp only [Act.put, List.getElem_toArray, List.getElem_cons_succ, List.getElem_cons_zero, List.setIfInBounds_toArray, List.set_cons_zero, List.set_cons_succ]
            refine wpAnyH_take (i := 10) (v := ?v10zC) rfl (by kernel_rfl) (by kernel_rfl) (by kernel_rfl) (fun _ _ _ h => h) (Or.inl ⟨by rfl, ?hy10zC⟩) (by assumption) ?rest10zC
            case hy10zC => intro w hSw; (try dsimp only at hSw); first | (go_simp; done) | (go_simp; with_reducible rfl)
            try simp only [Act.put, List.getElem_toArray, List.getElem_cons_succ, List.getElem_cons_zero, List.setIfInBounds_toArray, List.set_cons_zero, List.set_cons_succ]
            refine wpAnyH_take (i := 11) (v := ?v11zC) rfl (by kernel_rfl) (by kernel_rfl) (by kernel_rfl) (fun _ _ _ h => h) (Or.inl ⟨by rfl, ?hy11zC⟩) (by assumption) ?rest11zC
            case hy11zC => intro w hSw; (try dsimp only at hSw); first | (go_simp; done) | (go_simp; with_reducible rfl)
            try simp only [Act.put, List.getElem_toArray, List.getElem_cons_succ, List.getElem_cons_zero, List.setIfInBounds_toArray, List.set_cons_zero, List.set_cons_succ]
            refine wpAnyH_ready (rs := [12]) (by kernel_rfl) (by simp) ?_
            refine AllReadyH.cons rfl (fun K hK => ?_) AllReadyH.nil
            go_simp
            refine (HPT.out _).mono ?_
            rintro e w6 ⟨rfl, hb6⟩
            go_wp2_with fail
            refine hK.out _ _ ?_ (fun hHeld2 => ?_)
            · try dsimp only
              (go_split_ands; refine GmS.all ?_; (first | assumption | (exact GmS.drew (by assumption)) | (exact GmS.next (by assumption) (by assumption))))
            clear hK K hHeld
            have hHeld := hHeld2; clear hHeld2
            try simp only [Act.put, List.getElem_toArray, List.getElem_cons_succ, List.getElem_cons_zero, List.setIfInBounds_toArray, List.set_cons_zero, List.set_cons_succ]
            refine wpAnyH_take (i := 13) (v := ?v13zC) rfl (by kernel_rfl) (by kernel_rfl) (by kernel_rfl) (fun _ _ _ h => h) (Or.inl ⟨by rfl, ?hy13zC⟩) (by assumption) ?rest13zC
            case hy13zC => intro w hSw; (try dsimp only at hSw); first | (go_simp; done) | (go_simp; with_reducible rfl)
            try simp only [Act.put, List.getElem_toArray, List.getElem_cons_succ, List.getElem_cons_zero, List.setIfInBounds_toArray, List.set_cons_zero, List.set_cons_succ]
            refine wpAnyH_take (i := 14) (v := ?v14zC) rfl (by kernel_rfl) (by kernel_rfl) (by kernel_rfl) (fun _ _ _ h => h) (Or.inl ⟨by rfl, ?hy14zC⟩) (by assumption) ?rest14zC
            case hy14zC => intro w hSw; (try dsimp only at hSw); first | (go_simp; done) | (go_simp; with_reducible rfl)
            try simp only [Act.put, List.getElem_toArray, List.getElem_cons_succ, List.getElem_cons_zero, List.setIfInBounds_toArray, List.set_cons_zero, List.set_cons_succ]
            refine wpAnyH_take (i := 15) (v := ?v15zC) rfl (by kernel_rfl) (by kernel_rfl) (by kernel_rfl) (fun _ _ _ h => h) (Or.inl ⟨by rfl, ?hy15zC⟩) (by assumption) ?rest15zC
            case hy15zC => intro w hSw; (try dsimp only at hSw); first | (go_simp; done) | (go_simp; with_reducible rfl)
            try simp only [Act.put, List.getElem_toArray, List.getElem_cons_succ, List.getElem_cons_zero, List.setIfInBounds_toArray, List.set_cons_zero, List.set_cons_succ]
            refine wpAnyH_take (i := 16) (v := undef) rfl (by kernel_rfl) (by kernel_rfl) (by kernel_rfl) (fun _ _ _ h => h) (Or.inr ⟨by rfl, rfl⟩) (by assumption) ?rest16zC
            try simp only [Act.put, List.getElem_toArray, List.getElem_cons_succ, List.getElem_cons_zero, List.setIfInBounds_toArray, List.set_cons_zero, List.set_cons_succ]
            refine wpAnyH_take (i := 17) (v := undef) rfl (by kernel_rfl) (by kernel_rfl) (by kernel_rfl) (fun _ _ _ h => h) (Or.inr ⟨by rfl, rfl⟩) (by assumption) ?rest17zC
            try simp only [Act.put, List.getElem_toArray, List.getElem_cons_succ, List.getElem_cons_zero, List.setIfInBounds_toArray, List.set_cons_zero, List.set_cons_succ]
            refine wpAnyH_take (i := 18) (v := undef) rfl (by kernel_rfl) (by kernel_rfl) (by kernel_rfl) (fun _ _ _ h => h) (Or.inr ⟨by rfl, rfl⟩) (by assumption) ?rest18zC
            try simp only [Act.put, List.getElem_toArray, List.getElem_cons_succ, List.getElem_cons_zero, List.setIfInBounds_toArray, List.set_cons_zero, List.set_cons_succ]
            refine wpAnyH_take (i := 19) (v := undef) rfl (by kernel_rfl) (by kernel_rfl) (by kernel_rfl) (fun _ _ _ h => h) (Or.inr ⟨by rfl, rfl⟩) (by assumption) ?rest19zC
            try simp only [Act.put, List.getElem_toArray, List.getElem_cons_succ, List.getElem_cons_zero, List.setIfInBounds_toArray, List.set_cons_zero, List.set_cons_succ]
            refine wpAnyH_take (i := 20) (v := ?v20zC) rfl (by kernel_rfl) (by kernel_rfl) (by kernel_rfl) (fun _ _ _ h => h) (Or.inl ⟨by rfl, ?hy20zC⟩) (by assumption) ?rest20zC
            case hy20zC => intro w hSw; (try dsimp only at hSw); first | (go_simp; done) | (go_simp; with_reducible rfl)
            try simp only [Act.put, List.getElem_toArray, List.getElem_cons_succ, List.getElem_cons_zero, List.setIfInBounds_toArray, List.set_cons_zero, List.set_cons_succ]
            refine wpAnyH_take (i := 21) (v := ?v21zC) rfl (by kernel_rfl) (by kernel_rfl) (by kernel_rfl) (fun _ _ _ h => h) (Or.inl ⟨by rfl, ?hy21zC⟩) (by assumption) ?rest21zC
            case hy21zC => intro w hSw; (try dsimp only at hSw); first | (go_simp; done) | (go_simp; with_reducible rfl)
            try simp only [Act.put, List.getElem_toArray, List.getElem_cons_succ, List.getElem_cons_zero, List.setIfInBounds_toArray, List.set_cons_zero, List.set_cons_succ]
            refine wpAnyH_take (i := 22) (v := undef) rfl (by kernel_rfl) (by kernel_rfl) (by kernel_rfl) (fun _ _ _ h => h) (Or.inr ⟨by rfl, rfl⟩) (by assumption) ?rest22zC
            try simp only [Act.put, List.getElem_toArray, List.getElem_cons_succ, List.getElem_cons_zero, List.setIfInBounds_toArray, List.set_cons_zero, List.set_cons_succ]
            refine wpAnyH_take (i := 23) (v := undef) rfl (by kernel_rfl) (by kernel_rfl) (by kernel_rfl) (fun _ _ _ h => h) (Or.inr ⟨by rfl, rfl⟩) (by assumption) ?rest23zC
            try simp only [Act.put, List.getElem_toArray, List.getElem_cons_succ, List.getElem_cons_zero, List.setIfInBounds_toArray, List.set_cons_zero, List.set_cons_succ]
            refine wpAnyH_take (i := 24) (v := undef) rfl (by kernel_rfl) (by kernel_rfl) (by kernel_rfl) (fun _ _ _ h => h) (Or.inr ⟨by rfl, rfl⟩) (by assumption) ?rest24zC
            try simp only [Act.put, List.getElem_toArray, List.getElem_cons_succ, List.getElem_cons_zero, List.setIfInBounds_toArray, List.set_cons_zero, List.set_cons_succ]
            refine wpAnyH_take (i := 25) (v := undef) rfl (by kernel_rfl) (by kernel_rfl) (by kernel_rfl) (fun _ _ _ h => h) (Or.inr ⟨by rfl, rfl⟩) (by assumption) ?rest25zC
            try simp only [Act.put, List.getElem_toArray, List.getElem_cons_succ, List.getElem_cons_zero, List.setIfInBounds_toArray, List.set_cons_zero, List.set_cons_succ]
            refine wpAnyH_take (i := 26) (v := undef) rfl (by kernel_rfl) (by kernel_rfl) (by kernel_rfl) (fun _ _ _ h => h) (Or.inr ⟨by rfl, rfl⟩) (by assumption) ?rest26zC
            try simp only [Act.put, List.getElem_toArray, List.getElem_cons_succ, List.getElem_cons_zero, List.setIfInBounds_toArray, List.set_cons_zero, List.set_cons_succ]
            refine wpAnyH_take (i := 27) (v := undef) rfl (by kernel_rfl) (by kernel_rfl) (by kernel_rfl) (fun _ _ _ h => h) (Or.inr ⟨by rfl, rfl⟩) (by assumption) ?rest27zC
            try simp only [Act.put, List.getElem_toArray, List.getElem_cons_succ, List.getElem_cons_zero, List.setIfInBounds_toArray, List.set_cons_zero, List.set_cons_succ]
            refine wpAnyH_take (i := 28) (v := undef) rfl (by kernel_rfl) (by kernel_rfl) (by kernel_rfl) (fun _ _ _ h => h) (Or.inr ⟨by rfl, rfl⟩) (by assumption) ?rest28zC
            try simp only [Act.put, List.getElem_toArray, List.getElem_cons_succ, List.getElem_cons_zero, List.setIfInBounds_toArray, List.set_cons_zero, List.set_cons_succ]
            refine wpAnyH_take (i := 29) (v := ?v29zC) rfl (by kernel_rfl) (by kernel_rfl) (by kernel_rfl) (fun _ _ _ h => h) (Or.inl ⟨by rfl, ?hy29zC⟩) (by assumption) ?rest29zC
            case hy29zC => intro w hSw; (try dsimp only at hSw); first | (go_simp; done) | (go_simp; with_reducible rfl)
            try simp only [Act.put, List.getElem_toArray, List.getElem_cons_succ, List.getElem_cons_zero, List.setIfInBounds_toArray, List.set_cons_zero, List.set_cons_succ]
            refine wpAnyH_done (by kernel_rfl) ?_ _
            all_goals
              have HS9 := Lib.hid hHeld.2.2.2
              clear hHeld
              go_wp2_with fail
              go_ret
              exact ⟨HQF.out, Below.down HB.out HS9.out.below (by omega)⟩
          | true =>
            have HPT := Lib.hid (fun W => HP.out xt true hot W)
            have HOT := Lib.hid hot
            have hot2 := of_decide_eq_true hot
            clear hot
            by_cases hto : xt = N
            · have HQF : Hid (Ending.returned (.bool false) = Ending.returned (.bool Q)) := Lib.hid (by
                rw [HST.out]; unfold okG; rw [HOW.out.1, hto, decide_eq_false (show ¬ N ≠ N from fun h => h rfl)]; simp)
              obtain ⟨⟨k0, k1, k2, k3, k4, k5, k6, k7, k8⟩, c0, c1, hGM⟩ := H4.out.all
              have hte : (xt == N) = true := by rw [hto]; simp
              clear hto hot2
              go_wp2_with fail
              refine wp_region_held_drew (S := (fun w' => (w'.cell? ⟨w.heap.size, 0, none⟩ = some (.int .i64 c.fr) ∧ w'.cell? ⟨w.heap.size, 1, none⟩ = some (.slice A n cap) ∧ w'.cell? ⟨w.heap.size, 2, none⟩ = some vd ∧ w'.cell? ⟨w.heap.size, 3, none⟩ = some (.int .i64 c.mj) ∧ w'.cell? ⟨w.heap.size, 4, none⟩ = some vw ∧ w'.cell? ⟨w.heap.size, 5, none⟩ = some (.slice (some ⟨b, o, none⟩) m cap') ∧ w'.cell? ⟨w.heap.size, 6, none⟩ = some (.int .i64 c.se) ∧ w'.cell? ⟨w.heap.size, 7, none⟩ = some (.int .i64 c.qu) ∧ w'.cell? ⟨w.heap.size, 8, none⟩ = some (.int .i64 c.qt)) ∧ w'.cell? ⟨z, 0, none⟩ = some (.int .i64 xf) ∧ w'.cell? ⟨z, 1, none⟩ = some (.int .i64 xt) ∧ GmS w1 w4 c (.slice A n cap) vd vw (.slice (some ⟨b, o, none⟩) m cap') w.heap.size z g zg G xf xt xw w')) (by kernel_rfl) ?_ (fun hHeld => ?_)
              · try dsimp only
                (go_split_ands; refine GmS.all ?_; (first | assumption | (exact GmS.drew (by assumption)) | (exact GmS.next (by assumption) (by assumption))))
              refine wpAnyH_take (i := 0) (v := ?v0zD) rfl (by kernel_rfl) (by kernel_rfl) (by kernel_rfl) (fun _ _ _ h => h) (Or.inl ⟨by rfl, ?hy0zD⟩) (by assumption) ?rest0zD
              case hy0zD => intro w hSw; (try dsimp only at hSw); first | (go_simp; done) | (go_simp; with_reducible rfl)
              try simp only [Act.put, List.getElem_toArray, List.getElem_cons_succ, List.getElem_cons_zero, List.setIfInBounds_toArray, List.set_cons_zero, List.set_cons_succ]
              refine wpAnyH_take (i := 1) (v := ?v1zD) rfl (by kernel_rfl) (by kernel_rfl) (by kernel_rfl) (fun _ _ _ h => h) (Or.inl ⟨by rfl, ?hy1zD⟩) (by assumption) ?rest1zD
              case hy1zD => intro w hSw; (try dsimp only at hSw); first | (go_simp; done) | (go_simp; with_reducible rfl)
              try simp only [Act.put, List.getElem_toArray, List.getElem_cons_succ, List.getElem_cons_zero, List.setIfInBounds_toArray, List.set_cons_zero, List.set_cons_succ]
              refine wpAnyH_take (i := 2) (v := ?v2zD) rfl (by kernel_rfl) (by kernel_rfl) (by kernel_rfl) (fun _ _ _ h => h) (Or.inl ⟨by rfl, ?hy2zD⟩) (by assumption) ?rest2zD
              case hy2zD => intro w hSw; (try dsimp only at hSw); first | (go_simp; done) | (go_simp; with_reducible rfl)
              try simp only [Act.put, List.getElem_toArray, List.getElem_cons_succ, List.getElem_cons_zero, List.setIfInBounds_toArray, List.set_cons_zero, List.set_cons_succ]
              refine wpAnyH_take (i := 3) (v := ?v3zD) rfl (by kernel_rfl) (by kernel_rfl) (by kernel_rfl) (fun _ _ _ h => h) (Or.inl ⟨by rfl, ?hy3zD⟩) (by assumption) ?rest3zD
              case hy3zD => intro w hSw; (try dsimp only at hSw); first | (go_simp; done) | (go_simp; with_reducible rfl)
              try simp only [Act.put, List.getElem_toArray, List.getElem_cons_succ, List.getElem_cons_zero, List.setIfInBounds_toArray, List.set_cons_zero, List.set_cons_succ]
              refine wpAnyH_take (i := 4) (v := ?v4zD) rfl (by kernel_rfl) (by kernel_rfl) (by kernel_rfl) (fun _ _ _ h => h) (Or.inl ⟨by rfl, ?hy4zD⟩) (by assumption) ?rest4zD
              case hy4zD => intro w hSw; (try dsimp only at hSw); first | (go_simp; done) | (go_simp; with_reducible rfl)
              try simp only [Act.put, List.getElem_toArray, List.getElem_cons_succ, List.getElem_cons_zero, List.setIfInBounds_toArray, List.set_cons_zero, List.set_cons_succ]
              refine wpAnyH_ready (rs := [5]) (by kernel_rfl) (by simp) ?_
              refine AllReadyH.cons rfl (fun K hK => ?_) AllReadyH.nil
              go_simp
              refine (HPO.out _).mono ?_
              rintro e w5 ⟨rfl, hb5⟩
              go_wp2_with fail
              refine hK.out _ _ ?_ (fun hHeld2 => ?_)
              · try dsimp only
                (go_split_ands; refine GmS.all ?_; (first | assumption | (exact GmS.drew (by assumption)) | (exact GmS.next (by assumption) (by assumption))))
              clear hK K hHeld
              have hHeld := hHeld2; clear hHeld2
              try simp only [Act.put, List.getElem_toArray, List.getElem_cons_succ, List.getElem_cons_zero, List.setIfInBounds_toArray, List.set_cons_zero, List.set_cons_succ]
              refine wpAnyH_take (i := 6) (v := ?v6zD) rfl (by kernel_rfl) (by kernel_rfl) (by kernel_rfl) (fun _ _ _ h => h) (Or.inl ⟨by rfl, ?hy6zD⟩) (by assumption) ?rest6zD
              case hy6zD => intro w hSw; (try dsimp only at hSw); first | (go_simp; done) | (go_simp; with_reducible rfl)
              try simp only [Act.put, List.getElem_toArray, List.getElem_cons_succ, List.getElem_cons_zero, List.setIfInBounds_toArray, List.set_cons_zero, List.set_cons_succ]
              refine wpAnyH_take (i := 7) (v := ?v7zD) rfl (by kernel_rfl) (by kernel_rfl) (by kernel_rfl) (fun _ _ _ h => h) (Or.inl ⟨by rfl, ?hy7zD⟩) (by assumption) ?rest7zD
              case hy7zD => intro w hSw; (try dsimp only at hSw); first | (go_simp; done) | (go_simp; with_reducible rfl)
              try simp only [Act.put, List.getElem_toArray, List.getElem_cons_succ, List.getElem_cons_zero, List.setIfInBounds_toArray, List.set_cons_zero, List.set_cons_succ]
              refine wpAnyH_take (i := 8) (v := ?v8zD) rfl (by kernel_rfl) (by kernel_rfl) (by kernel_rfl) (fun _ _ _ h => h) (Or.inl ⟨by rfl, ?hy8zD⟩) (by assumption) ?rest8zD
              case hy8zD => intro w hSw; (try dsimp only at hSw); first | (go_simp; done) | (go_simp; with_reducible rfl)
              try simp only [Act.put, List.getElem_toArray, List.getElem_cons_succ, List.getElem_cons_zero, List.setIfInBounds_toArray, List.set_cons_zero, List.set_cons_succ]
              refine wpAnyH_take (i := 9) (v := ?v9zD) rfl (by kernel_rfl) (by kernel_rfl) (by kernel_rfl) (fun _ _ _ h => h) (Or.inl ⟨by rfl, ?hy9zD⟩) (by assumption) ?rest9zD
              case hy9zD => intro w hSw; (try dsimp only at hSw); first | (go_simp; done) | (go_simp; with_reducible rfl)
              try simp only [Act.put, List.getElem_toArray, List.getElem_cons_succ, List.getElem_cons_zero, List.setIfInBounds_toArray, List.set_cons_zero, List.set_cons_succ]
              refine wpAnyH_take (i := 10) (v := ?v10zD) rfl (by kernel_rfl) (by kernel_rfl) (by kernel_rfl) (fun _ _ _ h => h) (Or.inl ⟨by rfl, ?hy10zD⟩) (by assumption) ?rest10zD
              case hy10zD => intro w hSw; (try dsimp only at hSw); first | (go_simp; done) | (go_simp; with_reducible rfl)
              try simp only [Act.put, List.getElem_toArray, List.getElem_cons_succ, List.getElem_cons_zero, List.setIfInBounds_toArray, List.set_cons_zero, List.set_cons_succ]
              refine wpAnyH_take (i := 11) (v := ?v11zD) rfl (by kernel_rfl) (by kernel_rfl) (by kernel_rfl) (fun _ _ _ h => h) (Or.inl ⟨by rfl, ?hy11zD⟩) (by assumption) ?rest11zD
              case hy11zD => intro w hSw; (try dsimp only at hSw); first | (go_simp; done) | (go_simp; with_reducible rfl)
              try simp only [Act.put, List.getElem_toArray, List.getElem_cons_succ, List.getElem_cons_zero, List.setIfInBounds_toArray, List.set_cons_zero, List.set_cons_succ]
              refine wpAnyH_ready (rs := [12]) (by kernel_rfl) (by simp) ?_
              refine AllReadyH.cons rfl (fun K hK => ?_) AllReadyH.nil
              go_simp
              refine (HPT.out _).mono ?_
              rintro e w6 ⟨rfl, hb6⟩
              go_wp2_with fail
              refine hK.out _ _ ?_ (fun hHeld2 => ?_)
              · try dsimp only
                (go_split_ands; refine GmS.all ?_; (first | assumption | (exact GmS.drew (by assumption)) | (exact GmS.next (by assumption) (by assumption))))
              clear hK K hHeld
              have hHeld := hHeld2; clear hHeld2
              try simp only [Act.put, List.getElem_toArray, List.getElem_cons_succ, List.getElem_cons_zero, List.setIfInBounds_toArray, List.set_cons_zero, List.set_cons_succ]
              refine wpAnyH_take (i := 13) (v := ?v13zD) rfl (by kernel_rfl) (by kernel_rfl) (by kernel_rfl) (fun _ _ _ h => h) (Or.inl ⟨by rfl, ?hy13zD⟩) (by assumption) ?rest13zD
              case hy13zD => intro w hSw; (try dsimp only at hSw); first | (go_simp; done) | (go_simp; with_reducible rfl)
              try simp only [Act.put, List.getElem_toArray, List.getElem_cons_succ, List.getElem_cons_zero, List.setIfInBounds_toArray, List.set_cons_zero, List.set_cons_succ]
              refine wpAnyH_take (i := 14) (v := ?v14zD) rfl (by kernel_rfl) (by kernel_rfl) (by kernel_rfl) (fun _ _ _ h => h) (Or.inl ⟨by rfl, ?hy14zD⟩) (by assumption) ?rest14zD
              case hy14zD => intro w hSw; (try dsimp only at hSw); first | (go_simp; done) | (go_simp; with_reducible rfl)
              try simp only [Act.put, List.getElem_toArray, List.getElem_cons_succ, List.getElem_cons_zero, List.setIfInBounds_toArray, List.set_cons_zero, List.set_cons_succ]
              refine wpAnyH_take (i := 15) (v := ?v15zD) rfl (by kernel_rfl) (by kernel_rfl) (by kernel_rfl) (fun _ _ _ h => h) (Or.inl ⟨by rfl, ?hy15zD⟩) (by assumption) ?rest15zD
              case hy15zD => intro w hSw; (try dsimp only at hSw); first | (go_simp; done) | (go_simp; with_reducible rfl)
              try simp only [Act.put, List.getElem_toArray, List.getElem_cons_succ, List.getElem_cons_zero, List.setIfInBounds_toArray, List.set_cons_zero, List.set_cons_succ]
              refine wpAnyH_take (i := 16) (v := ?v16zD) rfl (by kernel_rfl) (by kernel_rfl) (by kernel_rfl) (fun _ _ _ h => h) (Or.inl ⟨by rfl, ?hy16zD⟩) (by assumption) ?rest16zD
              case hy16zD => intro w hSw; (try dsimp only at hSw); first | (go_simp; done) | (go_simp; with_reducible rfl)
              try simp only [Act.put, List.getElem_toArray, List.getElem_cons_succ, List.getElem_cons_zero, List.setIfInBounds_toArray, List.set_cons_zero, List.set_cons_succ]
              refine wpAnyH_take (i := 17) (v := ?v17zD) rfl (by kernel_rfl) (by kernel_rfl) (by kernel_rfl) (fun _ _ _ h => h) (Or.inl ⟨by rfl, ?hy17zD⟩) (by assumption) ?rest17zD
              case hy17zD => intro w hSw; (try dsimp only at hSw); first | (go_simp; done) | (go_simp; with_reducible rfl)
              try simp only [Act.put, List.getElem_toArray, List.getElem_cons_succ, List.getElem_cons_zero, List.setIfInBounds_toArray, List.set_cons_zero, List.set_cons_succ]
              refine wpAnyH_take (i := 18) (v := ?v18zD) rfl (by kernel_rfl) (by kernel_rfl) (by kernel_rfl) (fun _ _ _ h => h) (Or.inl ⟨by rfl, ?hy18zD⟩) (by assumption) ?rest18zD
              case hy18zD => intro w hSw; (try dsimp only at hSw); first | (go_simp; done) | (go_simp; with_reducible rfl)
              try simp only [Act.put, List.getElem_toArray, List.getElem_cons_succ, List.getElem_cons_zero, List.setIfInBounds_toArray, List.set_cons_zero, List.set_cons_succ]
              refine wpAnyH_take (i := 19) (v := ?v19zD) rfl (by kernel_rfl) (by kernel_rfl) (by kernel_rfl) (fun _ _ _ h => h) (Or.inl ⟨by rfl, ?hy19zD⟩) (by assumption) ?rest19zD
              case hy19zD => intro w hSw; (try dsimp only at hSw); first | (go_simp; done) | (go_simp; with_reducible rfl)
              try simp only [Act.put, List.getElem_toArray, List.getElem_cons_succ, List.getElem_cons_zero, List.setIfInBounds_toArray, List.set_cons_zero, List.set_cons_succ]
              refine wpAnyH_take (i := 20) (v := ?v20zD) rfl (by kernel_rfl) (by kernel_rfl) (by kernel_rfl) (fun _ _ _ h => h) (Or.inl ⟨by rfl, ?hy20zD⟩) (by assumption) ?rest20zD
              case hy20zD => intro w hSw; (try dsimp only at hSw); first | (go_simp; done) | (go_simp; with_reducible rfl)
              try simp only [Act.put, List.getElem_toArray, List.getElem_cons_succ, List.getElem_cons_zero, List.setIfInBounds_toArray, List.set_cons_zero, List.set_cons_succ]
              refine wpAnyH_take (i := 21) (v := ?v21zD) rfl (by kernel_rfl) (by kernel_rfl) (by kernel_rfl) (fun _ _ _ h => h) (Or.inl ⟨by rfl, ?hy21zD⟩) (by assumption) ?rest21zD
              case hy21zD => intro w hSw; (try dsimp only at hSw); first | (go_simp; done) | (go_simp; with_reducible rfl)
              try simp only [Act.put, List.getElem_toArray, List.getElem_cons_succ, List.getElem_cons_zero, List.setIfInBounds_toArray, List.set_cons_zero, List.set_cons_succ]
              refine wpAnyH_take (i := 22) (v := undef) rfl (by kernel_rfl) (by kernel_rfl) (by kernel_rfl) (fun _ _ _ h => h) (Or.inr ⟨by rfl, rfl⟩) (by assumption) ?rest22zD
              try simp only [Act.put, List.getElem_toArray, List.getElem_cons_succ, List.getElem_cons_zero, List.setIfInBounds_toArray, List.set_cons_zero, List.set_cons_succ]
              refine wpAnyH_take (i := 23) (v := undef) rfl (by kernel_rfl) (by kernel_rfl) (by kernel_rfl) (fun _ _ _ h => h) (Or.inr ⟨by rfl, rfl⟩) (by assumption) ?rest23zD
              try simp only [Act.put, List.getElem_toArray, List.getElem_cons_succ, List.getElem_cons_zero, List.setIfInBounds_toArray, List.set_cons_zero, List.set_cons_succ]
              refine wpAnyH_take (i := 24) (v := undef) rfl (by kernel_rfl) (by kernel_rfl) (by kernel_rfl) (fun _ _ _ h => h) (Or.inr ⟨by rfl, rfl⟩) (by assumption) ?rest24zD
              try simp only [Act.put, List.getElem_toArray, List.getElem_cons_succ, List.getElem_cons_zero, List.setIfInBounds_toArray, List.set_cons_zero, List.set_cons_succ]
              refine wpAnyH_take (i := 25) (v := undef) rfl (by kernel_rfl) (by kernel_rfl) (by kernel_rfl) (fun _ _ _ h => h) (Or.inr ⟨by rfl, rfl⟩) (by assumption) ?rest25zD
              try simp only [Act.put, List.getElem_toArray, List.getElem_cons_succ, List.getElem_cons_zero, List.setIfInBounds_toArray, List.set_cons_zero, List.set_cons_succ]
              refine wpAnyH_take (i := 26) (v := undef) rfl (by kernel_rfl) (by kernel_rfl) (by kernel_rfl) (fun _ _ _ h => h) (Or.inr ⟨by rfl, rfl⟩) (by assumption) ?rest26zD
              try simp only [Act.put, List.getElem_toArray, List.getElem_cons_succ, List.getElem_cons_zero, List.setIfInBounds_toArray, List.set_cons_zero, List.set_cons_succ]
              refine wpAnyH_take (i := 27) (v := undef) rfl (by kernel_rfl) (by kernel_rfl) (by kernel_rfl) (fun _ _ _ h => h) (Or.inr ⟨by rfl, rfl⟩) (by assumption) ?rest27zD
              try simp only [Act.put, List.getElem_toArray, List.getElem_cons_succ, List.getElem_cons_zero, List.setIfInBounds_toArray, List.set_cons_zero, List.set_cons_succ]
              refine wpAnyH_take (i := 28) (v := undef) rfl (by kernel_rfl) (by kernel_rfl) (by kernel_rfl) (fun _ _ _ h => h) (Or.inr ⟨by rfl, rfl⟩) (by assumption) ?rest28zD
              try simp only [Act.put, List.getElem_toArray, List.getElem_cons_succ, List.getElem_cons_zero, List.setIfInBounds_toArray, List.set_cons_zero, List.set_cons_succ]
              refine wpAnyH_take (i := 29) (v := ?v29zD) rfl (by kernel_rfl) (by kernel_rfl) (by kernel_rfl) (fun _ _ _ h => h) (Or.inl ⟨by rfl, ?hy29zD⟩) (by assumption) ?rest29zD
              case hy29zD => intro w hSw; (try dsimp only at hSw); first | (go_simp; done) | (go_simp; with_reducible rfl)
              try simp only [Act.put, List.getElem_toArray, List.getElem_cons_succ, List.getElem_cons_zero, List.setIfInBounds_toArray, List.set_cons_zero, List.set_cons_succ]
              refine wpAnyH_done (by kernel_rfl) ?_ _
              all_goals
                have HS9 := Lib.hid hHeld.2.2.2
                clear hHeld
                go_wp2_with fail
                go_ret
                exact ⟨HQF.out, Below.down HB.out HS9.out.below (by omega)⟩
            · have hte : (xt == N) = false := by simpa using hto
              obtain ⟨f, rfl⟩ := Int.eq_ofNat_of_zero_le e3
              obtain ⟨t, rfl⟩ := Int.eq_ofNat_of_zero_le hot2.1
              have hf64 : f < 64 := by have := HF.out; omega
              have ht4 : t < 4 := by have := hot2.2; omega
              have hbit := HGB.out f t hf64 ht4
              have hcell := HG4.out.cell (f * 4 + t)
              rw [bitc_get _ _ _ (by omega), hbit] at hcell
              have hok : okG c ⟨f, t, xw⟩ = true := by
                unfold okG
                rw [HPN.out, HOT.out, HOW.out.1, decide_eq_true HOW.out.2, decide_eq_true hto]; rfl
              have hsg : (c.gs.take k).any (sgB ⟨f, t, xw⟩) = (c.gs.take k).any (fun h => decide (h.f = (f : Int) ∧ h.t = (t : Int))) := rfl
              have hst9 := HST.out
              rw [hok, hsg, Bool.true_and] at hst9
              have hbl : Hid ((bitc G 256)[f * 4 + t]? = some (.bool ((c.gs.take k).any (fun h => decide (h.f = (f : Int) ∧ h.t = (t : Int)))))) := Lib.hid (by rw [bitc_get _ _ _ (by omega), hbit])
              generalize hBT : (c.gs.take k).any (fun h => decide (h.f = (f : Int) ∧ h.t = (t : Int))) = BT at *
              have HST9 := Lib.hid hst9
              obtain ⟨⟨k0, k1, k2, k3, k4, k5, k6, k7, k8⟩, c0, c1, c9, hGM⟩ := H4.out.all2 hbl.out
              have hfi : (f : Int) < 64 := by omega
              have hti : (t : Int) < 4 := by omega
              clear hst9 hsg hok hcell hbit hBT hto hot2 e3 e4 hxl
              cases BT with
              | true =>
                have HQF : Hid (Ending.returned (.bool false) = Ending.returned (.bool Q)) := Lib.hid (by rw [HST9.out]; rfl)
                go_wp2_with fail
                refine wp_region_held_drew (S := (fun w' => (w'.cell? ⟨w.heap.size, 0, none⟩ = some (.int .i64 c.fr) ∧ w'.cell? ⟨w.heap.size, 1, none⟩ = some (.slice A n cap) ∧ w'.cell? ⟨w.heap.size, 2, none⟩ = some vd ∧ w'.cell? ⟨w.heap.size, 3, none⟩ = some (.int .i64 c.mj) ∧ w'.cell? ⟨w.heap.size, 4, none⟩ = some vw ∧ w'.cell? ⟨w.heap.size, 5, none⟩ = some (.slice (some ⟨b, o, none⟩) m cap') ∧ w'.cell? ⟨w.heap.size, 6, none⟩ = some (.int .i64 c.se) ∧ w'.cell? ⟨w.heap.size, 7, none⟩ = some (.int .i64 c.qu) ∧ w'.cell? ⟨w.heap.size, 8, none⟩ = some (.int .i64 c.qt)) ∧ w'.cell? ⟨z, 0, none⟩ = some (.int .i64 (f : Int)) ∧ w'.cell? ⟨z, 1, none⟩ = some (.int .i64 (t : Int)) ∧ w'.cell? ⟨zg, f * 4 + t, none⟩ = some (.bool true) ∧ GmS w1 w4 c (.slice A n cap) vd vw (.slice (some ⟨b, o, none⟩) m cap') w.heap.size z g zg G f t xw w')) (by kernel_rfl) ?_ (fun hHeld => ?_)
                · try dsimp only
                  (go_split_ands; refine GmS.all2 hbl.out ?_; (first | assumption | (exact GmS.drew (by assumption)) | (exact GmS.next (by assumption) (by assumption))))
                refine wpAnyH_take (i := 0) (v := ?v0zE) rfl (by kernel_rfl) (by kernel_rfl) (by kernel_rfl) (fun _ _ _ h => h) (Or.inl ⟨by rfl, ?hy0zE⟩) (by assumption) ?rest0zE
                case hy0zE => intro w hSw; (try dsimp only at hSw); first | (go_simp; done) | (go_simp; with_reducible rfl)
                try simp only [Act.put, List.getElem_toArray, List.getElem_cons_succ, List.getElem_cons_zero, List.setIfInBounds_toArray, List.set_cons_zero, List.set_cons_succ]
                refine wpAnyH_take (i := 1) (v := ?v1zE) rfl (by kernel_rfl) (by kernel_rfl) (by kernel_rfl) (fun _ _ _ h => h) (Or.inl ⟨by rfl, ?hy1zE⟩) (by assumption) ?rest1zE
                case hy1zE => intro w hSw; (try dsimp only at hSw); first | (go_simp; done) | (go_simp; with_reducible rfl)
                try simp only [Act.put, List.getElem_toArray, List.getElem_cons_succ, List.getElem_cons_zero, List.setIfInBounds_toArray, List.set_cons_zero, List.set_cons_succ]
                refine wpAnyH_take (i := 2) (v := ?v2zE) rfl (by kernel_rfl) (by kernel_rfl) (by kernel_rfl) (fun _ _ _ h => h) (Or.inl ⟨by rfl, ?hy2zE⟩) (by assumption) ?rest2zE
                case hy2zE => intro w hSw; (try dsimp only at hSw); first | (go_simp; done) | (go_simp; with_reducible rfl)
                try simp only [Act.put, List.getElem_toArray, List.getElem_cons_succ, List.getElem_cons_zero, List.setIfInBounds_toArray, List.set_cons_zero, List.set_cons_succ]
                refine wpAnyH_take (i := 3) (v := ?v3zE) rfl (by kernel_rfl) (by kernel_rfl) (by kernel_rfl) (fun _ _ _ h => h) (Or.inl ⟨by rfl, ?hy3zE⟩) (by assumption) ?rest3zE
                case hy3zE => intro w hSw; (try dsimp only at hSw); first | (go_simp; done) | (go_simp; with_reducible rfl)
                try simp only [Act.put, List.getElem_toArray, List.getElem_cons_succ, List.getElem_cons_zero, List.setIfInBounds_toArray, List.set_cons_zero, List.set_cons_succ]
                refine wpAnyH_take (i := 4) (v := ?v4zE) rfl (by kernel_rfl) (by kernel_rfl) (by kernel_rfl) (fun _ _ _ h => h) (Or.inl ⟨by rfl, ?hy4zE⟩) (by assumption) ?rest4zE
                case hy4zE => intro w hSw; (try dsimp only at hSw); first | (go_simp; done) | (go_simp; with_reducible rfl)
                try simp only [Act.put, List.getElem_toArray, List.getElem_cons_succ, List.getElem_cons_zero, List.setIfInBounds_toArray, List.set_cons_zero, List.set_cons_succ]
                refine wpAnyH_ready (rs := [5]) (by kernel_rfl) (by simp) ?_
                refine AllReadyH.cons rfl (fun K hK => ?_) AllReadyH.nil
                go_simp
                refine (HPO.out _).mono ?_
                rintro e w5 ⟨rfl, hb5⟩
                go_wp2_with fail
                refine hK.out _ _ ?_ (fun hHeld2 => ?_)
                · try dsimp only
                  (go_split_ands; refine GmS.all2 hbl.out ?_; (first | assumption | (exact GmS.drew (by assumption)) | (exact GmS.next (by assumption) (by assumption))))
                clear hK K hHeld
                have hHeld := hHeld2; clear hHeld2
                try simp only [Act.put, List.getElem_toArray, List.getElem_cons_succ, List.getElem_cons_zero, List.setIfInBounds_toArray, List.set_cons_zero, List.set_cons_succ]
                refine wpAnyH_take (i := 6) (v := ?v6zE) rfl (by kernel_rfl) (by kernel_rfl) (by kernel_rfl) (fun _ _ _ h => h) (Or.inl ⟨by rfl, ?hy6zE⟩) (by assumption) ?rest6zE
                case hy6zE => intro w hSw; (try dsimp only at hSw); first | (go_simp; done) | (go_simp; with_reducible rfl)
                try simp only [Act.put, List.getElem_toArray, List.getElem_cons_succ, List.getElem_cons_zero, List.setIfInBounds_toArray, List.set_cons_zero, List.set_cons_succ]
                refine wpAnyH_take (i := 7) (v := ?v7zE) rfl (by kernel_rfl) (by kernel_rfl) (by kernel_rfl) (fun _ _ _ h => h) (Or.inl ⟨by rfl, ?hy7zE⟩) (by assumption) ?rest7zE
                case hy7zE => intro w hSw; (try dsimp only at hSw); first | (go_simp; done) | (go_simp; with_reducible rfl)
                try simp only [Act.put, List.getElem_toArray, List.getElem_cons_succ, List.getElem_cons_zero, List.setIfInBounds_toArray, List.set_cons_zero, List.set_cons_succ]
                refine wpAnyH_take (i := 8) (v := ?v8zE) rfl (by kernel_rfl) (by kernel_rfl) (by kernel_rfl) (fun _ _ _ h => h) (Or.inl ⟨by rfl, ?hy8zE⟩) (by assumption) ?rest8zE
                case hy8zE => intro w hSw; (try dsimp only at hSw); first | (go_simp; done) | (go_simp; with_reducible rfl)
                try simp only [Act.put, List.getElem_toArray, List.getElem_cons_succ, List.getElem_cons_zero, List.setIfInBounds_toArray, List.set_cons_zero, List.set_cons_succ]
                refine wpAnyH_take (i := 9) (v := ?v9zE) rfl (by kernel_rfl) (by kernel_rfl) (by kernel_rfl) (fun _ _ _ h => h) (Or.inl ⟨by rfl, ?hy9zE⟩) (by assumption) ?rest9zE
                case hy9zE => intro w hSw; (try dsimp only at hSw); first | (go_simp; done) | (go_simp; with_reducible rfl)
                try simp only [Act.put, List.getElem_toArray, List.getElem_cons_succ, List.getElem_cons_zero, List.setIfInBounds_toArray, List.set_cons_zero, List.set_cons_succ]
                refine wpAnyH_take (i := 10) (v := ?v10zE) rfl (by kernel_rfl) (by kernel_rfl) (by kernel_rfl) (fun _ _ _ h => h) (Or.inl ⟨by rfl, ?hy10zE⟩) (by assumption) ?rest10zE
                case hy10zE => intro w hSw; (try dsimp only at hSw); first | (go_simp; done) | (go_simp; with_reducible rfl)
                try simp only [Act.put, List.getElem_toArray, List.getElem_cons_succ, List.getElem_cons_zero, List.setIfInBounds_toArray, List.set_cons_zero, List.set_cons_succ]
                refine wpAnyH_take (i := 11) (v := ?v11zE) rfl (by kernel_rfl) (by kernel_rfl) (by kernel_rfl) (fun _ _ _ h => h) (Or.inl ⟨by rfl, ?hy11zE⟩) (by assumption) ?rest11zE
                case hy11zE => intro w hSw; (try dsimp only at hSw); first | (go_simp; done) | (go_simp; with_reducible rfl)
                try simp only [Act.put, List.getElem_toArray, List.getElem_cons_succ, List.getElem_cons_zero, List.setIfInBounds_toArray, List.set_cons_zero, List.set_cons_succ]
                refine wpAnyH_ready (rs := [12]) (by kernel_rfl) (by simp) ?_
                refine AllReadyH.cons rfl (fun K hK => ?_) AllReadyH.nil
                go_simp
                refine (HPT.out _).mono ?_
                rintro e w6 ⟨rfl, hb6⟩
                go_wp2_with fail
                refine hK.out _ _ ?_ (fun hHeld2 => ?_)
                · try dsimp only
                  (go_split_ands; refine GmS.all2 hbl.out ?_; (first | assumption | (exact GmS.drew (by assumption)) | (exact GmS.next (by assumption) (by assumption))))
                clear hK K hHeld
                have hHeld := hHeld2; clear hHeld2
                try simp only [Act.put, List.getElem_toArray, List.getElem_cons_succ, List.getElem_cons_zero, List.setIfInBounds_toArray, List.set_cons_zero, List.set_cons_succ]
                refine wpAnyH_take (i := 13) (v := ?v13zE) rfl (by kernel_rfl) (by kernel_rfl) (by kernel_rfl) (fun _ _ _ h => h) (Or.inl ⟨by rfl, ?hy13zE⟩) (by assumption) ?rest13zE
                case hy13zE => intro w hSw; (try dsimp only at hSw); first | (go_simp; done) | (go_simp; with_reducible rfl)
                try simp only [Act.put, List.getElem_toArray, List.getElem_cons_succ, List.getElem_cons_zero, List.setIfInBounds_toArray, List.set_cons_zero, List.set_cons_succ]
                refine wpAnyH_take (i := 14) (v := ?v14zE) rfl (by kernel_rfl) (by kernel_rfl) (by kernel_rfl) (fun _ _ _ h => h) (Or.inl ⟨by rfl, ?hy14zE⟩) (by assumption) ?rest14zE
                case hy14zE => intro w hSw; (try dsimp only at hSw); first | (go_simp; done) | (go_simp; with_reducible rfl)
                try simp only [Act.put, List.getElem_toArray, List.getElem_cons_succ, List.getElem_cons_zero, List.setIfInBounds_toArray, List.set_cons_zero, List.set_cons_succ]
                refine wpAnyH_take (i := 15) (v := ?v15zE) rfl (by kernel_rfl) (by kernel_rfl) (by kernel_rfl) (fun _ _ _ h => h) (Or.inl ⟨by rfl, ?hy15zE⟩) (by assumption) ?rest15zE
                case hy15zE => intro w hSw; (try dsimp only at hSw); first | (go_simp; done) | (go_simp; with_reducible rfl)
                try simp only [Act.put, List.getElem_toArray, List.getElem_cons_succ, List.getElem_cons_zero, List.setIfInBounds_toArray, List.set_cons_zero, List.set_cons_succ]
                refine wpAnyH_take (i := 16) (v := ?v16zE) rfl (by kernel_rfl) (by kernel_rfl) (by kernel_rfl) (fun _ _ _ h => h) (Or.inl ⟨by rfl, ?hy16zE⟩) (by assumption) ?rest16zE
                case hy16zE => intro w hSw; (try dsimp only at hSw); first | (go_simp; done) | (go_simp; with_reducible rfl)
                try simp only [Act.put, List.getElem_toArray, List.getElem_cons_succ, List.getElem_cons_zero, List.setIfInBounds_toArray, List.set_cons_zero, List.set_cons_succ]
                refine wpAnyH_take (i := 17) (v := ?v17zE) rfl (by kernel_rfl) (by kernel_rfl) (by kernel_rfl) (fun _ _ _ h => h) (Or.inl ⟨by rfl, ?hy17zE⟩) (by assumption) ?rest17zE
                case hy17zE => intro w hSw; (try dsimp only at hSw); first | (go_simp; done) | (go_simp; with_reducible rfl)
                try simp only [Act.put, List.getElem_toArray, List.getElem_cons_succ, List.getElem_cons_zero, List.setIfInBounds_toArray, List.set_cons_zero, List.set_cons_succ]
                refine wpAnyH_take (i := 18) (v := ?v18zE) rfl (by kernel_rfl) (by kernel_rfl) (by kernel_rfl) (fun _ _ _ h => h) (Or.inl ⟨by rfl, ?hy18zE⟩) (by assumption) ?rest18zE
                case hy18zE => intro w hSw; (try dsimp only at hSw); first | (go_simp; done) | (go_simp; with_reducible rfl)
                try simp only [Act.put, List.getElem_toArray, List.getElem_cons_succ, List.getElem_cons_zero, List.setIfInBounds_toArray, List.set_cons_zero, List.set_cons_succ]
                refine wpAnyH_take (i := 19) (v := ?v19zE) rfl (by kernel_rfl) (by kernel_rfl) (by kernel_rfl) (fun _ _ _ h => h) (Or.inl ⟨by rfl, ?hy19zE⟩) (by assumption) ?rest19zE
                case hy19zE => intro w hSw; (try dsimp only at hSw); first | (go_simp; done) | (go_simp; with_reducible rfl)
                try simp only [Act.put, List.getElem_toArray, List.getElem_cons_succ, List.getElem_cons_zero, List.setIfInBounds_toArray, List.set_cons_zero, List.set_cons_succ]
                refine wpAnyH_take (i := 20) (v := ?v20zE) rfl (by kernel_rfl) (by kernel_rfl) (by kernel_rfl) (fun _ _ _ h => h) (Or.inl ⟨by rfl, ?hy20zE⟩) (by assumption) ?rest20zE
                case hy20zE => intro w hSw; (try dsimp only at hSw); first | (go_simp; done) | (go_simp; with_reducible rfl)
                try simp only [Act.put, List.getElem_toArray, List.getElem_cons_succ, List.getElem_cons_zero, List.setIfInBounds_toArray, List.set_cons_zero, List.set_cons_succ]
                refine wpAnyH_take (i := 21) (v := ?v21zE) rfl (by kernel_rfl) (by kernel_rfl) (by kernel_rfl) (fun _ _ _ h => h) (Or.inl ⟨by rfl, ?hy21zE⟩) (by assumption) ?rest21zE
                case hy21zE => intro w hSw; (try dsimp only at hSw); first | (go_simp; done) | (go_simp; with_reducible rfl)
                try simp only [Act.put, List.getElem_toArray, List.getElem_cons_succ, List.getElem_cons_zero, List.setIfInBounds_toArray, List.set_cons_zero, List.set_cons_succ]
                refine wpAnyH_take (i := 22) (v := ?v22zE) rfl (by kernel_rfl) (by kernel_rfl) (by kernel_rfl) (fun _ _ _ h => h) (Or.inl ⟨by rfl, ?hy22zE⟩) (by assumption) ?rest22zE
                case hy22zE => intro w hSw; (try dsimp only at hSw); first | (go_simp; done) | (go_simp; with_reducible rfl)
                try simp only [Act.put, List.getElem_toArray, List.getElem_cons_succ, List.getElem_cons_zero, List.setIfInBounds_toArray, List.set_cons_zero, List.set_cons_succ]
                refine wpAnyH_take (i := 23) (v := ?v23zE) rfl (by kernel_rfl) (by kernel_rfl) (by kernel_rfl) (fun _ _ _ h => h) (Or.inl ⟨by rfl, ?hy23zE⟩) (by assumption) ?rest23zE
                case hy23zE => intro w hSw; (try dsimp only at hSw); first | (go_simp; done) | (go_simp; with_reducible rfl)
                try simp only [Act.put, List.getElem_toArray, List.getElem_cons_succ, List.getElem_cons_zero, List.setIfInBounds_toArray, List.set_cons_zero, List.set_cons_succ]
                refine wpAnyH_take (i := 24) (v := ?v24zE) rfl (by kernel_rfl) (by kernel_rfl) (by kernel_rfl) (fun _ _ _ h => h) (Or.inl ⟨by rfl, ?hy24zE⟩) (by assumption) ?rest24zE
                case hy24zE => intro w hSw; (try dsimp only at hSw); first | (go_simp; done) | (go_simp; with_reducible rfl)
                try simp only [Act.put, List.getElem_toArray, List.getElem_cons_succ, List.getElem_cons_zero, List.setIfInBounds_toArray, List.set_cons_zero, List.set_cons_succ]
                refine wpAnyH_take (i := 25) (v := ?v25zE) rfl (by kernel_rfl) (by kernel_rfl) (by kernel_rfl) (fun _ _ _ h => h) (Or.inl ⟨by rfl, ?hy25zE⟩) (by assumption) ?rest25zE
                case hy25zE => intro w hSw; (try dsimp only at hSw); first | (go_simp; done) | (go_simp; with_reducible rfl)
                try simp only [Act.put, List.getElem_toArray, List.getElem_cons_succ, List.getElem_cons_zero, List.setIfInBounds_toArray, List.set_cons_zero, List.set_cons_succ]
                refine wpAnyH_take (i := 26) (v := ?v26zE) rfl (by kernel_rfl) (by kernel_rfl) (by kernel_rfl) (fun _ _ _ h => h) (Or.inl ⟨by rfl, ?hy26zE⟩) (by assumption) ?rest26zE
                case hy26zE => intro w hSw; (try dsimp only at hSw); first | (go_simp; done) | (go_simp; with_reducible rfl)
                try simp only [Act.put, List.getElem_toArray, List.getElem_cons_succ, List.getElem_cons_zero, List.setIfInBounds_toArray, List.set_cons_zero, List.set_cons_succ]
                refine wpAnyH_take (i := 27) (v := ?v27zE) rfl (by kernel_rfl) (by kernel_rfl) (by kernel_rfl) (fun _ _ _ h => h) (Or.inl ⟨by rfl, ?hy27zE⟩) (by assumption) ?rest27zE
                case hy27zE => intro w hSw; (try dsimp only at hSw); first | (go_simp; done) | (go_simp; with_reducible rfl)
                try simp only [Act.put, List.getElem_toArray, List.getElem_cons_succ, List.getElem_cons_zero, List.setIfInBounds_toArray, List.set_cons_zero, List.set_cons_succ]
                refine wpAnyH_take (i := 28) (v := ?v28zE) rfl (by kernel_rfl) (by kernel_rfl) (by kernel_rfl) (fun _ _ _ h => h) (Or.inl ⟨by rfl, ?hy28zE⟩) (by assumption) ?rest28zE
                case hy28zE => intro w hSw; (try dsimp only at hSw); first | (go_simp; done) | (go_simp; with_reducible rfl)
                try simp only [Act.put, List.getElem_toArray, List.getElem_cons_succ, List.getElem_cons_zero, List.setIfInBounds_toArray, List.set_cons_zero, List.set_cons_succ]
                refine wpAnyH_take (i := 29) (v := ?v29zE) rfl (by kernel_rfl) (by kernel_rfl) (by kernel_rfl) (fun _ _ _ h => h) (Or.inl ⟨by rfl, ?hy29zE⟩) (by assumption) ?rest29zE
                case hy29zE => intro w hSw; (try dsimp only at hSw); first | (go_simp; done) | (go_simp; with_reducible rfl)
                try simp only [Act.put, List.getElem_toArray, List.getElem_cons_succ, List.getElem_cons_zero, List.setIfInBounds_toArray, List.set_cons_zero, List.set_cons_succ]
                refine wpAnyH_done (by kernel_rfl) ?_ _
                all_goals
                  have HS9 := Lib.hid hHeld.2.2.2.2
                  clear hHeld
                  go_wp2_with fail
                  go_ret
                  exact ⟨HQF.out, Below.down HB.out HS9.out.below (by omega)⟩
              | false =>
                go_wp2_with fail
                refine wp_region_held_drew (S := (fun w' => (w'.cell? ⟨w.heap.size, 0, none⟩ = some (.int .i64 c.fr) ∧ w'.cell? ⟨w.heap.size, 1, none⟩ = some (.slice A n cap) ∧ w'.cell? ⟨w.heap.size, 2, none⟩ = some vd ∧ w'.cell? ⟨w.heap.size, 3, none⟩ = some (.int .i64 c.mj) ∧ w'.cell? ⟨w.heap.size, 4, none⟩ = some vw ∧ w'.cell? ⟨w.heap.size, 5, none⟩ = some (.slice (some ⟨b, o, none⟩) m cap') ∧ w'.cell? ⟨w.heap.size, 6, none⟩ = some (.int .i64 c.se) ∧ w'.cell? ⟨w.heap.size, 7, none⟩ = some (.int .i64 c.qu) ∧ w'.cell? ⟨w.heap.size, 8, none⟩ = some (.int .i64 c.qt)) ∧ w'.cell? ⟨z, 0, none⟩ = some (.int .i64 (f : Int)) ∧ w'.cell? ⟨z, 1, none⟩ = some (.int .i64 (t : Int)) ∧ w'.cell? ⟨zg, f * 4 + t, none⟩ = some (.bool false) ∧ GmS w1 w4 c (.slice A n cap) vd vw (.slice (some ⟨b, o, none⟩) m cap') w.heap.size z g zg G f t xw w')) (by kernel_rfl) ?_ (fun hHeld => ?_)
                · try dsimp only
                  (go_split_ands; refine GmS.all2 hbl.out ?_; (first | assumption | (exact GmS.drew (by assumption)) | (exact GmS.next (by assumption) (by assumption))))
                refine wpAnyH_take (i := 0) (v := ?v0zF) rfl (by kernel_rfl) (by kernel_rfl) (by kernel_rfl) (fun _ _ _ h => h) (Or.inl ⟨by rfl, ?hy0zF⟩) (by assumption) ?rest0zF
                case hy0zF => intro w hSw; (try dsimp only at hSw); first | (go_simp; done) | (go_simp; with_reducible rfl)
                try simp only [Act.put, List.getElem_toArray, List.getElem_cons_succ, List.getElem_cons_zero, List.setIfInBounds_toArray, List.set_cons_zero, List.set_cons_succ]
                refine wpAnyH_take (i := 1) (v := ?v1zF) rfl (by kernel_rfl) (by kernel_rfl) (by kernel_rfl) (fun _ _ _ h => h) (Or.inl ⟨by rfl, ?hy1zF⟩) (by assumption) ?rest1zF
                case hy1zF => intro w hSw; (try dsimp only at hSw); first | (go_simp; done) | (go_simp; with_reducible rfl)
                try simp only [Act.put, List.getElem_toArray, List.getElem_cons_succ, List.getElem_cons_zero, List.setIfInBounds_toArray, List.set_cons_zero, List.set_cons_succ]
                refine wpAnyH_take (i := 2) (v := ?v2zF) rfl (by kernel_rfl) (by kernel_rfl) (by kernel_rfl) (fun _ _ _ h => h) (Or.inl ⟨by rfl, ?hy2zF⟩) (by assumption) ?rest2zF
                case hy2zF => intro w hSw; (try dsimp only at hSw); first | (go_simp; done) | (go_simp; with_reducible rfl)
                try simp only [Act.put, List.getElem_toArray, List.getElem_cons_succ, List.getElem_cons_zero, List.setIfInBounds_toArray, List.set_cons_zero, List.set_cons_succ]
                refine wpAnyH_take (i := 3) (v := ?v3zF) rfl (by kernel_rfl) (by kernel_rfl) (by kernel_rfl) (fun _ _ _ h => h) (Or.inl ⟨by rfl, ?hy3zF⟩) (by assumption) ?rest3zF
                case hy3zF => intro w hSw; (try dsimp only at hSw); first | (go_simp; done) | (go_simp; with_reducible rfl)
                try simp only [Act.put, List.getElem_toArray, List.getElem_cons_succ, List.getElem_cons_zero, List.setIfInBounds_toArray, List.set_cons_zero, List.set_cons_succ]
                refine wpAnyH_take (i := 4) (v := ?v4zF) rfl (by kernel_rfl) (by kernel_rfl) (by kernel_rfl) (fun _ _ _ h => h) (Or.inl ⟨by rfl, ?hy4zF⟩) (by assumption) ?rest4zF
                case hy4zF => intro w hSw; (try dsimp only at hSw); first | (go_simp; done) | (go_simp; with_reducible rfl)
                try simp only [Act.put, List.getElem_toArray, List.getElem_cons_succ, List.getElem_cons_zero, List.setIfInBounds_toArray, List.set_cons_zero, List.set_cons_succ]
                refine wpAnyH_ready (rs := [5]) (by kernel_rfl) (by simp) ?_
                refine AllReadyH.cons rfl (fun K hK => ?_) AllReadyH.nil
                go_simp
                refine (HPO.out _).mono ?_
                rintro e w5 ⟨rfl, hb5⟩
                go_wp2_with fail
                refine hK.out _ _ ?_ (fun hHeld2 => ?_)
                · try dsimp only
                  (go_split_ands; refine GmS.all2 hbl.out ?_; (first | assumption | (exact GmS.drew (by assumption)) | (exact GmS.next (by assumption) (by assumption))))
                clear hK K hHeld
                have hHeld := hHeld2; clear hHeld2
                try simp only [Act.put, List.getElem_toArray, List.getElem_cons_succ, List.getElem_cons_zero, List.setIfInBounds_toArray, List.set_cons_zero, List.set_cons_succ]
                refine wpAnyH_take (i := 6) (v := ?v6zF) rfl (by kernel_rfl) (by kernel_rfl) (by kernel_rfl) (fun _ _ _ h => h) (Or.inl ⟨by rfl, ?hy6zF⟩) (by assumption) ?rest6zF
                case hy6zF => intro w hSw; (try dsimp only at hSw); first | (go_simp; done) | (go_simp; with_reducible rfl)
                try simp only [Act.put, List.getElem_toArray, List.getElem_cons_succ, List.getElem_cons_zero, List.setIfInBounds_toArray, List.set_cons_zero, List.set_cons_succ]
                refine wpAnyH_take (i := 7) (v := ?v7zF) rfl (by kernel_rfl) (by kernel_rfl) (by kernel_rfl) (fun _ _ _ h => h) (Or.inl ⟨by rfl, ?hy7zF⟩) (by assumption) ?rest7zF
                case hy7zF => intro w hSw; (try dsimp only at hSw); first | (go_simp; done) | (go_simp; with_reducible rfl)
                try simp only [Act.put, List.getElem_toArray, List.getElem_cons_succ, List.getElem_cons_zero, List.setIfInBounds_toArray, List.set_cons_zero, List.set_cons_succ]
                refine wpAnyH_take (i := 8) (v := ?v8zF) rfl (by kernel_rfl) (by kernel_rfl) (by kernel_rfl) (fun _ _ _ h => h) (Or.inl ⟨by rfl, ?hy8zF⟩) (by assumption) ?rest8zF
                case hy8zF => intro w hSw; (try dsimp only at hSw); first | (go_simp; done) | (go_simp; with_reducible rfl)
                try simp only [Act.put, List.getElem_toArray, List.getElem_cons_succ, List.getElem_cons_zero, List.setIfInBounds_toArray, List.set_cons_zero, List.set_cons_succ]
                refine wpAnyH_take (i := 9) (v := ?v9zF) rfl (by kernel_rfl) (by kernel_rfl) (by kernel_rfl) (fun _ _ _ h => h) (Or.inl ⟨by rfl, ?hy9zF⟩) (by assumption) ?rest9zF
                case hy9zF => intro w hSw; (try dsimp only at hSw); first | (go_simp; done) | (go_simp; with_reducible rfl)
                try simp only [Act.put, List.getElem_toArray, List.getElem_cons_succ, List.getElem_cons_zero, List.setIfInBounds_toArray, List.set_cons_zero, List.set_cons_succ]
                refine wpAnyH_take (i := 10) (v := ?v10zF) rfl (by kernel_rfl) (by kernel_rfl) (by kernel_rfl) (fun _ _ _ h => h) (Or.inl ⟨by rfl, ?hy10zF⟩) (by assumption) ?rest10zF
                case hy10zF => intro w hSw; (try dsimp only at hSw); first | (go_simp; done) | (go_simp; with_reducible rfl)
                try simp only [Act.put, List.getElem_toArray, List.getElem_cons_succ, List.getElem_cons_zero, List.setIfInBounds_toArray, List.set_cons_zero, List.set_cons_succ]
                refine wpAnyH_take (i := 11) (v := ?v11zF) rfl (by kernel_rfl) (by kernel_rfl) (by kernel_rfl) (fun _ _ _ h => h) (Or.inl ⟨by rfl, ?hy11zF⟩) (by assumption) ?rest11zF
                case hy11zF => intro w hSw; (try dsimp only at hSw); first | (go_simp; done) | (go_simp; with_reducible rfl)
                try simp only [Act.put, List.getElem_toArray, List.getElem_cons_succ, List.getElem_cons_zero, List.setIfInBounds_toArray, List.set_cons_zero, List.set_cons_succ]
                refine wpAnyH_ready (rs := [12]) (by kernel_rfl) (by simp) ?_
                refine AllReadyH.cons rfl (fun K hK => ?_) AllReadyH.nil
                go_simp
                refine (HPT.out _).mono ?_
                rintro e w6 ⟨rfl, hb6⟩
                go_wp2_with fail
                refine hK.out _ _ ?_ (fun hHeld2 => ?_)
                · try dsimp only
                  (go_split_ands; refine GmS.all2 hbl.out ?_; (first | assumption | (exact GmS.drew (by assumption)) | (exact GmS.next (by assumption) (by assumption))))
                clear hK K hHeld
                have hHeld := hHeld2; clear hHeld2
                try simp only [Act.put, List.getElem_toArray, List.getElem_cons_succ, List.getElem_cons_zero, List.setIfInBounds_toArray, List.set_cons_zero, List.set_cons_succ]
                refine wpAnyH_take (i := 13) (v := ?v13zF) rfl (by kernel_rfl) (by kernel_rfl) (by kernel_rfl) (fun _ _ _ h => h) (Or.inl ⟨by rfl, ?hy13zF⟩) (by assumption) ?rest13zF
                case hy13zF => intro w hSw; (try dsimp only at hSw); first | (go_simp; done) | (go_simp; with_reducible rfl)
                try simp only [Act.put, List.getElem_toArray, List.getElem_cons_succ, List.getElem_cons_zero, List.setIfInBounds_toArray, List.set_cons_zero, List.set_cons_succ]
                refine wpAnyH_take (i := 14) (v := ?v14zF) rfl (by kernel_rfl) (by kernel_rfl) (by kernel_rfl) (fun _ _ _ h => h) (Or.inl ⟨by rfl, ?hy14zF⟩) (by assumption) ?rest14zF
                case hy14zF => intro w hSw; (try dsimp only at hSw); first | (go_simp; done) | (go_simp; with_reducible rfl)
                try simp only [Act.put, List.getElem_toArray, List.getElem_cons_succ, List.getElem_cons_zero, List.setIfInBounds_toArray, List.set_cons_zero, List.set_cons_succ]
                refine wpAnyH_take (i := 15) (v := ?v15zF) rfl (by kernel_rfl) (by kernel_rfl) (by kernel_rfl) (fun _ _ _ h => h) (Or.inl ⟨by rfl, ?hy15zF⟩) (by assumption) ?rest15zF
                case hy15zF => intro w hSw; (try dsimp only at hSw); first | (go_simp; done) | (go_simp; with_reducible rfl)
                try simp only [Act.put, List.getElem_toArray, List.getElem_cons_succ, List.getElem_cons_zero, List.setIfInBounds_toArray, List.set_cons_zero, List.set_cons_succ]
                refine wpAnyH_take (i := 16) (v := ?v16zF) rfl (by kernel_rfl) (by kernel_rfl) (by kernel_rfl) (fun _ _ _ h => h) (Or.inl ⟨by rfl, ?hy16zF⟩) (by assumption) ?rest16zF
                case hy16zF => intro w hSw; (try dsimp only at hSw); first | (go_simp; done) | (go_simp; with_reducible rfl)
                try simp only [Act.put, List.getElem_toArray, List.getElem_cons_succ, List.getElem_cons_zero, List.setIfInBounds_toArray, List.set_cons_zero, List.set_cons_succ]
                refine wpAnyH_take (i := 17) (v := ?v17zF) rfl (by kernel_rfl) (by kernel_rfl) (by kernel_rfl) (fun _ _ _ h => h) (Or.inl ⟨by rfl, ?hy17zF⟩) (by assumption) ?rest17zF
                case hy17zF => intro w hSw; (try dsimp only at hSw); first | (go_simp; done) | (go_simp; with_reducible rfl)
                try simp only [Act.put, List.getElem_toArray, List.getElem_cons_succ, List.getElem_cons_zero, List.setIfInBounds_toArray, List.set_cons_zero, List.set_cons_succ]
                refine wpAnyH_take (i := 18) (v := ?v18zF) rfl (by kernel_rfl) (by kernel_rfl) (by kernel_rfl) (fun _ _ _ h => h) (Or.inl ⟨by rfl, ?hy18zF⟩) (by assumption) ?rest18zF
                case hy18zF => intro w hSw; (try dsimp only at hSw); first | (go_simp; done) | (go_simp; with_reducible rfl)
                try simp only [Act.put, List.getElem_toArray, List.getElem_cons_succ, List.getElem_cons_zero, List.setIfInBounds_toArray, List.set_cons_zero, List.set_cons_succ]
                refine wpAnyH_take (i := 19) (v := ?v19zF) rfl (by kernel_rfl) (by kernel_rfl) (by kernel_rfl) (fun _ _ _ h => h) (Or.inl ⟨by rfl, ?hy19zF⟩) (by assumption) ?rest19zF
                case hy19zF => intro w hSw; (try dsimp only at hSw); first | (go_simp; done) | (go_simp; with_reducible rfl)
                try simp only [Act.put, List.getElem_toArray, List.getElem_cons_succ, List.getElem_cons_zero, List.setIfInBounds_toArray, List.set_cons_zero, List.set_cons_succ]
                refine wpAnyH_take (i := 20) (v := ?v20zF) rfl (by kernel_rfl) (by kernel_rfl) (by kernel_rfl) (fun _ _ _ h => h) (Or.inl ⟨by rfl, ?hy20zF⟩) (by assumption) ?rest20zF
                case hy20zF => intro w hSw; (try dsimp only at hSw); first | (go_simp; done) | (go_simp; with_reducible rfl)
                try simp only [Act.put, List.getElem_toArray, List.getElem_cons_succ, List.getElem_cons_zero, List.setIfInBounds_toArray, List.set_cons_zero, List.set_cons_succ]
                refine wpAnyH_take (i := 21) (v := ?v21zF) rfl (by kernel_rfl) (by kernel_rfl) (by kernel_rfl) (fun _ _ _ h => h) (Or.inl ⟨by rfl, ?hy21zF⟩) (by assumption) ?rest21zF
                case hy21zF => intro w hSw; (try dsimp only at hSw); first | (go_simp; done) | (go_simp; with_reducible rfl)
                try simp only [Act.put, List.getElem_toArray, List.getElem_cons_succ, List.getElem_cons_zero, List.setIfInBounds_toArray, List.set_cons_zero, List.set_cons_succ]
                refine wpAnyH_take (i := 22) (v := ?v22zF) rfl (by kernel_rfl) (by kernel_rfl) (by kernel_rfl) (fun _ _ _ h => h) (Or.inl ⟨by rfl, ?hy22zF⟩) (by assumption) ?rest22zF
                case hy22zF => intro w hSw; (try dsimp only at hSw); first | (go_simp; done) | (go_simp; with_reducible rfl)
                try simp only [Act.put, List.getElem_toArray, List.getElem_cons_succ, List.getElem_cons_zero, List.setIfInBounds_toArray, List.set_cons_zero, List.set_cons_succ]
                refine wpAnyH_take (i := 23) (v := ?v23zF) rfl (by kernel_rfl) (by kernel_rfl) (by kernel_rfl) (fun _ _ _ h => h) (Or.inl ⟨by rfl, ?hy23zF⟩) (by assumption) ?rest23zF
                case hy23zF => intro w hSw; (try dsimp only at hSw); first | (go_simp; done) | (go_simp; with_reducible rfl)
                try simp only [Act.put, List.getElem_toArray, List.getElem_cons_succ, List.getElem_cons_zero, List.setIfInBounds_toArray, List.set_cons_zero, List.set_cons_succ]
                refine wpAnyH_take (i := 24) (v := ?v24zF) rfl (by kernel_rfl) (by kernel_rfl) (by kernel_rfl) (fun _ _ _ h => h) (Or.inl ⟨by rfl, ?hy24zF⟩) (by assumption) ?rest24zF
                case hy24zF => intro w hSw; (try dsimp only at hSw); first | (go_simp; done) | (go_simp; with_reducible rfl)
                try simp only [Act.put, List.getElem_toArray, List.getElem_cons_succ, List.getElem_cons_zero, List.setIfInBounds_toArray, List.set_cons_zero, List.set_cons_succ]
                refine wpAnyH_take (i := 25) (v := ?v25zF) rfl (by kernel_rfl) (by kernel_rfl) (by kernel_rfl) (fun _ _ _ h => h) (Or.inl ⟨by rfl, ?hy25zF⟩) (by assumption) ?rest25zF
                case hy25zF => intro w hSw; (try dsimp only at hSw); first | (go_simp; done) | (go_simp; with_reducible rfl)
                try simp only [Act.put, List.getElem_toArray, List.getElem_cons_succ, List.getElem_cons_zero, List.setIfInBounds_toArray, List.set_cons_zero, List.set_cons_succ]
                refine wpAnyH_take (i := 26) (v := ?v26zF) rfl (by kernel_rfl) (by kernel_rfl) (by kernel_rfl) (fun _ _ _ h => h) (Or.inl ⟨by rfl, ?hy26zF⟩) (by assumption) ?rest26zF
                case hy26zF => intro w hSw; (try dsimp only at hSw); first | (go_simp; done) | (go_simp; with_reducible rfl)
                try simp only [Act.put, List.getElem_toArray, List.getElem_cons_succ, List.getElem_cons_zero, List.setIfInBounds_toArray, List.set_cons_zero, List.set_cons_succ]
                refine wpAnyH_take (i := 27) (v := ?v27zF) rfl (by kernel_rfl) (by kernel_rfl) (by kernel_rfl) (fun _ _ _ h => h) (Or.inl ⟨by rfl, ?hy27zF⟩) (by assumption) ?rest27zF
                case hy27zF => intro w hSw; (try dsimp only at hSw); first | (go_simp; done) | (go_simp; with_reducible rfl)
                try simp only [Act.put, List.getElem_toArray, List.getElem_cons_succ, List.getElem_cons_zero, List.setIfInBounds_toArray, List.set_cons_zero, List.set_cons_succ]
                refine wpAnyH_take (i := 28) (v := ?v28zF) rfl (by kernel_rfl) (by kernel_rfl) (by kernel_rfl) (fun _ _ _ h => h) (Or.inl ⟨by rfl, ?hy28zF⟩) (by assumption) ?rest28zF
                case hy28zF => intro w hSw; (try dsimp only at hSw); first | (go_simp; done) | (go_simp; with_reducible rfl)
                try simp only [Act.put, List.getElem_toArray, List.getElem_cons_succ, List.getElem_cons_zero, List.setIfInBounds_toArray, List.set_cons_zero, List.set_cons_succ]
                refine wpAnyH_take (i := 29) (v := ?v29zF) rfl (by kernel_rfl) (by kernel_rfl) (by kernel_rfl) (fun _ _ _ h => h) (Or.inl ⟨by rfl, ?hy29zF⟩) (by assumption) ?rest29zF
                case hy29zF => intro w hSw; (try dsimp only at hSw); first | (go_simp; done) | (go_simp; with_reducible rfl)
                try simp only [Act.put, List.getElem_toArray, List.getElem_cons_succ, List.getElem_cons_zero, List.setIfInBounds_toArray, List.set_cons_zero, List.set_cons_succ]
                refine wpAnyH_done (by kernel_rfl) ?_ _
                all_goals
                  have HS9 := Lib.hid hHeld.2.2.2.2
                  clear hHeld k0 k1 k2 k3 k4 k5 k6 k7 k8 c0 c1 c9 hGM
                  go_wp2_with fail
                  have c0 := HS9.out.gb.cell 0
                  have c1 := HS9.out.gb.cell 1
                  have hcz := (HS9.out.bits.cell (f * 4 + t)).trans hbl.out
                  have hfz := HS9.out.bits.frozen (f * 4 + t)
                  simp only [List.getElem?_cons_zero, List.getElem?_cons_succ] at c0 c1
                  go_still_tail 6, (by kernel_rfl)
                  change wpList _ _ _ _ _ w6.drew
                  have d0 : w6.drew.cell? ⟨z, 0, none⟩ = some (.int .i64 (f : Int)) := c0
                  have d1 : w6.drew.cell? ⟨z, 1, none⟩ = some (.int .i64 (t : Int)) := c1
                  have dz : w6.drew.cell? ⟨zg, f * 4 + t, none⟩ = some (.bool false) := hcz
                  have df : w6.drew.frozen? ⟨zg, f * 4 + t, none⟩ = false := hfz
                  have ts : Tab w6.drew g (tabL c.fr.toNat (ownM c)) := HS9.out.tb
                  have bs : Blk w6.drew zg 92 (bitc G 256) := HS9.out.bits
                  have bl : Below w1.heap.size w1 w6.drew := bdrewN HS9.out.below 1
                  generalize w6.drew = wd at *
                  have hbs := bs.set (f * 4 + t) (.bool true)
                  rw [bitc_set] at hbs
                  have HN9 : Hid (Q = grB c (c.gs.take (k + 1)) (c.gs.drop (k + 1)) ∧ Below w1.heap.size w1 (wd.setCell ⟨zg, f * 4 + t, none⟩ (.bool true)) ∧ Tab (wd.setCell ⟨zg, f * 4 + t, none⟩ (.bool true)) g (tabL c.fr.toNat (ownM c)) ∧ ∃ G, GBits (c.gs.take (k + 1)) G ∧ Blk (wd.setCell ⟨zg, f * 4 + t, none⟩ (.bool true)) zg 92 (bitc G 256)) :=
                    Lib.hid ⟨by rw [HST9.out]; rfl, bl.setCell (p := ⟨zg, f * 4 + t, none⟩) hs2 _, by obtain ⟨hl, r, hr, hh⟩ := ts; exact ⟨hl, r, hr, hh.far (show g ≠ zg by omega) _⟩, _, by rw [HTK.out]; exact HGB.out.snoc f t hf64 ht4 xw, hbs⟩
                  clear ts bs bl hbs c0 c1 hcz hfz
                  go_wp2_with fail
                  go_roundw
                  case rel => exact ⟨k + 1, by omega, by go_num, HN9⟩
                  case measure => simp [intOf]; omega
    · obtain rfl : k = m := by omega
      have HQ9 : Hid (Q = true) := Lib.hid (by rw [H.out.1, List.drop_eq_nil_of_le (by rw [HGN.out]; exact Nat.le_refl _)]; rfl)
      have HB9 := Lib.hid H.out.2.1
      clear H
      have e := HQ9.out
      subst e
      go_wp2_with fail
      go_ret
      exact ⟨rfl, Below.down HB.out HB9.out (by omega)⟩
end

end Go.Proofs.Ytamhnnkmjhapmaa

namespace Go.Proofs.Ytamhnnkmjhapmaa
open Go.RowKit
set_option linter.unusedVariables false
set_option linter.unusedSimpArgs false
set_option maxRecDepth 100000

/-- The rules, as values; what each answers. -/
def ruleV : Nat → Value
  | 0 => .func (.func 37) #[] #[]
  | 1 => .func (.func 38) #[] #[]
  | 2 => .func (.func 39) #[] #[]
  | 3 => .func (.func 40) #[] #[]
  | 4 => .func (.func 41) #[] #[]
  | 5 => .func (.func 42) #[] #[]
  | 6 => .func (.func 43) #[] #[]
  | 7 => .func (.func 44) #[] #[]
  | _ => .func (.func 45) #[] #[]
def ruleB (c : Cf) : Nat → Bool
  | 0 => frB c
  | 1 => psB c
  | 2 => dsB c
  | 3 => unB c
  | 4 => wsB c
  | 5 => gsB c
  | 6 => shB c
  | 7 => quB c
  | _ => qtB c
theorem rule_all (c : Cf) : (List.range 9).all (ruleB c) = cfMay c := by
  unfold cfMay
  simp [List.range_succ, ruleB, Bool.and_assoc]

theorem rules_any (w : World) : Calls Try.prog 21 #[] w fun e w' => e = .returned (.slice (some ⟨w.heap.size, 0, none⟩) 9 9) ∧ Blk w' w.heap.size 51 [.func (.func 37) #[] #[], .func (.func 38) #[] #[], .func (.func 39) #[] #[], .func (.func 40) #[] #[], .func (.func 41) #[] #[], .func (.func 42) #[] #[], .func (.func 43) #[] #[], .func (.func 44) #[] #[], .func (.func 45) #[] #[]] ∧ Below w.heap.size w w' := by
  go_enter Try.func21, Try.ntmps21
  go_wp2_with fail
  go_ret
  exact ⟨rfl, Blk.new w _ [.func (.func 37) #[] #[], .func (.func 38) #[] #[], .func (.func 39) #[] #[], .func (.func 40) #[] #[], .func (.func 41) #[] #[], .func (.func 42) #[] #[], .func (.func 43) #[] #[], .func (.func 44) #[] #[], .func (.func 45) #[] #[]], (Below.refl _ _).alloc (Nat.le_refl _) _⟩

section
variable {w : World} {c : Cf} {vp vd vw vg : Value}

theorem m1_0 (g : Nat) (hg : Blk w g 27 (cfc c vp vd vw vg)) (h : CfAt w vp vd vw vg c) :
    Calls Try.prog 22 #[.func (.func 37) #[] #[], .pointer (some ⟨g, 0, none⟩)] w fun e w' => e = .returned (.bool (frB c)) ∧ Below w.heap.size w w' := by
  obtain ⟨k0, k1, k2, k3, k4, k5, k6, k7, k8⟩ := cf_at hg
  have HC : Hid (Calls Try.prog 37 #[.agg #[.int .i64 c.fr, vp, vd, .int .i64 c.mj, vw, vg, .int .i64 c.se, .int .i64 c.qu, .int .i64 c.qt]] w _) := Lib.hid (framesmay_any)
  clear hg h
  go_enter Try.func22, Try.ntmps22
  go_wp2_with fail
  refine HC.out.mono ?_
  rintro e w1 ⟨rfl, b1⟩
  go_wp2_with fail
  go_ret
  exact ⟨rfl, b1⟩

theorem m1_1 (g : Nat) (hg : Blk w g 27 (cfc c vp vd vw vg)) (h : CfAt w vp vd vw vg c) :
    Calls Try.prog 22 #[.func (.func 38) #[] #[], .pointer (some ⟨g, 0, none⟩)] w fun e w' => e = .returned (.bool (psB c)) ∧ Below w.heap.size w w' := by
  obtain ⟨k0, k1, k2, k3, k4, k5, k6, k7, k8⟩ := cf_at hg
  have HC : Hid (Calls Try.prog 38 #[.agg #[.int .i64 c.fr, vp, vd, .int .i64 c.mj, vw, vg, .int .i64 c.se, .int .i64 c.qu, .int .i64 c.qt]] w _) := Lib.hid (partsmay_any h)
  clear hg h
  go_enter Try.func22, Try.ntmps22
  go_wp2_with fail
  refine HC.out.mono ?_
  rintro e w1 ⟨rfl, b1⟩
  go_wp2_with fail
  go_ret
  exact ⟨rfl, b1⟩

theorem m1_2 (g : Nat) (hg : Blk w g 27 (cfc c vp vd vw vg)) (h : CfAt w vp vd vw vg c) :
    Calls Try.prog 22 #[.func (.func 39) #[] #[], .pointer (some ⟨g, 0, none⟩)] w fun e w' => e = .returned (.bool (dsB c)) ∧ Below w.heap.size w w' := by
  obtain ⟨k0, k1, k2, k3, k4, k5, k6, k7, k8⟩ := cf_at hg
  have HC : Hid (Calls Try.prog 39 #[.agg #[.int .i64 c.fr, vp, vd, .int .i64 c.mj, vw, vg, .int .i64 c.se, .int .i64 c.qu, .int .i64 c.qt]] w _) := Lib.hid (devicesmay_any h)
  clear hg h
  go_enter Try.func22, Try.ntmps22
  go_wp2_with fail
  refine HC.out.mono ?_
  rintro e w1 ⟨rfl, b1⟩
  go_wp2_with fail
  go_ret
  exact ⟨rfl, b1⟩

theorem m1_3 (g : Nat) (hg : Blk w g 27 (cfc c vp vd vw vg)) (h : CfAt w vp vd vw vg c) (hF : 1 ≤ c.fr ∧ c.fr ≤ 64) (hp : c.ps.length ≤ 4) :
    Calls Try.prog 22 #[.func (.func 40) #[] #[], .pointer (some ⟨g, 0, none⟩)] w fun e w' => e = .returned (.bool (unB c)) ∧ Below w.heap.size w w' := by
  obtain ⟨k0, k1, k2, k3, k4, k5, k6, k7, k8⟩ := cf_at hg
  have HC : Hid (Calls Try.prog 40 #[.agg #[.int .i64 c.fr, vp, vd, .int .i64 c.mj, vw, vg, .int .i64 c.se, .int .i64 c.qu, .int .i64 c.qt]] w _) := Lib.hid (unlike_any h hF hp)
  clear hg h hF hp
  go_enter Try.func22, Try.ntmps22
  go_wp2_with fail
  refine HC.out.mono ?_
  rintro e w1 ⟨rfl, b1⟩
  go_wp2_with fail
  go_ret
  exact ⟨rfl, b1⟩

theorem m1_4 (g : Nat) (hg : Blk w g 27 (cfc c vp vd vw vg)) (h : CfAt w vp vd vw vg c) :
    Calls Try.prog 22 #[.func (.func 41) #[] #[], .pointer (some ⟨g, 0, none⟩)] w fun e w' => e = .returned (.bool (wsB c)) ∧ Below w.heap.size w w' := by
  obtain ⟨k0, k1, k2, k3, k4, k5, k6, k7, k8⟩ := cf_at hg
  have HC : Hid (Calls Try.prog 41 #[.agg #[.int .i64 c.fr, vp, vd, .int .i64 c.mj, vw, vg, .int .i64 c.se, .int .i64 c.qu, .int .i64 c.qt]] w _) := Lib.hid (windowsmay_any h)
  clear hg h
  go_enter Try.func22, Try.ntmps22
  go_wp2_with fail
  refine HC.out.mono ?_
  rintro e w1 ⟨rfl, b1⟩
  go_wp2_with fail
  go_ret
  exact ⟨rfl, b1⟩

theorem m1_5 (g : Nat) (hg : Blk w g 27 (cfc c vp vd vw vg)) (h : CfAt w vp vd vw vg c) (hF : 1 ≤ c.fr ∧ c.fr ≤ 64) (hp : c.ps.length ≤ 4) (hu : unB c = true) :
    Calls Try.prog 22 #[.func (.func 42) #[] #[], .pointer (some ⟨g, 0, none⟩)] w fun e w' => e = .returned (.bool (gsB c)) ∧ Below w.heap.size w w' := by
  obtain ⟨k0, k1, k2, k3, k4, k5, k6, k7, k8⟩ := cf_at hg
  have HC : Hid (Calls Try.prog 42 #[.agg #[.int .i64 c.fr, vp, vd, .int .i64 c.mj, vw, vg, .int .i64 c.se, .int .i64 c.qu, .int .i64 c.qt]] w _) := Lib.hid (grantsmay_any h hF hp hu)
  clear hg h hF hp hu
  go_enter Try.func22, Try.ntmps22
  go_wp2_with fail
  refine HC.out.mono ?_
  rintro e w1 ⟨rfl, b1⟩
  go_wp2_with fail
  go_ret
  exact ⟨rfl, b1⟩

theorem m1_6 (g : Nat) (hg : Blk w g 27 (cfc c vp vd vw vg)) (h : CfAt w vp vd vw vg c) :
    Calls Try.prog 22 #[.func (.func 43) #[] #[], .pointer (some ⟨g, 0, none⟩)] w fun e w' => e = .returned (.bool (shB c)) ∧ Below w.heap.size w w' := by
  obtain ⟨k0, k1, k2, k3, k4, k5, k6, k7, k8⟩ := cf_at hg
  have HC : Hid (Calls Try.prog 43 #[.agg #[.int .i64 c.fr, vp, vd, .int .i64 c.mj, vw, vg, .int .i64 c.se, .int .i64 c.qu, .int .i64 c.qt]] w _) := Lib.hid (sharesmay_any h)
  clear hg h
  go_enter Try.func22, Try.ntmps22
  go_wp2_with fail
  refine HC.out.mono ?_
  rintro e w1 ⟨rfl, b1⟩
  go_wp2_with fail
  go_ret
  exact ⟨rfl, b1⟩

theorem m1_7 (g : Nat) (hg : Blk w g 27 (cfc c vp vd vw vg)) (h : CfAt w vp vd vw vg c) :
    Calls Try.prog 22 #[.func (.func 44) #[] #[], .pointer (some ⟨g, 0, none⟩)] w fun e w' => e = .returned (.bool (quB c)) ∧ Below w.heap.size w w' := by
  obtain ⟨k0, k1, k2, k3, k4, k5, k6, k7, k8⟩ := cf_at hg
  have HC : Hid (Calls Try.prog 44 #[.agg #[.int .i64 c.fr, vp, vd, .int .i64 c.mj, vw, vg, .int .i64 c.se, .int .i64 c.qu, .int .i64 c.qt]] w _) := Lib.hid (quotamay_any)
  clear hg h
  go_enter Try.func22, Try.ntmps22
  go_wp2_with fail
  refine HC.out.mono ?_
  rintro e w1 ⟨rfl, b1⟩
  go_wp2_with fail
  go_ret
  exact ⟨rfl, b1⟩

theorem m1_8 (g : Nat) (hg : Blk w g 27 (cfc c vp vd vw vg)) (h : CfAt w vp vd vw vg c) :
    Calls Try.prog 22 #[.func (.func 45) #[] #[], .pointer (some ⟨g, 0, none⟩)] w fun e w' => e = .returned (.bool (qtB c)) ∧ Below w.heap.size w w' := by
  obtain ⟨k0, k1, k2, k3, k4, k5, k6, k7, k8⟩ := cf_at hg
  have HC : Hid (Calls Try.prog 45 #[.agg #[.int .i64 c.fr, vp, vd, .int .i64 c.mj, vw, vg, .int .i64 c.se, .int .i64 c.qu, .int .i64 c.qt]] w _) := Lib.hid (quietmay_any)
  clear hg h
  go_enter Try.func22, Try.ntmps22
  go_wp2_with fail
  refine HC.out.mono ?_
  rintro e w1 ⟨rfl, b1⟩
  go_wp2_with fail
  go_ret
  exact ⟨rfl, b1⟩

theorem m1_any (g i : Nat) (hi : i < 9) (hg : Blk w g 27 (cfc c vp vd vw vg)) (h : CfAt w vp vd vw vg c) (hall : ∀ j, j < i → ruleB c j = true) :
    Calls Try.prog 22 #[ruleV i, .pointer (some ⟨g, 0, none⟩)] w fun e w' => e = .returned (.bool (ruleB c i)) ∧ Below w.heap.size w w' := by
  have hF : 1 ≤ i → 1 ≤ c.fr ∧ c.fr ≤ 64 := fun h1 => btw_iff.1 (hall 0 (by omega))
  have hp : 2 ≤ i → c.ps.length ≤ 4 := fun h1 => by
    have h2 : psB c = true := hall 1 (by omega)
    unfold psB at h2
    rw [Bool.and_eq_true] at h2
    have := (btw_iff.1 h2.1).2
    omega
  have hu : 4 ≤ i → unB c = true := fun h1 => hall 3 (by omega)
  match i, hi with
  | 0, _ => exact m1_0 g hg h
  | 1, _ => exact m1_1 g hg h
  | 2, _ => exact m1_2 g hg h
  | 3, _ => exact m1_3 g hg h (hF (by omega)) (hp (by omega))
  | 4, _ => exact m1_4 g hg h
  | 5, _ => exact m1_5 g hg h (hF (by omega)) (hp (by omega)) (hu (by omega))
  | 6, _ => exact m1_6 g hg h
  | 7, _ => exact m1_7 g hg h
  | 8, _ => exact m1_8 g hg h
  | i + 9, hi => omega

theorem cmay_any (h : CfAt w vp vd vw vg c) : Calls Try.prog 9 #[.agg #[.int .i64 c.fr, vp, vd, .int .i64 c.mj, vw, vg, .int .i64 c.se, .int .i64 c.qu, .int .i64 c.qt]] w fun e w' => e = .returned (.bool (cfMay c)) ∧ Below w.heap.size w w' := by
  obtain ⟨hb, hB⟩ := cf_box w c vp vd vw vg
  have HB := Lib.hid hB; have HCB := Lib.hid hb; have H1 := Lib.hid (h.below hB)
  have HR := Lib.hid (rules_any (w.alloc (.cells #[.int .i64 c.fr, vp, vd, .int .i64 c.mj, vw, vg, .int .i64 c.se, .int .i64 c.qu, .int .i64 c.qt] 27)))
  clear hb hB h
  go_enter Try.func9, Try.ntmps9
  go_wp2_with fail
  generalize w.alloc (.cells #[.int .i64 c.fr, vp, vd, .int .i64 c.mj, vw, vg, .int .i64 c.se, .int .i64 c.qu, .int .i64 c.qt] 27) = w1 at *
  refine HR.out.mono ?_
  rintro e w2 ⟨rfl, hrb, b2⟩
  have hE := each_Rule (some ⟨w1.heap.size, 0, none⟩) w1.heap.size 0 9 9 w.heap.size ruleV (ruleB c) nos (fun _ W => Below w2.heap.size w2 W) w2 (by unfold maxLen; omega) (fun _ => rfl) nos_lt
    (fun i W W' hI hW => Below.down hI hW hI.size)
    (fun i W hi hI => by
      refine (hI.cell (p := ⟨w1.heap.size, 0 + i, none⟩) hrb.lt).trans ((hrb.cell (0 + i)).trans ?_)
      rw [Nat.zero_add]
      match i, hi with
      | 0, _ => rfl
      | 1, _ => rfl
      | 2, _ => rfl
      | 3, _ => rfl
      | 4, _ => rfl
      | 5, _ => rfl
      | 6, _ => rfl
      | 7, _ => rfl
      | 8, _ => rfl
      | i + 9, hi => omega)
    (fun i W hi hall hI => by
      have hs2 := b2.size
      refine (m1_any w.heap.size i hi ((HCB.out.below b2 HCB.out.lt).below hI (by have := HCB.out.lt; omega)) ((H1.out.below b2).below hI) hall).mono ?_
      rintro e w' ⟨rfl, hb⟩
      exact ⟨rfl, Below.down hI hb hI.size, Fo.of hb _⟩)
    (Below.refl _ _)
  rw [rule_all] at hE
  have HE := Lib.hid hE
  have hw2 := b2.size
  have HB2 := Lib.hid (Below.down HB.out b2 HB.out.size)
  clear hE hrb b2 HR
  go_wp2_with fail
  refine HE.out.mono ?_
  rintro e w3 ⟨rfl, -, hf⟩
  have HB3 := Lib.hid (Below.down HB2.out hf.nos HB2.out.size)
  clear hf
  go_wp2_with fail
  go_ret
  exact ⟨rfl, HB3.out⟩
end

end Go.Proofs.Ytamhnnkmjhapmaa

namespace Go.Proofs.Ytamhnnkmjhapmaa
open Go.RowKit
set_option linter.unusedVariables false
set_option linter.unusedSimpArgs false
set_option maxRecDepth 100000

/-- Is a number one of a row? -/
def memI (l : List Int) (x : Int) : Bool := decide (x ∈ l)
theorem mem_take_no {l : List Int} {x : Int} (h : ∀ j, j < l.length → l.getD j 0 ≠ x) : memI l x = false := by
  refine decide_eq_false (fun hm => ?_)
  obtain ⟨j, hj, e⟩ := List.getElem_of_mem hm
  exact h j hj (by simp [List.getD, List.getElem?_eq_getElem hj, e])
theorem mem_at {l : List Int} {x : Int} {j : Nat} (hj : j < l.length) (h : l.getD j 0 = x) : memI l x = true := by
  refine decide_eq_true ?_
  rw [← h]
  simp only [List.getD, List.getElem?_eq_getElem hj, Option.getD_some]
  exact List.getElem_mem hj
theorem index_any (v : Value) (l : List Int) (x : Int) (w : World) (h : Sl w v l.length 1 (ints l)) (hn : l.length ≤ maxLen) :
    Calls Try.prog 73 #[v, .int .i64 x] w fun e w' => (∃ r : Int, e = .returned (.int .i64 r) ∧ decide (r ≥ 0) = memI l x) ∧ w = w' := by
  obtain ⟨A, cap, rfl, _, _, hA⟩ := h
  have HA := Lib.hid hA
  clear hA
  generalize hl : l.length = n at *
  have HL := Lib.hid hl
  unfold maxLen at hn
  clear hl
  go_enter Try.func73, Try.ntmps73
  go_wp2_with fail
  go_loop [8] (fun i => ∃ k : Nat, k ≤ n ∧ i = .int .i64 k ∧ Hid (∀ j, j < k → l.getD j 0 ≠ x)) (fun i => n - (intOf i).toNat)
  case atStart => exact ⟨0, by omega, rfl, Lib.hid fun j hj => by omega⟩
  case round =>
    obtain ⟨k, hk, rfl, H⟩ := hrel
    by_cases hlt : k < n
    · obtain ⟨b, o, rfl, hb, hcell⟩ := HA.out (by omega)
      have c0 := hcell k _ (ints_get l k (by rw [HL.out]; exact hlt))
      clear hcell
      by_cases he : l.getD k 0 = x
      · have HE := Lib.hid he
        rw [he] at c0
        clear he
        go_wp2
        go_ret
        exact ⟨⟨_, rfl, by rw [mem_at (by rw [HL.out]; exact hlt) HE.out]; exact decide_eq_true (by omega)⟩, rfl⟩
      · have HE := Lib.hid he
        have he2 : (x == l.getD k 0) = false := by simpa using fun e => he e.symm
        generalize l.getD k 0 = y at c0 he2
        clear he
        go_wp2
        go_round
        case rel => exact ⟨k + 1, by omega, by go_num, Lib.hid fun j hj => by
          by_cases e : j = k
          · rw [e]; exact HE.out
          · exact H.out j (by omega)⟩
        case measure => simp [intOf]; omega
    · obtain rfl : k = n := by omega
      go_wp2
      go_ret
      exact ⟨⟨_, rfl, by rw [mem_take_no (fun j hj => H.out j (by rw [← HL.out]; exact hj))]; rfl⟩, rfl⟩
theorem contains_any (v : Value) (l : List Int) (x : Int) (w : World) (h : Sl w v l.length 1 (ints l)) (hn : l.length ≤ maxLen) :
    Calls Try.prog 53 #[v, .int .i64 x] w fun e w' => e = .returned (.bool (memI l x)) ∧ w = w' := by
  have HI := Lib.hid (index_any v l x w h hn)
  obtain ⟨A, cap, rfl, _⟩ := h
  generalize memI l x = R at *
  go_enter Try.func53, Try.ntmps53
  go_wp2_with fail
  refine HI.out.mono ?_
  rintro e w' ⟨⟨r, rfl, hr⟩, rfl⟩
  cases R
  all_goals
    go_wp2_with fail
    go_ret
    exact ⟨rfl, rfl⟩

/-- Which grants count. -/
def cgB (f p : Int) (wr : Bool) (g : Gr) : Bool := decide (g.f = f ∧ g.t = p) && (g.wr || !wr)

/-- What a partition's question of one frame needs of the world. -/
structure RcS (w1 : World) (c : Cf) (vp vd vw vg : Value) (y y1 y2 z : Nat) (p : Int) (fv : Value) (xf xo xl : Int) (w' : World) : Prop where
  cb : Blk w' y 27 (cfc c vp vd vw vg)
  pb : Blk w' y1 3 [.int .i64 p]
  fb : Blk w' y2 61 [fv]
  xb : Blk w' z 75 [.int .i64 xf, .int .i64 xo, .int .i64 xl]
  below : Below w1.heap.size w1 w'
section
variable {w1 w' w2 : World} {c : Cf} {vp vd vw vg fv : Value} {y y1 y2 z : Nat} {p xf xo xl : Int}
theorem RcS.next (h : RcS w1 c vp vd vw vg y y1 y2 z p fv xf xo xl w') (hb : Below w'.heap.size w' w2) : RcS w1 c vp vd vw vg y y1 y2 z p fv xf xo xl w2 :=
  ⟨h.cb.below hb h.cb.lt, h.pb.below hb h.pb.lt, h.fb.below hb h.fb.lt, h.xb.below hb h.xb.lt, Below.down h.below hb h.below.size⟩
theorem RcS.drew (h : RcS w1 c vp vd vw vg y y1 y2 z p fv xf xo xl w') : RcS w1 c vp vd vw vg y y1 y2 z p fv xf xo xl w'.drew := h.next (bdrewN (Below.refl _ _) 1)
end


theorem cnt_r (g : Gr) (w : World) : Calls Try.prog 29 #[.agg #[.int .i64 g.f, .int .i64 g.t, .bool g.wr]] w fun e w' => e = .returned (.bool (g.wr || !false)) ∧ Below w.heap.size w w' := by
  have hb : Blk (w.alloc (.cells #[.int .i64 g.f, .int .i64 g.t, .bool g.wr] 44)) w.heap.size 44 [.int .i64 g.f, .int .i64 g.t, .bool g.wr] := Blk.new _ _ _
  have k2 := hb.cell 2
  simp only [List.getElem?_cons_zero, List.getElem?_cons_succ] at k2
  clear hb
  obtain ⟨gf, gt, gw⟩ := g
  cases gw
  all_goals
    go_enter Try.func29, Try.ntmps29
    go_wp2
    go_ret
    exact ⟨rfl, (Below.refl _ _).alloc (Nat.le_refl _) _⟩

theorem ig1_r (g : Gr) (f p : Int) (a0 a1 a2 : Nat) (w : World) (h0 : Blk w a0 3 [.int .i64 f]) (h1 : Blk w a1 3 [.int .i64 p]) (h2 : Blk w a2 61 [.func (.func 29) #[] #[]]) :
    Calls Try.prog 75 #[.agg #[.int .i64 g.f, .int .i64 g.t, .bool g.wr], .pointer (some ⟨a0, 0, none⟩), .pointer (some ⟨a1, 0, none⟩), .pointer (some ⟨a2, 0, none⟩)] w fun e w' => e = .returned (.bool (cgB f p false g)) ∧ Below w.heap.size w w' := by
  have hB : Below w.heap.size w (w.alloc (.cells #[.int .i64 g.f, .int .i64 g.t, .bool g.wr] 44)) := (Below.refl _ _).alloc (Nat.le_refl _) _
  have hb : Blk (w.alloc (.cells #[.int .i64 g.f, .int .i64 g.t, .bool g.wr] 44)) w.heap.size 44 [.int .i64 g.f, .int .i64 g.t, .bool g.wr] := Blk.new _ _ _
  have k0 := hb.cell 0
  have k1 := hb.cell 1
  have k2 := hb.cell 2
  have c0 := (h0.below hB h0.lt).cell 0
  have c1 := (h1.below hB h1.lt).cell 0
  have c2 := (h2.below hB h2.lt).cell 0
  simp only [List.getElem?_cons_zero, List.getElem?_cons_succ] at k0 k1 k2 c0 c1 c2
  have HC := Lib.hid (cnt_r g (w.alloc (.cells #[.int .i64 g.f, .int .i64 g.t, .bool g.wr] 44)))
  obtain ⟨Q, hQ⟩ : ∃ Q, cgB f p false g = Q := ⟨_, rfl⟩
  rw [hQ]
  unfold cgB at hQ
  have HB := Lib.hid hB; have HQ := Lib.hid hQ
  clear hb hB h0 h1 h2 hQ
  obtain ⟨gf, gt, gw⟩ := g
  simp only at *
  by_cases hf : gf = f
  · by_cases ht : gt = p
    · have e : Q = (gw || !false) := by rw [← HQ.out, decide_eq_true ⟨hf, ht⟩, Bool.true_and]
      have HE := Lib.hid e
      subst hf ht
      clear e
      go_enter Try.func75, Try.ntmps75
      go_wp2_with fail
      refine HC.out.mono ?_
      rintro e w1 ⟨rfl, b1⟩
      rw [← HE.out]
      go_wp2_with fail
      go_ret
      exact ⟨rfl, Below.down HB.out b1 HB.out.size⟩
    · have e : Q = false := by rw [← HQ.out, decide_eq_false (fun h => ht h.2)]; rfl
      have ht2 : (gt == p) = false := by simpa using ht
      subst e hf
      clear ht
      go_enter Try.func75, Try.ntmps75
      go_wp2_with fail
      go_ret
      exact ⟨rfl, HB.out⟩
  · have e : Q = false := by rw [← HQ.out, decide_eq_false (fun h => hf h.1)]; rfl
    have hf2 : (gf == f) = false := by simpa using hf
    subst e
    clear hf
    go_enter Try.func75, Try.ntmps75
    go_wp2_with fail
    go_ret
    exact ⟨rfl, HB.out⟩

theorem granted_r {w : World} {c : Cf} {vp vd vw vg : Value} (h : CfAt w vp vd vw vg c) (p f : Int) :
    Calls Try.prog 54 #[.agg #[.int .i64 c.fr, vp, vd, .int .i64 c.mj, vw, vg, .int .i64 c.se, .int .i64 c.qu, .int .i64 c.qt], .int .i64 p, .int .i64 f, .func (.func 29) #[] #[]] w fun e w' => e = .returned (.bool (c.gs.any (cgB f p false))) ∧ Below w.heap.size w w' := by
  have hgs := h.gs
  have hz := h.gz
  obtain ⟨A', cap', rfl⟩ : ∃ A' cap', vg = .slice A' c.gs.length cap' := by obtain ⟨A', c', e, _⟩ := hgs; exact ⟨A', c', e⟩
  generalize hgn : c.gs.length = m at *
  have b1 : Below w.heap.size w (w.alloc (.cells #[.int .i64 c.fr, vp, vd, .int .i64 c.mj, vw, .slice A' m cap', .int .i64 c.se, .int .i64 c.qu, .int .i64 c.qt] 27)) := (Below.refl _ _).alloc (Nat.le_refl _) _
  have b2 := b1.alloc b1.size (.cells #[.int .i64 p] 3)
  have b3 := b2.alloc b2.size (.cells #[.int .i64 f] 3)
  have b4 := b3.alloc b3.size (.cells #[.func (.func 29) #[] #[]] 61)
  have k0 : Blk ((((w.alloc (.cells #[.int .i64 c.fr, vp, vd, .int .i64 c.mj, vw, .slice A' m cap', .int .i64 c.se, .int .i64 c.qu, .int .i64 c.qt] 27)).alloc (.cells #[.int .i64 p] 3)).alloc (.cells #[.int .i64 f] 3)).alloc (.cells #[.func (.func 29) #[] #[]] 61)) w.heap.size 27 (cfc c vp vd vw (.slice A' m cap')) := (((Blk.new w _ (cfc c vp vd vw (.slice A' m cap'))).alloc _).alloc _).alloc _
  have k1 : Blk ((((w.alloc (.cells #[.int .i64 c.fr, vp, vd, .int .i64 c.mj, vw, .slice A' m cap', .int .i64 c.se, .int .i64 c.qu, .int .i64 c.qt] 27)).alloc (.cells #[.int .i64 p] 3)).alloc (.cells #[.int .i64 f] 3)).alloc (.cells #[.func (.func 29) #[] #[]] 61)) (w.heap.size + 1) 3 [.int .i64 p] := by
    have := ((Blk.new (w.alloc (.cells #[.int .i64 c.fr, vp, vd, .int .i64 c.mj, vw, .slice A' m cap', .int .i64 c.se, .int .i64 c.qu, .int .i64 c.qt] 27)) 3 [.int .i64 p]).alloc (.cells #[.int .i64 f] 3)).alloc (.cells #[.func (.func 29) #[] #[]] 61)
    simpa using this
  have k2 : Blk ((((w.alloc (.cells #[.int .i64 c.fr, vp, vd, .int .i64 c.mj, vw, .slice A' m cap', .int .i64 c.se, .int .i64 c.qu, .int .i64 c.qt] 27)).alloc (.cells #[.int .i64 p] 3)).alloc (.cells #[.int .i64 f] 3)).alloc (.cells #[.func (.func 29) #[] #[]] 61)) (w.heap.size + 1 + 1) 3 [.int .i64 f] := by
    have := (Blk.new ((w.alloc (.cells #[.int .i64 c.fr, vp, vd, .int .i64 c.mj, vw, .slice A' m cap', .int .i64 c.se, .int .i64 c.qu, .int .i64 c.qt] 27)).alloc (.cells #[.int .i64 p] 3)) 3 [.int .i64 f]).alloc (.cells #[.func (.func 29) #[] #[]] 61)
    simpa using this
  have k3 : Blk ((((w.alloc (.cells #[.int .i64 c.fr, vp, vd, .int .i64 c.mj, vw, .slice A' m cap', .int .i64 c.se, .int .i64 c.qu, .int .i64 c.qt] 27)).alloc (.cells #[.int .i64 p] 3)).alloc (.cells #[.int .i64 f] 3)).alloc (.cells #[.func (.func 29) #[] #[]] 61)) (w.heap.size + 1 + 1 + 1) 61 [.func (.func 29) #[] #[]] := by
    have := Blk.new (((w.alloc (.cells #[.int .i64 c.fr, vp, vd, .int .i64 c.mj, vw, .slice A' m cap', .int .i64 c.se, .int .i64 c.qu, .int .i64 c.qt] 27)).alloc (.cells #[.int .i64 p] 3)).alloc (.cells #[.int .i64 f] 3)) 61 [.func (.func 29) #[] #[]]
    simpa using this
  have q5 := (cf_at k0).2.2.2.2.2.1
  have HB := Lib.hid b4
  have hgs4 := hgs.below b4
  obtain ⟨b, o, hbo⟩ : ∃ b o, 0 < m → A' = some ⟨b, o, none⟩ := by
    by_cases h0 : 0 < m
    · obtain ⟨b, o, e, _⟩ := grs_at hgs hgn 0 h0
      exact ⟨b, o, fun _ => e⟩
    · exact ⟨0, 0, fun h => absurd h h0⟩
  generalize hw4 : (((w.alloc (.cells #[.int .i64 c.fr, vp, vd, .int .i64 c.mj, vw, .slice A' m cap', .int .i64 c.se, .int .i64 c.qu, .int .i64 c.qt] 27)).alloc (.cells #[.int .i64 p] 3)).alloc (.cells #[.int .i64 f] 3)).alloc (.cells #[.func (.func 29) #[] #[]] 61) = w4 at *
  have hE := cf_Gr A' b o m cap' (w.heap.size + 1 + 1) (w.heap.size + 1) (w.heap.size + 1 + 1 + 1) (fun i => .int .i64 (c.gs.getD i grD).f) (fun i => .int .i64 (c.gs.getD i grD).t) (fun i => .bool (c.gs.getD i grD).wr) (fun i => cgB f p false (c.gs.getD i grD)) nos
    (fun _ W => Below w4.heap.size w4 W) w4 (by unfold maxLen; omega) hbo
    (fun i W hi hI => by
      obtain ⟨b', o', e, _, q⟩ := grs_at (hgs4.below hI) hgn i hi
      rw [hbo (by omega)] at e
      simp only [Option.some.injEq, Addr.mk.injEq, and_true] at e
      obtain ⟨rfl, rfl⟩ := e
      exact q)
    (fun i W hi _ hI => by
      refine (ig1_r (c.gs.getD i grD) f p _ _ _ W (k2.below hI k2.lt) (k1.below hI k1.lt) (k3.below hI k3.lt)).mono ?_
      rintro e w' ⟨rfl, hb⟩
      exact ⟨rfl, Below.down hI hb hI.size, Fo.of hb _⟩)
    (Below.refl _ _)
  have e9 : (List.range m).any (fun i => cgB f p false (c.gs.getD i grD)) = c.gs.any (cgB f p false) := by rw [← hgn]; exact any_range c.gs grD _
  rw [e9] at hE
  have HE := Lib.hid hE
  subst hw4
  clear hE e9 b1 b2 b3 b4 k0 k1 k2 k3 hgs4 hgs h hbo
  generalize c.gs.any (cgB f p false) = R at *
  go_enter Try.func54, Try.ntmps54
  go_wp2_with fail
  refine HE.out.mono ?_
  rintro e w5 ⟨rfl, -, hf⟩
  have HB5 := Lib.hid (Below.down HB.out hf.nos HB.out.size)
  clear hf
  go_wp2_with fail
  go_ret
  exact ⟨rfl, HB5.out⟩


theorem cnt_w (g : Gr) (w : World) : Calls Try.prog 31 #[.agg #[.int .i64 g.f, .int .i64 g.t, .bool g.wr]] w fun e w' => e = .returned (.bool (g.wr || !true)) ∧ Below w.heap.size w w' := by
  have hb : Blk (w.alloc (.cells #[.int .i64 g.f, .int .i64 g.t, .bool g.wr] 44)) w.heap.size 44 [.int .i64 g.f, .int .i64 g.t, .bool g.wr] := Blk.new _ _ _
  have k2 := hb.cell 2
  simp only [List.getElem?_cons_zero, List.getElem?_cons_succ] at k2
  clear hb
  obtain ⟨gf, gt, gw⟩ := g
  cases gw
  all_goals
    go_enter Try.func31, Try.ntmps31
    go_wp2
    go_ret
    exact ⟨rfl, (Below.refl _ _).alloc (Nat.le_refl _) _⟩

theorem ig1_w (g : Gr) (f p : Int) (a0 a1 a2 : Nat) (w : World) (h0 : Blk w a0 3 [.int .i64 f]) (h1 : Blk w a1 3 [.int .i64 p]) (h2 : Blk w a2 61 [.func (.func 31) #[] #[]]) :
    Calls Try.prog 75 #[.agg #[.int .i64 g.f, .int .i64 g.t, .bool g.wr], .pointer (some ⟨a0, 0, none⟩), .pointer (some ⟨a1, 0, none⟩), .pointer (some ⟨a2, 0, none⟩)] w fun e w' => e = .returned (.bool (cgB f p true g)) ∧ Below w.heap.size w w' := by
  have hB : Below w.heap.size w (w.alloc (.cells #[.int .i64 g.f, .int .i64 g.t, .bool g.wr] 44)) := (Below.refl _ _).alloc (Nat.le_refl _) _
  have hb : Blk (w.alloc (.cells #[.int .i64 g.f, .int .i64 g.t, .bool g.wr] 44)) w.heap.size 44 [.int .i64 g.f, .int .i64 g.t, .bool g.wr] := Blk.new _ _ _
  have k0 := hb.cell 0
  have k1 := hb.cell 1
  have k2 := hb.cell 2
  have c0 := (h0.below hB h0.lt).cell 0
  have c1 := (h1.below hB h1.lt).cell 0
  have c2 := (h2.below hB h2.lt).cell 0
  simp only [List.getElem?_cons_zero, List.getElem?_cons_succ] at k0 k1 k2 c0 c1 c2
  have HC := Lib.hid (cnt_w g (w.alloc (.cells #[.int .i64 g.f, .int .i64 g.t, .bool g.wr] 44)))
  obtain ⟨Q, hQ⟩ : ∃ Q, cgB f p true g = Q := ⟨_, rfl⟩
  rw [hQ]
  unfold cgB at hQ
  have HB := Lib.hid hB; have HQ := Lib.hid hQ
  clear hb hB h0 h1 h2 hQ
  obtain ⟨gf, gt, gw⟩ := g
  simp only at *
  by_cases hf : gf = f
  · by_cases ht : gt = p
    · have e : Q = (gw || !true) := by rw [← HQ.out, decide_eq_true ⟨hf, ht⟩, Bool.true_and]
      have HE := Lib.hid e
      subst hf ht
      clear e
      go_enter Try.func75, Try.ntmps75
      go_wp2_with fail
      refine HC.out.mono ?_
      rintro e w1 ⟨rfl, b1⟩
      rw [← HE.out]
      go_wp2_with fail
      go_ret
      exact ⟨rfl, Below.down HB.out b1 HB.out.size⟩
    · have e : Q = false := by rw [← HQ.out, decide_eq_false (fun h => ht h.2)]; rfl
      have ht2 : (gt == p) = false := by simpa using ht
      subst e hf
      clear ht
      go_enter Try.func75, Try.ntmps75
      go_wp2_with fail
      go_ret
      exact ⟨rfl, HB.out⟩
  · have e : Q = false := by rw [← HQ.out, decide_eq_false (fun h => hf h.1)]; rfl
    have hf2 : (gf == f) = false := by simpa using hf
    subst e
    clear hf
    go_enter Try.func75, Try.ntmps75
    go_wp2_with fail
    go_ret
    exact ⟨rfl, HB.out⟩

theorem granted_w {w : World} {c : Cf} {vp vd vw vg : Value} (h : CfAt w vp vd vw vg c) (p f : Int) :
    Calls Try.prog 54 #[.agg #[.int .i64 c.fr, vp, vd, .int .i64 c.mj, vw, vg, .int .i64 c.se, .int .i64 c.qu, .int .i64 c.qt], .int .i64 p, .int .i64 f, .func (.func 31) #[] #[]] w fun e w' => e = .returned (.bool (c.gs.any (cgB f p true))) ∧ Below w.heap.size w w' := by
  have hgs := h.gs
  have hz := h.gz
  obtain ⟨A', cap', rfl⟩ : ∃ A' cap', vg = .slice A' c.gs.length cap' := by obtain ⟨A', c', e, _⟩ := hgs; exact ⟨A', c', e⟩
  generalize hgn : c.gs.length = m at *
  have b1 : Below w.heap.size w (w.alloc (.cells #[.int .i64 c.fr, vp, vd, .int .i64 c.mj, vw, .slice A' m cap', .int .i64 c.se, .int .i64 c.qu, .int .i64 c.qt] 27)) := (Below.refl _ _).alloc (Nat.le_refl _) _
  have b2 := b1.alloc b1.size (.cells #[.int .i64 p] 3)
  have b3 := b2.alloc b2.size (.cells #[.int .i64 f] 3)
  have b4 := b3.alloc b3.size (.cells #[.func (.func 31) #[] #[]] 61)
  have k0 : Blk ((((w.alloc (.cells #[.int .i64 c.fr, vp, vd, .int .i64 c.mj, vw, .slice A' m cap', .int .i64 c.se, .int .i64 c.qu, .int .i64 c.qt] 27)).alloc (.cells #[.int .i64 p] 3)).alloc (.cells #[.int .i64 f] 3)).alloc (.cells #[.func (.func 31) #[] #[]] 61)) w.heap.size 27 (cfc c vp vd vw (.slice A' m cap')) := (((Blk.new w _ (cfc c vp vd vw (.slice A' m cap'))).alloc _).alloc _).alloc _
  have k1 : Blk ((((w.alloc (.cells #[.int .i64 c.fr, vp, vd, .int .i64 c.mj, vw, .slice A' m cap', .int .i64 c.se, .int .i64 c.qu, .int .i64 c.qt] 27)).alloc (.cells #[.int .i64 p] 3)).alloc (.cells #[.int .i64 f] 3)).alloc (.cells #[.func (.func 31) #[] #[]] 61)) (w.heap.size + 1) 3 [.int .i64 p] := by
    have := ((Blk.new (w.alloc (.cells #[.int .i64 c.fr, vp, vd, .int .i64 c.mj, vw, .slice A' m cap', .int .i64 c.se, .int .i64 c.qu, .int .i64 c.qt] 27)) 3 [.int .i64 p]).alloc (.cells #[.int .i64 f] 3)).alloc (.cells #[.func (.func 31) #[] #[]] 61)
    simpa using this
  have k2 : Blk ((((w.alloc (.cells #[.int .i64 c.fr, vp, vd, .int .i64 c.mj, vw, .slice A' m cap', .int .i64 c.se, .int .i64 c.qu, .int .i64 c.qt] 27)).alloc (.cells #[.int .i64 p] 3)).alloc (.cells #[.int .i64 f] 3)).alloc (.cells #[.func (.func 31) #[] #[]] 61)) (w.heap.size + 1 + 1) 3 [.int .i64 f] := by
    have := (Blk.new ((w.alloc (.cells #[.int .i64 c.fr, vp, vd, .int .i64 c.mj, vw, .slice A' m cap', .int .i64 c.se, .int .i64 c.qu, .int .i64 c.qt] 27)).alloc (.cells #[.int .i64 p] 3)) 3 [.int .i64 f]).alloc (.cells #[.func (.func 31) #[] #[]] 61)
    simpa using this
  have k3 : Blk ((((w.alloc (.cells #[.int .i64 c.fr, vp, vd, .int .i64 c.mj, vw, .slice A' m cap', .int .i64 c.se, .int .i64 c.qu, .int .i64 c.qt] 27)).alloc (.cells #[.int .i64 p] 3)).alloc (.cells #[.int .i64 f] 3)).alloc (.cells #[.func (.func 31) #[] #[]] 61)) (w.heap.size + 1 + 1 + 1) 61 [.func (.func 31) #[] #[]] := by
    have := Blk.new (((w.alloc (.cells #[.int .i64 c.fr, vp, vd, .int .i64 c.mj, vw, .slice A' m cap', .int .i64 c.se, .int .i64 c.qu, .int .i64 c.qt] 27)).alloc (.cells #[.int .i64 p] 3)).alloc (.cells #[.int .i64 f] 3)) 61 [.func (.func 31) #[] #[]]
    simpa using this
  have q5 := (cf_at k0).2.2.2.2.2.1
  have HB := Lib.hid b4
  have hgs4 := hgs.below b4
  obtain ⟨b, o, hbo⟩ : ∃ b o, 0 < m → A' = some ⟨b, o, none⟩ := by
    by_cases h0 : 0 < m
    · obtain ⟨b, o, e, _⟩ := grs_at hgs hgn 0 h0
      exact ⟨b, o, fun _ => e⟩
    · exact ⟨0, 0, fun h => absurd h h0⟩
  generalize hw4 : (((w.alloc (.cells #[.int .i64 c.fr, vp, vd, .int .i64 c.mj, vw, .slice A' m cap', .int .i64 c.se, .int .i64 c.qu, .int .i64 c.qt] 27)).alloc (.cells #[.int .i64 p] 3)).alloc (.cells #[.int .i64 f] 3)).alloc (.cells #[.func (.func 31) #[] #[]] 61) = w4 at *
  have hE := cf_Gr A' b o m cap' (w.heap.size + 1 + 1) (w.heap.size + 1) (w.heap.size + 1 + 1 + 1) (fun i => .int .i64 (c.gs.getD i grD).f) (fun i => .int .i64 (c.gs.getD i grD).t) (fun i => .bool (c.gs.getD i grD).wr) (fun i => cgB f p true (c.gs.getD i grD)) nos
    (fun _ W => Below w4.heap.size w4 W) w4 (by unfold maxLen; omega) hbo
    (fun i W hi hI => by
      obtain ⟨b', o', e, _, q⟩ := grs_at (hgs4.below hI) hgn i hi
      rw [hbo (by omega)] at e
      simp only [Option.some.injEq, Addr.mk.injEq, and_true] at e
      obtain ⟨rfl, rfl⟩ := e
      exact q)
    (fun i W hi _ hI => by
      refine (ig1_w (c.gs.getD i grD) f p _ _ _ W (k2.below hI k2.lt) (k1.below hI k1.lt) (k3.below hI k3.lt)).mono ?_
      rintro e w' ⟨rfl, hb⟩
      exact ⟨rfl, Below.down hI hb hI.size, Fo.of hb _⟩)
    (Below.refl _ _)
  have e9 : (List.range m).any (fun i => cgB f p true (c.gs.getD i grD)) = c.gs.any (cgB f p true) := by rw [← hgn]; exact any_range c.gs grD _
  rw [e9] at hE
  have HE := Lib.hid hE
  subst hw4
  clear hE e9 b1 b2 b3 b4 k0 k1 k2 k3 hgs4 hgs h hbo
  generalize c.gs.any (cgB f p true) = R at *
  go_enter Try.func54, Try.ntmps54
  go_wp2_with fail
  refine HE.out.mono ?_
  rintro e w5 ⟨rfl, -, hf⟩
  have HB5 := Lib.hid (Below.down HB.out hf.nos HB.out.size)
  clear hf
  go_wp2_with fail
  go_ret
  exact ⟨rfl, HB5.out⟩


end Go.Proofs.Ytamhnnkmjhapmaa

namespace Go.Proofs.Ytamhnnkmjhapmaa
open Go.RowKit
set_option linter.unusedVariables false
set_option linter.unusedSimpArgs false
set_option maxRecDepth 100000

section
variable {w1 w' w2 : World} {c : Cf} {vp vd vw vg fv : Value} {y y1 y2 z b q : Nat} {p xf xo xl : Int} {u : Value}
theorem RcS.all (hb : b < w1.heap.size) (hrow : w1.cell? ⟨b, q, none⟩ = some u) (h : RcS w1 c vp vd vw vg y y1 y2 z p fv xf xo xl w') :
    (w'.cell? ⟨y, 0, none⟩ = some (.int .i64 c.fr) ∧ w'.cell? ⟨y, 1, none⟩ = some vp ∧ w'.cell? ⟨y, 2, none⟩ = some vd ∧ w'.cell? ⟨y, 3, none⟩ = some (.int .i64 c.mj) ∧ w'.cell? ⟨y, 4, none⟩ = some vw ∧ w'.cell? ⟨y, 5, none⟩ = some vg ∧ w'.cell? ⟨y, 6, none⟩ = some (.int .i64 c.se) ∧ w'.cell? ⟨y, 7, none⟩ = some (.int .i64 c.qu) ∧ w'.cell? ⟨y, 8, none⟩ = some (.int .i64 c.qt)) ∧ w'.cell? ⟨y1, 0, none⟩ = some (.int .i64 p) ∧ w'.cell? ⟨y2, 0, none⟩ = some fv ∧ w'.cell? ⟨z, 0, none⟩ = some (.int .i64 xf) ∧ w'.cell? ⟨b, q, none⟩ = some u ∧ RcS w1 c vp vd vw vg y y1 y2 z p fv xf xo xl w' :=
  ⟨cf_at h.cb, h.pb.cell 0, h.fb.cell 0, h.xb.cell 0, (h.below.cell (p := ⟨b, q, none⟩) hb).trans hrow, h⟩
end


set_option maxHeartbeats 2000000 in
theorem rc1_r {w : World} {c : Cf} {vp vd vw vg : Value} (h : CfAt w vp vd vw vg c) (hu : unB c = true) (p : Nat) (hp : p < c.ps.length) (xf xo xl : Int) (y y1 y2 : Nat) (hy : Blk w y 27 (cfc c vp vd vw vg)) (hy1 : Blk w y1 3 [.int .i64 (p : Int)]) (hy2 : Blk w y2 61 [.func (.func 29) #[] #[]]) :
    Calls Try.prog 52 #[.agg #[.int .i64 xf, .int .i64 xo, .int .i64 xl], .pointer (some ⟨y, 0, none⟩), .pointer (some ⟨y1, 0, none⟩), .pointer (some ⟨y2, 0, none⟩)] w fun e w' => e = .returned (.bool (rcB c p xf false)) ∧ Below w.heap.size w w' := by
  have hB : Below w.heap.size w (w.alloc (.cells #[.int .i64 xf, .int .i64 xo, .int .i64 xl] 75)) := (Below.refl _ _).alloc (Nat.le_refl _) _
  have h1 := h.below hB
  have hz := h.pz.1
  have hzf := h.pz.2 p
  obtain ⟨A, cap, b, o, sv, rfl, hA, hr⟩ := h1.ps.rows
  obtain ⟨rfl, hb1⟩ := hA (by omega)
  obtain ⟨⟨-, -, hrow, -, -⟩, hsl⟩ := hr p hp
  obtain ⟨A2, c2, e2, -⟩ := hsl.below (Below.refl _ _)
  rw [e2] at hrow hsl
  have hown : rcB c p xf false = (memI (c.ps.getD p paD).fr xf || c.gs.any (cgB xf p false)) := by
    unfold memI
    rw [own_part hu p xf hp]; rfl
  have hS : RcS (w.alloc (.cells #[.int .i64 xf, .int .i64 xo, .int .i64 xl] 75)) c (.slice (some ⟨b, o, none⟩) c.ps.length cap) vd vw vg y y1 y2 w.heap.size (p : Int) (.func (.func 29) #[] #[]) xf xo xl (w.alloc (.cells #[.int .i64 xf, .int .i64 xo, .int .i64 xl] 75)) :=
    ⟨hy.alloc _, hy1.alloc _, hy2.alloc _, Blk.new _ _ _, Below.refl _ _⟩
  have HCT := Lib.hid (fun (W : World) (hW : Below (w.alloc (.cells #[.int .i64 xf, .int .i64 xo, .int .i64 xl] 75)).heap.size (w.alloc (.cells #[.int .i64 xf, .int .i64 xo, .int .i64 xl] 75)) W) => contains_any _ _ xf W (hsl.below hW) (by unfold maxLen; omega))
  have HCF := Lib.hid (fun (W : World) (hW : Below (w.alloc (.cells #[.int .i64 xf, .int .i64 xo, .int .i64 xl] 75)).heap.size (w.alloc (.cells #[.int .i64 xf, .int .i64 xo, .int .i64 xl] 75)) W) => h1.below hW)
  have HB := Lib.hid hB; have HX := Lib.hid hown
  clear h h1 hA hr hsl hB hu hy hy1 hy2 e2 hown
  generalize rcB c p xf false = Q at *
  generalize (c.ps.getD p paD).fr = fr at *
  generalize fr.length = m2 at *
  generalize c.ps.length = m at *
  have hpi : (p : Int) < (m : Int) := by omega
  have hzf2 : m2 ≤ 9223372036854775807 := by omega
  clear hzf
  go_enter Try.func52, Try.ntmps52
  go_wp2_with fail
  generalize w.alloc (.cells #[.int .i64 xf, .int .i64 xo, .int .i64 xl] 75) = w1 at *
  generalize hz9 : w.heap.size = z at *
  have HZ9 := Lib.hid hz9
  obtain ⟨⟨k0, k1, k2, k3, k4, k5, k6, k7, k8⟩, c0, c1, c2', c3, hS'⟩ := hS.all hb1 hrow
  clear hz9
  cases hm : memI fr xf with
  | true =>
    have HM := Lib.hid hm
    have HQ : Hid (Ending.returned (.bool true) = Ending.returned (.bool Q)) := Lib.hid (by rw [HX.out, hm]; rfl)
    clear hm
    refine wp_region_held_drew (S := (fun w' => (w'.cell? ⟨y, 0, none⟩ = some (.int .i64 c.fr) ∧ w'.cell? ⟨y, 1, none⟩ = some (.slice (some ⟨b, o, none⟩) m cap) ∧ w'.cell? ⟨y, 2, none⟩ = some vd ∧ w'.cell? ⟨y, 3, none⟩ = some (.int .i64 c.mj) ∧ w'.cell? ⟨y, 4, none⟩ = some vw ∧ w'.cell? ⟨y, 5, none⟩ = some vg ∧ w'.cell? ⟨y, 6, none⟩ = some (.int .i64 c.se) ∧ w'.cell? ⟨y, 7, none⟩ = some (.int .i64 c.qu) ∧ w'.cell? ⟨y, 8, none⟩ = some (.int .i64 c.qt)) ∧ w'.cell? ⟨y1, 0, none⟩ = some (.int .i64 (p : Int)) ∧ w'.cell? ⟨y2, 0, none⟩ = some (.func (.func 29) #[] #[]) ∧ w'.cell? ⟨z, 0, none⟩ = some (.int .i64 xf) ∧ w'.cell? ⟨b, o + p * 5 + 2, none⟩ = some (.slice A2 m2 c2) ∧ RcS w1 c (.slice (some ⟨b, o, none⟩) m cap) vd vw vg y y1 y2 z (p : Int) (.func (.func 29) #[] #[]) xf xo xl w')) (by kernel_rfl) ?_ (fun hHeld => ?_)
    · try dsimp only
      (go_split_ands; refine RcS.all hb1 hrow ?_; (first | assumption | (exact RcS.drew (by assumption)) | (exact RcS.next (by assumption) (by assumption))))
    refine wpAnyH_take (i := 0) (v := ?v0zY) rfl (by kernel_rfl) (by kernel_rfl) (by kernel_rfl) (fun _ _ _ h => h) (Or.inl ⟨by rfl, ?hy0zY⟩) (by assumption) ?rest0zY
    case hy0zY => intro w hSw; (try dsimp only at hSw); first | (go_simp; done) | (go_simp; with_reducible rfl)
    try simp only [Act.put, List.getElem_toArray, List.getElem_cons_succ, List.getElem_cons_zero, List.setIfInBounds_toArray, List.set_cons_zero, List.set_cons_succ]
    refine wpAnyH_take (i := 1) (v := ?v1zY) rfl (by kernel_rfl) (by kernel_rfl) (by kernel_rfl) (fun _ _ _ h => h) (Or.inl ⟨by rfl, ?hy1zY⟩) (by assumption) ?rest1zY
    case hy1zY => intro w hSw; (try dsimp only at hSw); first | (go_simp; done) | (go_simp; with_reducible rfl)
    try simp only [Act.put, List.getElem_toArray, List.getElem_cons_succ, List.getElem_cons_zero, List.setIfInBounds_toArray, List.set_cons_zero, List.set_cons_succ]
    refine wpAnyH_take (i := 2) (v := ?v2zY) rfl (by kernel_rfl) (by kernel_rfl) (by kernel_rfl) (fun _ _ _ h => h) (Or.inl ⟨by rfl, ?hy2zY⟩) (by assumption) ?rest2zY
    case hy2zY => intro w hSw; (try dsimp only at hSw); first | (go_simp; done) | (go_simp; with_reducible rfl)
    try simp only [Act.put, List.getElem_toArray, List.getElem_cons_succ, List.getElem_cons_zero, List.setIfInBounds_toArray, List.set_cons_zero, List.set_cons_succ]
    refine wpAnyH_take (i := 3) (v := ?v3zY) rfl (by kernel_rfl) (by kernel_rfl) (by kernel_rfl) (fun _ _ _ h => h) (Or.inl ⟨by rfl, ?hy3zY⟩) (by assumption) ?rest3zY
    case hy3zY => intro w hSw; (try dsimp only at hSw); first | (go_simp; done) | (go_simp; with_reducible rfl)
    try simp only [Act.put, List.getElem_toArray, List.getElem_cons_succ, List.getElem_cons_zero, List.setIfInBounds_toArray, List.set_cons_zero, List.set_cons_succ]
    refine wpAnyH_take (i := 4) (v := ?v4zY) rfl (by kernel_rfl) (by kernel_rfl) (by kernel_rfl) (fun _ _ _ h => h) (Or.inl ⟨by rfl, ?hy4zY⟩) (by assumption) ?rest4zY
    case hy4zY => intro w hSw; (try dsimp only at hSw); first | (go_simp; done) | (go_simp; with_reducible rfl)
    try simp only [Act.put, List.getElem_toArray, List.getElem_cons_succ, List.getElem_cons_zero, List.setIfInBounds_toArray, List.set_cons_zero, List.set_cons_succ]
    refine wpAnyH_take (i := 5) (v := ?v5zY) rfl (by kernel_rfl) (by kernel_rfl) (by kernel_rfl) (fun _ _ _ h => h) (Or.inl ⟨by rfl, ?hy5zY⟩) (by assumption) ?rest5zY
    case hy5zY => intro w hSw; (try dsimp only at hSw); first | (go_simp; done) | (go_simp; with_reducible rfl)
    try simp only [Act.put, List.getElem_toArray, List.getElem_cons_succ, List.getElem_cons_zero, List.setIfInBounds_toArray, List.set_cons_zero, List.set_cons_succ]
    refine wpAnyH_take (i := 6) (v := ?v6zY) rfl (by kernel_rfl) (by kernel_rfl) (by kernel_rfl) (fun _ _ _ h => h) (Or.inl ⟨by rfl, ?hy6zY⟩) (by assumption) ?rest6zY
    case hy6zY => intro w hSw; (try dsimp only at hSw); first | (go_simp; done) | (go_simp; with_reducible rfl)
    try simp only [Act.put, List.getElem_toArray, List.getElem_cons_succ, List.getElem_cons_zero, List.setIfInBounds_toArray, List.set_cons_zero, List.set_cons_succ]
    refine wpAnyH_take (i := 7) (v := ?v7zY) rfl (by kernel_rfl) (by kernel_rfl) (by kernel_rfl) (fun _ _ _ h => h) (Or.inl ⟨by rfl, ?hy7zY⟩) (by assumption) ?rest7zY
    case hy7zY => intro w hSw; (try dsimp only at hSw); first | (go_simp; done) | (go_simp; with_reducible rfl)
    try simp only [Act.put, List.getElem_toArray, List.getElem_cons_succ, List.getElem_cons_zero, List.setIfInBounds_toArray, List.set_cons_zero, List.set_cons_succ]
    refine wpAnyH_ready (rs := [8]) (by kernel_rfl) (by simp) ?_
    refine AllReadyH.cons rfl (fun K hK => ?_) AllReadyH.nil
    go_simp
    refine (HCT.out _ hHeld.2.2.2.2.2.below).mono ?_
    rintro e w5 ⟨rfl, hw5⟩
    subst hw5
    rw [HM.out]
    go_wp2_with fail
    refine hK.out _ _ ?_ (fun hHeld2 => ?_)
    · try dsimp only
      (go_split_ands; refine RcS.all hb1 hrow ?_; (first | assumption | (exact RcS.drew (by assumption)) | (exact RcS.next (by assumption) (by assumption))))
    clear hK K hHeld
    have hHeld := hHeld2; clear hHeld2
    try simp only [Act.put, List.getElem_toArray, List.getElem_cons_succ, List.getElem_cons_zero, List.setIfInBounds_toArray, List.set_cons_zero, List.set_cons_succ]
    refine wpAnyH_take (i := 9) (v := ?v9zY) rfl (by kernel_rfl) (by kernel_rfl) (by kernel_rfl) (fun _ _ _ h => h) (Or.inl ⟨by rfl, ?hy9zY⟩) (by assumption) ?rest9zY
    case hy9zY => intro w hSw; (try dsimp only at hSw); first | (go_simp; done) | (go_simp; with_reducible rfl)
    try simp only [Act.put, List.getElem_toArray, List.getElem_cons_succ, List.getElem_cons_zero, List.setIfInBounds_toArray, List.set_cons_zero, List.set_cons_succ]
    refine wpAnyH_take (i := 10) (v := undef) rfl (by kernel_rfl) (by kernel_rfl) (by kernel_rfl) (fun _ _ _ h => h) (Or.inr ⟨by rfl, rfl⟩) (by assumption) ?rest10zY
    try simp only [Act.put, List.getElem_toArray, List.getElem_cons_succ, List.getElem_cons_zero, List.setIfInBounds_toArray, List.set_cons_zero, List.set_cons_succ]
    refine wpAnyH_take (i := 11) (v := undef) rfl (by kernel_rfl) (by kernel_rfl) (by kernel_rfl) (fun _ _ _ h => h) (Or.inr ⟨by rfl, rfl⟩) (by assumption) ?rest11zY
    try simp only [Act.put, List.getElem_toArray, List.getElem_cons_succ, List.getElem_cons_zero, List.setIfInBounds_toArray, List.set_cons_zero, List.set_cons_succ]
    refine wpAnyH_take (i := 12) (v := undef) rfl (by kernel_rfl) (by kernel_rfl) (by kernel_rfl) (fun _ _ _ h => h) (Or.inr ⟨by rfl, rfl⟩) (by assumption) ?rest12zY
    try simp only [Act.put, List.getElem_toArray, List.getElem_cons_succ, List.getElem_cons_zero, List.setIfInBounds_toArray, List.set_cons_zero, List.set_cons_succ]
    refine wpAnyH_take (i := 13) (v := undef) rfl (by kernel_rfl) (by kernel_rfl) (by kernel_rfl) (fun _ _ _ h => h) (Or.inr ⟨by rfl, rfl⟩) (by assumption) ?rest13zY
    try simp only [Act.put, List.getElem_toArray, List.getElem_cons_succ, List.getElem_cons_zero, List.setIfInBounds_toArray, List.set_cons_zero, List.set_cons_succ]
    refine wpAnyH_take (i := 14) (v := undef) rfl (by kernel_rfl) (by kernel_rfl) (by kernel_rfl) (fun _ _ _ h => h) (Or.inr ⟨by rfl, rfl⟩) (by assumption) ?rest14zY
    try simp only [Act.put, List.getElem_toArray, List.getElem_cons_succ, List.getElem_cons_zero, List.setIfInBounds_toArray, List.set_cons_zero, List.set_cons_succ]
    refine wpAnyH_take (i := 15) (v := undef) rfl (by kernel_rfl) (by kernel_rfl) (by kernel_rfl) (fun _ _ _ h => h) (Or.inr ⟨by rfl, rfl⟩) (by assumption) ?rest15zY
    try simp only [Act.put, List.getElem_toArray, List.getElem_cons_succ, List.getElem_cons_zero, List.setIfInBounds_toArray, List.set_cons_zero, List.set_cons_succ]
    refine wpAnyH_take (i := 16) (v := ?v16zY) rfl (by kernel_rfl) (by kernel_rfl) (by kernel_rfl) (fun _ _ _ h => h) (Or.inl ⟨by rfl, ?hy16zY⟩) (by assumption) ?rest16zY
    case hy16zY => intro w hSw; (try dsimp only at hSw); first | (go_simp; done) | (go_simp; with_reducible rfl)
    try simp only [Act.put, List.getElem_toArray, List.getElem_cons_succ, List.getElem_cons_zero, List.setIfInBounds_toArray, List.set_cons_zero, List.set_cons_succ]
    refine wpAnyH_take (i := 17) (v := ?v17zY) rfl (by kernel_rfl) (by kernel_rfl) (by kernel_rfl) (fun _ _ _ h => h) (Or.inl ⟨by rfl, ?hy17zY⟩) (by assumption) ?rest17zY
    case hy17zY => intro w hSw; (try dsimp only at hSw); first | (go_simp; done) | (go_simp; with_reducible rfl)
    try simp only [Act.put, List.getElem_toArray, List.getElem_cons_succ, List.getElem_cons_zero, List.setIfInBounds_toArray, List.set_cons_zero, List.set_cons_succ]
    refine wpAnyH_done (by kernel_rfl) ?_ _
    all_goals
      have HS9 := Lib.hid hHeld.2.2.2.2.2
      clear hHeld
      go_wp2_with fail
      go_ret
      have hz9 := HZ9.out
      subst hz9
      exact ⟨HQ.out, Below.down HB.out HS9.out.below HB.out.size⟩
  | false =>
    have HM := Lib.hid hm
    have HQ : Hid (Q = c.gs.any (cgB xf p false)) := Lib.hid (by rw [HX.out, hm]; rfl)
    clear hm
    refine wp_region_held_drew (S := (fun w' => (w'.cell? ⟨y, 0, none⟩ = some (.int .i64 c.fr) ∧ w'.cell? ⟨y, 1, none⟩ = some (.slice (some ⟨b, o, none⟩) m cap) ∧ w'.cell? ⟨y, 2, none⟩ = some vd ∧ w'.cell? ⟨y, 3, none⟩ = some (.int .i64 c.mj) ∧ w'.cell? ⟨y, 4, none⟩ = some vw ∧ w'.cell? ⟨y, 5, none⟩ = some vg ∧ w'.cell? ⟨y, 6, none⟩ = some (.int .i64 c.se) ∧ w'.cell? ⟨y, 7, none⟩ = some (.int .i64 c.qu) ∧ w'.cell? ⟨y, 8, none⟩ = some (.int .i64 c.qt)) ∧ w'.cell? ⟨y1, 0, none⟩ = some (.int .i64 (p : Int)) ∧ w'.cell? ⟨y2, 0, none⟩ = some (.func (.func 29) #[] #[]) ∧ w'.cell? ⟨z, 0, none⟩ = some (.int .i64 xf) ∧ w'.cell? ⟨b, o + p * 5 + 2, none⟩ = some (.slice A2 m2 c2) ∧ RcS w1 c (.slice (some ⟨b, o, none⟩) m cap) vd vw vg y y1 y2 z (p : Int) (.func (.func 29) #[] #[]) xf xo xl w')) (by kernel_rfl) ?_ (fun hHeld => ?_)
    · try dsimp only
      (go_split_ands; refine RcS.all hb1 hrow ?_; (first | assumption | (exact RcS.drew (by assumption)) | (exact RcS.next (by assumption) (by assumption))))
    refine wpAnyH_take (i := 0) (v := ?v0zN) rfl (by kernel_rfl) (by kernel_rfl) (by kernel_rfl) (fun _ _ _ h => h) (Or.inl ⟨by rfl, ?hy0zN⟩) (by assumption) ?rest0zN
    case hy0zN => intro w hSw; (try dsimp only at hSw); first | (go_simp; done) | (go_simp; with_reducible rfl)
    try simp only [Act.put, List.getElem_toArray, List.getElem_cons_succ, List.getElem_cons_zero, List.setIfInBounds_toArray, List.set_cons_zero, List.set_cons_succ]
    refine wpAnyH_take (i := 1) (v := ?v1zN) rfl (by kernel_rfl) (by kernel_rfl) (by kernel_rfl) (fun _ _ _ h => h) (Or.inl ⟨by rfl, ?hy1zN⟩) (by assumption) ?rest1zN
    case hy1zN => intro w hSw; (try dsimp only at hSw); first | (go_simp; done) | (go_simp; with_reducible rfl)
    try simp only [Act.put, List.getElem_toArray, List.getElem_cons_succ, List.getElem_cons_zero, List.setIfInBounds_toArray, List.set_cons_zero, List.set_cons_succ]
    refine wpAnyH_take (i := 2) (v := ?v2zN) rfl (by kernel_rfl) (by kernel_rfl) (by kernel_rfl) (fun _ _ _ h => h) (Or.inl ⟨by rfl, ?hy2zN⟩) (by assumption) ?rest2zN
    case hy2zN => intro w hSw; (try dsimp only at hSw); first | (go_simp; done) | (go_simp; with_reducible rfl)
    try simp only [Act.put, List.getElem_toArray, List.getElem_cons_succ, List.getElem_cons_zero, List.setIfInBounds_toArray, List.set_cons_zero, List.set_cons_succ]
    refine wpAnyH_take (i := 3) (v := ?v3zN) rfl (by kernel_rfl) (by kernel_rfl) (by kernel_rfl) (fun _ _ _ h => h) (Or.inl ⟨by rfl, ?hy3zN⟩) (by assumption) ?rest3zN
    case hy3zN => intro w hSw; (try dsimp only at hSw); first | (go_simp; done) | (go_simp; with_reducible rfl)
    try simp only [Act.put, List.getElem_toArray, List.getElem_cons_succ, List.getElem_cons_zero, List.setIfInBounds_toArray, List.set_cons_zero, List.set_cons_succ]
    refine wpAnyH_take (i := 4) (v := ?v4zN) rfl (by kernel_rfl) (by kernel_rfl) (by kernel_rfl) (fun _ _ _ h => h) (Or.inl ⟨by rfl, ?hy4zN⟩) (by assumption) ?rest4zN
    case hy4zN => intro w hSw; (try dsimp only at hSw); first | (go_simp; done) | (go_simp; with_reducible rfl)
    try simp only [Act.put, List.getElem_toArray, List.getElem_cons_succ, List.getElem_cons_zero, List.setIfInBounds_toArray, List.set_cons_zero, List.set_cons_succ]
    refine wpAnyH_take (i := 5) (v := ?v5zN) rfl (by kernel_rfl) (by kernel_rfl) (by kernel_rfl) (fun _ _ _ h => h) (Or.inl ⟨by rfl, ?hy5zN⟩) (by assumption) ?rest5zN
    case hy5zN => intro w hSw; (try dsimp only at hSw); first | (go_simp; done) | (go_simp; with_reducible rfl)
    try simp only [Act.put, List.getElem_toArray, List.getElem_cons_succ, List.getElem_cons_zero, List.setIfInBounds_toArray, List.set_cons_zero, List.set_cons_succ]
    refine wpAnyH_take (i := 6) (v := ?v6zN) rfl (by kernel_rfl) (by kernel_rfl) (by kernel_rfl) (fun _ _ _ h => h) (Or.inl ⟨by rfl, ?hy6zN⟩) (by assumption) ?rest6zN
    case hy6zN => intro w hSw; (try dsimp only at hSw); first | (go_simp; done) | (go_simp; with_reducible rfl)
    try simp only [Act.put, List.getElem_toArray, List.getElem_cons_succ, List.getElem_cons_zero, List.setIfInBounds_toArray, List.set_cons_zero, List.set_cons_succ]
    refine wpAnyH_take (i := 7) (v := ?v7zN) rfl (by kernel_rfl) (by kernel_rfl) (by kernel_rfl) (fun _ _ _ h => h) (Or.inl ⟨by rfl, ?hy7zN⟩) (by assumption) ?rest7zN
    case hy7zN => intro w hSw; (try dsimp only at hSw); first | (go_simp; done) | (go_simp; with_reducible rfl)
    try simp only [Act.put, List.getElem_toArray, List.getElem_cons_succ, List.getElem_cons_zero, List.setIfInBounds_toArray, List.set_cons_zero, List.set_cons_succ]
    refine wpAnyH_ready (rs := [8]) (by kernel_rfl) (by simp) ?_
    refine AllReadyH.cons rfl (fun K hK => ?_) AllReadyH.nil
    go_simp
    refine (HCT.out _ hHeld.2.2.2.2.2.below).mono ?_
    rintro e w5 ⟨rfl, hw5⟩
    subst hw5
    rw [HM.out]
    go_wp2_with fail
    refine hK.out _ _ ?_ (fun hHeld2 => ?_)
    · try dsimp only
      (go_split_ands; refine RcS.all hb1 hrow ?_; (first | assumption | (exact RcS.drew (by assumption)) | (exact RcS.next (by assumption) (by assumption))))
    clear hK K hHeld
    have hHeld := hHeld2; clear hHeld2
    try simp only [Act.put, List.getElem_toArray, List.getElem_cons_succ, List.getElem_cons_zero, List.setIfInBounds_toArray, List.set_cons_zero, List.set_cons_succ]
    refine wpAnyH_take (i := 9) (v := ?v9zN) rfl (by kernel_rfl) (by kernel_rfl) (by kernel_rfl) (fun _ _ _ h => h) (Or.inl ⟨by rfl, ?hy9zN⟩) (by assumption) ?rest9zN
    case hy9zN => intro w hSw; (try dsimp only at hSw); first | (go_simp; done) | (go_simp; with_reducible rfl)
    try simp only [Act.put, List.getElem_toArray, List.getElem_cons_succ, List.getElem_cons_zero, List.setIfInBounds_toArray, List.set_cons_zero, List.set_cons_succ]
    refine wpAnyH_take (i := 10) (v := ?v10zN) rfl (by kernel_rfl) (by kernel_rfl) (by kernel_rfl) (fun _ _ _ h => h) (Or.inl ⟨by rfl, ?hy10zN⟩) (by assumption) ?rest10zN
    case hy10zN => intro w hSw; (try dsimp only at hSw); first | (go_simp; done) | (go_simp; with_reducible rfl)
    try simp only [Act.put, List.getElem_toArray, List.getElem_cons_succ, List.getElem_cons_zero, List.setIfInBounds_toArray, List.set_cons_zero, List.set_cons_succ]
    refine wpAnyH_take (i := 11) (v := ?v11zN) rfl (by kernel_rfl) (by kernel_rfl) (by kernel_rfl) (fun _ _ _ h => h) (Or.inl ⟨by rfl, ?hy11zN⟩) (by assumption) ?rest11zN
    case hy11zN => intro w hSw; (try dsimp only at hSw); first | (go_simp; done) | (go_simp; with_reducible rfl)
    try simp only [Act.put, List.getElem_toArray, List.getElem_cons_succ, List.getElem_cons_zero, List.setIfInBounds_toArray, List.set_cons_zero, List.set_cons_succ]
    refine wpAnyH_take (i := 12) (v := ?v12zN) rfl (by kernel_rfl) (by kernel_rfl) (by kernel_rfl) (fun _ _ _ h => h) (Or.inl ⟨by rfl, ?hy12zN⟩) (by assumption) ?rest12zN
    case hy12zN => intro w hSw; (try dsimp only at hSw); first | (go_simp; done) | (go_simp; with_reducible rfl)
    try simp only [Act.put, List.getElem_toArray, List.getElem_cons_succ, List.getElem_cons_zero, List.setIfInBounds_toArray, List.set_cons_zero, List.set_cons_succ]
    refine wpAnyH_take (i := 13) (v := ?v13zN) rfl (by kernel_rfl) (by kernel_rfl) (by kernel_rfl) (fun _ _ _ h => h) (Or.inl ⟨by rfl, ?hy13zN⟩) (by assumption) ?rest13zN
    case hy13zN => intro w hSw; (try dsimp only at hSw); first | (go_simp; done) | (go_simp; with_reducible rfl)
    try simp only [Act.put, List.getElem_toArray, List.getElem_cons_succ, List.getElem_cons_zero, List.setIfInBounds_toArray, List.set_cons_zero, List.set_cons_succ]
    refine wpAnyH_take (i := 14) (v := ?v14zN) rfl (by kernel_rfl) (by kernel_rfl) (by kernel_rfl) (fun _ _ _ h => h) (Or.inl ⟨by rfl, ?hy14zN⟩) (by assumption) ?rest14zN
    case hy14zN => intro w hSw; (try dsimp only at hSw); first | (go_simp; done) | (go_simp; with_reducible rfl)
    try simp only [Act.put, List.getElem_toArray, List.getElem_cons_succ, List.getElem_cons_zero, List.setIfInBounds_toArray, List.set_cons_zero, List.set_cons_succ]
    refine wpAnyH_ready (rs := [15]) (by kernel_rfl) (by simp) ?_
    refine AllReadyH.cons rfl (fun K hK => ?_) AllReadyH.nil
    go_simp
    refine (granted_r (HCF.out _ hHeld.2.2.2.2.2.below) _ _).mono ?_
    rintro e w6 ⟨rfl, hb6⟩
    go_wp2_with fail
    refine hK.out _ _ ?_ (fun hHeld2 => ?_)
    · try dsimp only
      (go_split_ands; refine RcS.all hb1 hrow ?_; (first | assumption | (exact RcS.drew (by assumption)) | (exact RcS.next (by assumption) (by assumption))))
    clear hK K hHeld
    have hHeld := hHeld2; clear hHeld2
    try simp only [Act.put, List.getElem_toArray, List.getElem_cons_succ, List.getElem_cons_zero, List.setIfInBounds_toArray, List.set_cons_zero, List.set_cons_succ]
    refine wpAnyH_take (i := 16) (v := ?v16zN) rfl (by kernel_rfl) (by kernel_rfl) (by kernel_rfl) (fun _ _ _ h => h) (Or.inl ⟨by rfl, ?hy16zN⟩) (by assumption) ?rest16zN
    case hy16zN => intro w hSw; (try dsimp only at hSw); first | (go_simp; done) | (go_simp; with_reducible rfl)
    try simp only [Act.put, List.getElem_toArray, List.getElem_cons_succ, List.getElem_cons_zero, List.setIfInBounds_toArray, List.set_cons_zero, List.set_cons_succ]
    refine wpAnyH_take (i := 17) (v := ?v17zN) rfl (by kernel_rfl) (by kernel_rfl) (by kernel_rfl) (fun _ _ _ h => h) (Or.inl ⟨by rfl, ?hy17zN⟩) (by assumption) ?rest17zN
    case hy17zN => intro w hSw; (try dsimp only at hSw); first | (go_simp; done) | (go_simp; with_reducible rfl)
    try simp only [Act.put, List.getElem_toArray, List.getElem_cons_succ, List.getElem_cons_zero, List.setIfInBounds_toArray, List.set_cons_zero, List.set_cons_succ]
    refine wpAnyH_done (by kernel_rfl) ?_ _
    all_goals
      have HS9 := Lib.hid hHeld.2.2.2.2.2
      clear hHeld
      go_wp2_with fail
      go_ret
      have hz9 := HZ9.out
      subst hz9
      exact ⟨by rw [HQ.out]; rfl, Below.down HB.out HS9.out.below HB.out.size⟩


set_option maxHeartbeats 1000000 in
theorem reaches_r {w : World} {c : Cf} {vp vd vw vg : Value} (h : CfAt w vp vd vw vg c) (part at_ n : Int) :
    Calls Try.prog 28 #[.agg #[.int .i64 c.fr, vp, vd, .int .i64 c.mj, vw, vg, .int .i64 c.se, .int .i64 c.qu, .int .i64 c.qt], .int .i64 part, .int .i64 at_, .int .i64 n, .func (.func 29) #[] #[]] w fun e w' => e = .returned (.bool (alB c part at_ n false)) ∧ Below w.heap.size w w' := by
  have b1 : Below w.heap.size w (w.alloc (.cells #[.int .i64 c.fr, vp, vd, .int .i64 c.mj, vw, vg, .int .i64 c.se, .int .i64 c.qu, .int .i64 c.qt] 27)) := (Below.refl _ _).alloc (Nat.le_refl _) _
  have b2 := b1.alloc b1.size (.cells #[.int .i64 part] 3)
  have b3 := b2.alloc b2.size (.cells #[.func (.func 29) #[] #[]] 61)
  have k0 : Blk (((w.alloc (.cells #[.int .i64 c.fr, vp, vd, .int .i64 c.mj, vw, vg, .int .i64 c.se, .int .i64 c.qu, .int .i64 c.qt] 27)).alloc (.cells #[.int .i64 part] 3)).alloc (.cells #[.func (.func 29) #[] #[]] 61)) w.heap.size 27 (cfc c vp vd vw vg) := ((Blk.new w _ (cfc c vp vd vw vg)).alloc _).alloc _
  have k1 : Blk (((w.alloc (.cells #[.int .i64 c.fr, vp, vd, .int .i64 c.mj, vw, vg, .int .i64 c.se, .int .i64 c.qu, .int .i64 c.qt] 27)).alloc (.cells #[.int .i64 part] 3)).alloc (.cells #[.func (.func 29) #[] #[]] 61)) (w.heap.size + 1) 3 [.int .i64 part] := by
    have := (Blk.new (w.alloc (.cells #[.int .i64 c.fr, vp, vd, .int .i64 c.mj, vw, vg, .int .i64 c.se, .int .i64 c.qu, .int .i64 c.qt] 27)) 3 [.int .i64 part]).alloc (.cells #[.func (.func 29) #[] #[]] 61)
    simpa using this
  have k2 : Blk (((w.alloc (.cells #[.int .i64 c.fr, vp, vd, .int .i64 c.mj, vw, vg, .int .i64 c.se, .int .i64 c.qu, .int .i64 c.qt] 27)).alloc (.cells #[.int .i64 part] 3)).alloc (.cells #[.func (.func 29) #[] #[]] 61)) (w.heap.size + 1 + 1) 61 [.func (.func 29) #[] #[]] := by
    have := Blk.new ((w.alloc (.cells #[.int .i64 c.fr, vp, vd, .int .i64 c.mj, vw, vg, .int .i64 c.se, .int .i64 c.qu, .int .i64 c.qt] 27)).alloc (.cells #[.int .i64 part] 3)) 61 [.func (.func 29) #[] #[]]
    simpa using this
  have HB := Lib.hid b3
  have H3 := Lib.hid (h.below b3)
  have K0 := Lib.hid k0; have K1 := Lib.hid k1; have K2 := Lib.hid k2
  obtain ⟨f0, f1, f2, f3, f4, f5, f6, f7, f8⟩ := cf_at k0
  have g1 := k1.cell 0
  simp only [List.getElem?_cons_zero] at g1
  have HX : Hid (alB c part at_ n false = (cfMay c && (inP c.ps.length part && (fitB at_ n (c.fr * 64) && (spl at_.toNat n.toNat).all (fun x => rcB c part x.1 false))))) := Lib.hid rfl
  clear h b1 b2 b3 k0 k1 k2
  generalize alB c part at_ n false = Q at *
  have HM := Lib.hid (fun (W : World) (hW : CfAt W vp vd vw vg c) => cmay_any hW)
  cases hm : cfMay c with
  | false =>
    have e : Q = false := by rw [HX.out, hm]; rfl
    subst e
    have HM3 := Lib.hid (HM.out _ H3.out)
    rw [hm] at HM3
    clear hm
    go_enter Try.func28, Try.ntmps28
    go_wp2_with fail
    refine HM3.out.mono ?_
    rintro e w4 ⟨rfl, b4⟩
    go_wp2_with fail
    go_ret
    exact ⟨rfl, Below.down HB.out b4 HB.out.size⟩
  | true =>
    have hF : 1 ≤ c.fr ∧ c.fr ≤ 64 := by
      unfold cfMay at hm
      rw [Bool.and_eq_true] at hm
      exact btw_iff.1 hm.1
    have hU : unB c = true := by
      unfold cfMay at hm
      simp only [Bool.and_eq_true] at hm
      exact hm.2.2.2.1
    obtain ⟨F, hFe⟩ : ∃ F : Nat, c.fr = F := ⟨c.fr.toNat, by omega⟩
    obtain ⟨F1, F2⟩ := hF
    rw [hFe] at F1 F2 f0
    have HFe := Lib.hid hFe
    have HU := Lib.hid hU
    have HM3 := Lib.hid (HM.out _ H3.out)
    rw [hm] at HM3
    have HPT := Lib.hid (fun (W : World) (hW : CfAt W vp vd vw vg c) => haspart_any hW part)
    have HX2 : Hid (Q = (inP c.ps.length part && (fitB at_ n (F * 64) && (spl at_.toNat n.toNat).all (fun x => rcB c part x.1 false)))) := Lib.hid (by rw [HX.out, hm, hFe]; rfl)
    clear hm HX hU
    rw [hFe] at HM3 HPT HB H3 K0 K1 K2 f1 f2 f3 f4 f5 f6 f7 f8 g1 ⊢
    clear hFe
    cases hi : inP c.ps.length part with
    | false =>
      have e : Q = false := by rw [HX2.out, hi]; rfl
      subst e
      rw [hi] at HPT
      clear hi
      go_enter Try.func28, Try.ntmps28
      go_wp2_with fail
      refine HM3.out.mono ?_
      rintro e w4 ⟨rfl, b4⟩
      have H4 := Lib.hid (H3.out.below b4)
      have B4 := Lib.hid (Below.down HB.out b4 HB.out.size)
      have k0 := K0.out.below b4 K0.out.lt
      have k1 := K1.out.below b4 K1.out.lt
      obtain ⟨f0, f1, f2, f3, f4, f5, f6, f7, f8⟩ := cf_at k0
      have g1 := k1.cell 0
      simp only [List.getElem?_cons_zero] at g1
      rw [HFe.out] at f0
      clear k0 k1 b4
      go_wp2_with fail
      refine (HPT.out _ H4.out).mono ?_
      rintro e w5 ⟨rfl, b5⟩
      go_wp2_with fail
      go_ret
      exact ⟨rfl, Below.down B4.out b5 B4.out.size⟩
    | true =>
      rw [hi] at HPT
      obtain ⟨p, rfl, hp⟩ := (inP_iff _ _).1 hi
      have HX3 : Hid (Q = (fitB at_ n (F * 64) && (spl at_.toNat n.toNat).all (fun x => rcB c p x.1 false))) := Lib.hid (by rw [HX2.out, hi]; rfl)
      have HP9 := Lib.hid hp
      have HMY := Lib.hid (fun (W : World) => may_any at_ n (F * 64) W (by omega))
      clear hi HX2 hp
      go_enter Try.func28, Try.ntmps28
      go_wp2_with fail
      refine HM3.out.mono ?_
      rintro e w4 ⟨rfl, b4⟩
      have H4 := Lib.hid (H3.out.below b4)
      have B4 := Lib.hid (Below.down HB.out b4 HB.out.size)
      have J0 := Lib.hid (K0.out.below b4 K0.out.lt)
      have J1 := Lib.hid (K1.out.below b4 K1.out.lt)
      have J2 := Lib.hid (K2.out.below b4 K2.out.lt)
      obtain ⟨f0, f1, f2, f3, f4, f5, f6, f7, f8⟩ := cf_at J0.out
      have g1 := J1.out.cell 0
      simp only [List.getElem?_cons_zero] at g1
      rw [HFe.out] at f0
      clear b4
      go_wp2_with fail
      refine (HPT.out _ H4.out).mono ?_
      rintro e w5 ⟨rfl, b5⟩
      have H5 := Lib.hid (H4.out.below b5)
      have B5 := Lib.hid (Below.down B4.out b5 B4.out.size)
      have I0 := Lib.hid (J0.out.below b5 J0.out.lt)
      have I1 := Lib.hid (J1.out.below b5 J1.out.lt)
      have I2 := Lib.hid (J2.out.below b5 J2.out.lt)
      have f0 := I0.out.cell 0
      have e0 : (cfc c vp vd vw vg)[0]? = some (.int .i64 (F : Int)) := by rw [← HFe.out]; rfl
      rw [e0] at f0
      clear b5 e0 f1 f2 f3 f4 f5 f6 f7 f8 g1 HM3 HPT
      go_wp2_with fail
      refine (HMY.out _).mono ?_
      rintro e w6 ⟨rfl, rfl⟩
      cases hf : fitB at_ n (F * 64) with
      | false =>
        have e : Q = false := by rw [HX3.out, hf]; rfl
        subst e
        clear hf
        go_wp2_with fail
        go_ret
        exact ⟨rfl, B5.out⟩
      | true =>
        have hf2 := of_decide_eq_true hf
        obtain ⟨r0, r1, r2, r3⟩ := hf2
        obtain ⟨a, rfl⟩ := Int.eq_ofNat_of_zero_le r0
        obtain ⟨m, rfl⟩ := Int.eq_ofNat_of_zero_le r1
        have HX4 : Hid (Q = (spl a m).all (fun x => rcB c p x.1 false)) := Lib.hid (by rw [HX3.out, hf, Bool.true_and, Int.toNat_natCast, Int.toNat_natCast])
        have HSP := Lib.hid (fun (W : World) => split_yes (a : Int) (m : Int) W (by omega) (by omega) (by omega))
        clear hf HX3 HMY
        go_wp2_with fail
        refine (HSP.out _).mono ?_
        rintro e w7 ⟨v, rfl, ho, b7⟩
        simp only [Int.toNat_natCast] at ho
        have H7 := H5.out.below b7
        have B7 := Lib.hid (Below.down B5.out b7 B5.out.size)
        have i0 := I0.out.below b7 I0.out.lt
        have i1 := I1.out.below b7 I1.out.lt
        have i2 := I2.out.below b7 I2.out.lt
        have hll := spl_len m a
        obtain ⟨A, cap, rfl, hcap, hxl, hA⟩ := Sl.own ho
        obtain ⟨b, o, hbo⟩ : ∃ b o, 0 < (spl a m).length → A = some ⟨b, o, none⟩ ∧ b < w7.heap.size ∧ ∀ j u, (flat (spl a m))[j]? = some u → w7.cell? ⟨b, o + j, none⟩ = some u := by
          by_cases h0 : 0 < (spl a m).length
          · obtain ⟨b, o, q1, q2, q3⟩ := hA h0
            exact ⟨b, o, fun _ => ⟨q1, q2, q3⟩⟩
          · exact ⟨0, 0, fun h => absurd h h0⟩
        have hE := each_Piece A b o (spl a m).length cap w.heap.size (w.heap.size + 1) (w.heap.size + 1 + 1) (fun i => .int .i64 (((spl a m).getD i (0, 0, 0)).1 : Nat)) (fun i => .int .i64 (((spl a m).getD i (0, 0, 0)).2.1 : Nat)) (fun i => .int .i64 (((spl a m).getD i (0, 0, 0)).2.2 : Nat))
          (fun i => rcB c p (((spl a m).getD i (0, 0, 0)).1 : Nat) false) nos (fun _ W => Below w7.heap.size w7 W) w7 (by unfold maxLen; omega) (fun h0 => (hbo h0).1) nos_lt
          (fun i W W' hI hW => Below.down hI hW hI.size)
          (fun i W hi hI => by
            obtain ⟨_, q2, q3⟩ := hbo (by omega)
            obtain ⟨p0, p1, p2⟩ := flat_get (spl a m) i hi
            have g := fun x => hI.cell (p := ⟨b, x, none⟩) q2
            have hgd : (spl a m).getD i (0, 0, 0) = (spl a m)[i] := by simp [List.getD, List.getElem?_eq_getElem hi]
            rw [hgd]
            refine ⟨(g _).trans (q3 _ _ p0), ?_, ?_⟩
            · have := (g _).trans (q3 _ _ p1); rw [← Nat.add_assoc] at this; exact this
            · have := (g _).trans (q3 _ _ p2); rw [← Nat.add_assoc] at this; exact this)
          (fun i W hi _ hI => by
            refine (rc1_r (H7.below hI) HU.out p HP9.out _ _ _ _ _ _ (i0.below hI i0.lt) (i1.below hI i1.lt) (i2.below hI i2.lt)).mono ?_
            rintro e w' ⟨rfl, hb⟩
            exact ⟨rfl, Below.down hI hb hI.size, Fo.of hb _⟩)
          (Below.refl _ _)
        rw [all_range (spl a m) (0, 0, 0) (fun x => rcB c p x.1 false), ← HX4.out] at hE
        have HE := Lib.hid hE
        have hlm : (spl a m).length ≤ 9223372036854775807 := by omega
        clear hE hbo hA hxl ho H7 i0 i1 i2 b7
        generalize (spl a m).length = L at *
        go_wp2_with fail
        refine HE.out.mono ?_
        rintro e w8 ⟨rfl, -, hf8⟩
        have HB8 := Lib.hid (Below.down B7.out hf8.nos B7.out.size)
        clear hf8
        go_wp2_with fail
        go_ret
        exact ⟨rfl, HB8.out⟩

theorem creads_any {w : World} {c : Cf} {vp vd vw vg : Value} (h : CfAt w vp vd vw vg c) (part at_ n : Int) :
    Calls Try.prog 11 #[.agg #[.int .i64 c.fr, vp, vd, .int .i64 c.mj, vw, vg, .int .i64 c.se, .int .i64 c.qu, .int .i64 c.qt], .int .i64 part, .int .i64 at_, .int .i64 n] w fun e w' => e = .returned (.bool (alB c part at_ n false)) ∧ Below w.heap.size w w' := by
  obtain ⟨hb, hB⟩ := cf_box w c vp vd vw vg
  have HC := Lib.hid (reaches_r (h.below hB) part at_ n)
  obtain ⟨k0, k1, k2, k3, k4, k5, k6, k7, k8⟩ := cf_at hb
  have HB := Lib.hid hB
  clear hb hB h
  go_enter Try.func11, Try.ntmps11
  go_wp2_with fail
  refine HC.out.mono ?_
  rintro e w1 ⟨rfl, b1⟩
  go_wp2_with fail
  go_ret
  exact ⟨rfl, Below.down HB.out b1 HB.out.size⟩


set_option maxHeartbeats 2000000 in
theorem rc1_w {w : World} {c : Cf} {vp vd vw vg : Value} (h : CfAt w vp vd vw vg c) (hu : unB c = true) (p : Nat) (hp : p < c.ps.length) (xf xo xl : Int) (y y1 y2 : Nat) (hy : Blk w y 27 (cfc c vp vd vw vg)) (hy1 : Blk w y1 3 [.int .i64 (p : Int)]) (hy2 : Blk w y2 61 [.func (.func 31) #[] #[]]) :
    Calls Try.prog 52 #[.agg #[.int .i64 xf, .int .i64 xo, .int .i64 xl], .pointer (some ⟨y, 0, none⟩), .pointer (some ⟨y1, 0, none⟩), .pointer (some ⟨y2, 0, none⟩)] w fun e w' => e = .returned (.bool (rcB c p xf true)) ∧ Below w.heap.size w w' := by
  have hB : Below w.heap.size w (w.alloc (.cells #[.int .i64 xf, .int .i64 xo, .int .i64 xl] 75)) := (Below.refl _ _).alloc (Nat.le_refl _) _
  have h1 := h.below hB
  have hz := h.pz.1
  have hzf := h.pz.2 p
  obtain ⟨A, cap, b, o, sv, rfl, hA, hr⟩ := h1.ps.rows
  obtain ⟨rfl, hb1⟩ := hA (by omega)
  obtain ⟨⟨-, -, hrow, -, -⟩, hsl⟩ := hr p hp
  obtain ⟨A2, c2, e2, -⟩ := hsl.below (Below.refl _ _)
  rw [e2] at hrow hsl
  have hown : rcB c p xf true = (memI (c.ps.getD p paD).fr xf || c.gs.any (cgB xf p true)) := by
    unfold memI
    rw [own_part hu p xf hp]; rfl
  have hS : RcS (w.alloc (.cells #[.int .i64 xf, .int .i64 xo, .int .i64 xl] 75)) c (.slice (some ⟨b, o, none⟩) c.ps.length cap) vd vw vg y y1 y2 w.heap.size (p : Int) (.func (.func 31) #[] #[]) xf xo xl (w.alloc (.cells #[.int .i64 xf, .int .i64 xo, .int .i64 xl] 75)) :=
    ⟨hy.alloc _, hy1.alloc _, hy2.alloc _, Blk.new _ _ _, Below.refl _ _⟩
  have HCT := Lib.hid (fun (W : World) (hW : Below (w.alloc (.cells #[.int .i64 xf, .int .i64 xo, .int .i64 xl] 75)).heap.size (w.alloc (.cells #[.int .i64 xf, .int .i64 xo, .int .i64 xl] 75)) W) => contains_any _ _ xf W (hsl.below hW) (by unfold maxLen; omega))
  have HCF := Lib.hid (fun (W : World) (hW : Below (w.alloc (.cells #[.int .i64 xf, .int .i64 xo, .int .i64 xl] 75)).heap.size (w.alloc (.cells #[.int .i64 xf, .int .i64 xo, .int .i64 xl] 75)) W) => h1.below hW)
  have HB := Lib.hid hB; have HX := Lib.hid hown
  clear h h1 hA hr hsl hB hu hy hy1 hy2 e2 hown
  generalize rcB c p xf true = Q at *
  generalize (c.ps.getD p paD).fr = fr at *
  generalize fr.length = m2 at *
  generalize c.ps.length = m at *
  have hpi : (p : Int) < (m : Int) := by omega
  have hzf2 : m2 ≤ 9223372036854775807 := by omega
  clear hzf
  go_enter Try.func52, Try.ntmps52
  go_wp2_with fail
  generalize w.alloc (.cells #[.int .i64 xf, .int .i64 xo, .int .i64 xl] 75) = w1 at *
  generalize hz9 : w.heap.size = z at *
  have HZ9 := Lib.hid hz9
  obtain ⟨⟨k0, k1, k2, k3, k4, k5, k6, k7, k8⟩, c0, c1, c2', c3, hS'⟩ := hS.all hb1 hrow
  clear hz9
  cases hm : memI fr xf with
  | true =>
    have HM := Lib.hid hm
    have HQ : Hid (Ending.returned (.bool true) = Ending.returned (.bool Q)) := Lib.hid (by rw [HX.out, hm]; rfl)
    clear hm
    refine wp_region_held_drew (S := (fun w' => (w'.cell? ⟨y, 0, none⟩ = some (.int .i64 c.fr) ∧ w'.cell? ⟨y, 1, none⟩ = some (.slice (some ⟨b, o, none⟩) m cap) ∧ w'.cell? ⟨y, 2, none⟩ = some vd ∧ w'.cell? ⟨y, 3, none⟩ = some (.int .i64 c.mj) ∧ w'.cell? ⟨y, 4, none⟩ = some vw ∧ w'.cell? ⟨y, 5, none⟩ = some vg ∧ w'.cell? ⟨y, 6, none⟩ = some (.int .i64 c.se) ∧ w'.cell? ⟨y, 7, none⟩ = some (.int .i64 c.qu) ∧ w'.cell? ⟨y, 8, none⟩ = some (.int .i64 c.qt)) ∧ w'.cell? ⟨y1, 0, none⟩ = some (.int .i64 (p : Int)) ∧ w'.cell? ⟨y2, 0, none⟩ = some (.func (.func 31) #[] #[]) ∧ w'.cell? ⟨z, 0, none⟩ = some (.int .i64 xf) ∧ w'.cell? ⟨b, o + p * 5 + 2, none⟩ = some (.slice A2 m2 c2) ∧ RcS w1 c (.slice (some ⟨b, o, none⟩) m cap) vd vw vg y y1 y2 z (p : Int) (.func (.func 31) #[] #[]) xf xo xl w')) (by kernel_rfl) ?_ (fun hHeld => ?_)
    · try dsimp only
      (go_split_ands; refine RcS.all hb1 hrow ?_; (first | assumption | (exact RcS.drew (by assumption)) | (exact RcS.next (by assumption) (by assumption))))
    refine wpAnyH_take (i := 0) (v := ?v0zY) rfl (by kernel_rfl) (by kernel_rfl) (by kernel_rfl) (fun _ _ _ h => h) (Or.inl ⟨by rfl, ?hy0zY⟩) (by assumption) ?rest0zY
    case hy0zY => intro w hSw; (try dsimp only at hSw); first | (go_simp; done) | (go_simp; with_reducible rfl)
    try simp only [Act.put, List.getElem_toArray, List.getElem_cons_succ, List.getElem_cons_zero, List.setIfInBounds_toArray, List.set_cons_zero, List.set_cons_succ]
    refine wpAnyH_take (i := 1) (v := ?v1zY) rfl (by kernel_rfl) (by kernel_rfl) (by kernel_rfl) (fun _ _ _ h => h) (Or.inl ⟨by rfl, ?hy1zY⟩) (by assumption) ?rest1zY
    case hy1zY => intro w hSw; (try dsimp only at hSw); first | (go_simp; done) | (go_simp; with_reducible rfl)
    try simp only [Act.put, List.getElem_toArray, List.getElem_cons_succ, List.getElem_cons_zero, List.setIfInBounds_toArray, List.set_cons_zero, List.set_cons_succ]
    refine wpAnyH_take (i := 2) (v := ?v2zY) rfl (by kernel_rfl) (by kernel_rfl) (by kernel_rfl) (fun _ _ _ h => h) (Or.inl ⟨by rfl, ?hy2zY⟩) (by assumption) ?rest2zY
    case hy2zY => intro w hSw; (try dsimp only at hSw); first | (go_simp; done) | (go_simp; with_reducible rfl)
    try simp only [Act.put, List.getElem_toArray, List.getElem_cons_succ, List.getElem_cons_zero, List.setIfInBounds_toArray, List.set_cons_zero, List.set_cons_succ]
    refine wpAnyH_take (i := 3) (v := ?v3zY) rfl (by kernel_rfl) (by kernel_rfl) (by kernel_rfl) (fun _ _ _ h => h) (Or.inl ⟨by rfl, ?hy3zY⟩) (by assumption) ?rest3zY
    case hy3zY => intro w hSw; (try dsimp only at hSw); first | (go_simp; done) | (go_simp; with_reducible rfl)
    try simp only [Act.put, List.getElem_toArray, List.getElem_cons_succ, List.getElem_cons_zero, List.setIfInBounds_toArray, List.set_cons_zero, List.set_cons_succ]
    refine wpAnyH_take (i := 4) (v := ?v4zY) rfl (by kernel_rfl) (by kernel_rfl) (by kernel_rfl) (fun _ _ _ h => h) (Or.inl ⟨by rfl, ?hy4zY⟩) (by assumption) ?rest4zY
    case hy4zY => intro w hSw; (try dsimp only at hSw); first | (go_simp; done) | (go_simp; with_reducible rfl)
    try simp only [Act.put, List.getElem_toArray, List.getElem_cons_succ, List.getElem_cons_zero, List.setIfInBounds_toArray, List.set_cons_zero, List.set_cons_succ]
    refine wpAnyH_take (i := 5) (v := ?v5zY) rfl (by kernel_rfl) (by kernel_rfl) (by kernel_rfl) (fun _ _ _ h => h) (Or.inl ⟨by rfl, ?hy5zY⟩) (by assumption) ?rest5zY
    case hy5zY => intro w hSw; (try dsimp only at hSw); first | (go_simp; done) | (go_simp; with_reducible rfl)
    try simp only [Act.put, List.getElem_toArray, List.getElem_cons_succ, List.getElem_cons_zero, List.setIfInBounds_toArray, List.set_cons_zero, List.set_cons_succ]
    refine wpAnyH_take (i := 6) (v := ?v6zY) rfl (by kernel_rfl) (by kernel_rfl) (by kernel_rfl) (fun _ _ _ h => h) (Or.inl ⟨by rfl, ?hy6zY⟩) (by assumption) ?rest6zY
    case hy6zY => intro w hSw; (try dsimp only at hSw); first | (go_simp; done) | (go_simp; with_reducible rfl)
    try simp only [Act.put, List.getElem_toArray, List.getElem_cons_succ, List.getElem_cons_zero, List.setIfInBounds_toArray, List.set_cons_zero, List.set_cons_succ]
    refine wpAnyH_take (i := 7) (v := ?v7zY) rfl (by kernel_rfl) (by kernel_rfl) (by kernel_rfl) (fun _ _ _ h => h) (Or.inl ⟨by rfl, ?hy7zY⟩) (by assumption) ?rest7zY
    case hy7zY => intro w hSw; (try dsimp only at hSw); first | (go_simp; done) | (go_simp; with_reducible rfl)
    try simp only [Act.put, List.getElem_toArray, List.getElem_cons_succ, List.getElem_cons_zero, List.setIfInBounds_toArray, List.set_cons_zero, List.set_cons_succ]
    refine wpAnyH_ready (rs := [8]) (by kernel_rfl) (by simp) ?_
    refine AllReadyH.cons rfl (fun K hK => ?_) AllReadyH.nil
    go_simp
    refine (HCT.out _ hHeld.2.2.2.2.2.below).mono ?_
    rintro e w5 ⟨rfl, hw5⟩
    subst hw5
    rw [HM.out]
    go_wp2_with fail
    refine hK.out _ _ ?_ (fun hHeld2 => ?_)
    · try dsimp only
      (go_split_ands; refine RcS.all hb1 hrow ?_; (first | assumption | (exact RcS.drew (by assumption)) | (exact RcS.next (by assumption) (by assumption))))
    clear hK K hHeld
    have hHeld := hHeld2; clear hHeld2
    try simp only [Act.put, List.getElem_toArray, List.getElem_cons_succ, List.getElem_cons_zero, List.setIfInBounds_toArray, List.set_cons_zero, List.set_cons_succ]
    refine wpAnyH_take (i := 9) (v := ?v9zY) rfl (by kernel_rfl) (by kernel_rfl) (by kernel_rfl) (fun _ _ _ h => h) (Or.inl ⟨by rfl, ?hy9zY⟩) (by assumption) ?rest9zY
    case hy9zY => intro w hSw; (try dsimp only at hSw); first | (go_simp; done) | (go_simp; with_reducible rfl)
    try simp only [Act.put, List.getElem_toArray, List.getElem_cons_succ, List.getElem_cons_zero, List.setIfInBounds_toArray, List.set_cons_zero, List.set_cons_succ]
    refine wpAnyH_take (i := 10) (v := undef) rfl (by kernel_rfl) (by kernel_rfl) (by kernel_rfl) (fun _ _ _ h => h) (Or.inr ⟨by rfl, rfl⟩) (by assumption) ?rest10zY
    try simp only [Act.put, List.getElem_toArray, List.getElem_cons_succ, List.getElem_cons_zero, List.setIfInBounds_toArray, List.set_cons_zero, List.set_cons_succ]
    refine wpAnyH_take (i := 11) (v := undef) rfl (by kernel_rfl) (by kernel_rfl) (by kernel_rfl) (fun _ _ _ h => h) (Or.inr ⟨by rfl, rfl⟩) (by assumption) ?rest11zY
    try simp only [Act.put, List.getElem_toArray, List.getElem_cons_succ, List.getElem_cons_zero, List.setIfInBounds_toArray, List.set_cons_zero, List.set_cons_succ]
    refine wpAnyH_take (i := 12) (v := undef) rfl (by kernel_rfl) (by kernel_rfl) (by kernel_rfl) (fun _ _ _ h => h) (Or.inr ⟨by rfl, rfl⟩) (by assumption) ?rest12zY
    try simp only [Act.put, List.getElem_toArray, List.getElem_cons_succ, List.getElem_cons_zero, List.setIfInBounds_toArray, List.set_cons_zero, List.set_cons_succ]
    refine wpAnyH_take (i := 13) (v := undef) rfl (by kernel_rfl) (by kernel_rfl) (by kernel_rfl) (fun _ _ _ h => h) (Or.inr ⟨by rfl, rfl⟩) (by assumption) ?rest13zY
    try simp only [Act.put, List.getElem_toArray, List.getElem_cons_succ, List.getElem_cons_zero, List.setIfInBounds_toArray, List.set_cons_zero, List.set_cons_succ]
    refine wpAnyH_take (i := 14) (v := undef) rfl (by kernel_rfl) (by kernel_rfl) (by kernel_rfl) (fun _ _ _ h => h) (Or.inr ⟨by rfl, rfl⟩) (by assumption) ?rest14zY
    try simp only [Act.put, List.getElem_toArray, List.getElem_cons_succ, List.getElem_cons_zero, List.setIfInBounds_toArray, List.set_cons_zero, List.set_cons_succ]
    refine wpAnyH_take (i := 15) (v := undef) rfl (by kernel_rfl) (by kernel_rfl) (by kernel_rfl) (fun _ _ _ h => h) (Or.inr ⟨by rfl, rfl⟩) (by assumption) ?rest15zY
    try simp only [Act.put, List.getElem_toArray, List.getElem_cons_succ, List.getElem_cons_zero, List.setIfInBounds_toArray, List.set_cons_zero, List.set_cons_succ]
    refine wpAnyH_take (i := 16) (v := ?v16zY) rfl (by kernel_rfl) (by kernel_rfl) (by kernel_rfl) (fun _ _ _ h => h) (Or.inl ⟨by rfl, ?hy16zY⟩) (by assumption) ?rest16zY
    case hy16zY => intro w hSw; (try dsimp only at hSw); first | (go_simp; done) | (go_simp; with_reducible rfl)
    try simp only [Act.put, List.getElem_toArray, List.getElem_cons_succ, List.getElem_cons_zero, List.setIfInBounds_toArray, List.set_cons_zero, List.set_cons_succ]
    refine wpAnyH_take (i := 17) (v := ?v17zY) rfl (by kernel_rfl) (by kernel_rfl) (by kernel_rfl) (fun _ _ _ h => h) (Or.inl ⟨by rfl, ?hy17zY⟩) (by assumption) ?rest17zY
    case hy17zY => intro w hSw; (try dsimp only at hSw); first | (go_simp; done) | (go_simp; with_reducible rfl)
    try simp only [Act.put, List.getElem_toArray, List.getElem_cons_succ, List.getElem_cons_zero, List.setIfInBounds_toArray, List.set_cons_zero, List.set_cons_succ]
    refine wpAnyH_done (by kernel_rfl) ?_ _
    all_goals
      have HS9 := Lib.hid hHeld.2.2.2.2.2
      clear hHeld
      go_wp2_with fail
      go_ret
      have hz9 := HZ9.out
      subst hz9
      exact ⟨HQ.out, Below.down HB.out HS9.out.below HB.out.size⟩
  | false =>
    have HM := Lib.hid hm
    have HQ : Hid (Q = c.gs.any (cgB xf p true)) := Lib.hid (by rw [HX.out, hm]; rfl)
    clear hm
    refine wp_region_held_drew (S := (fun w' => (w'.cell? ⟨y, 0, none⟩ = some (.int .i64 c.fr) ∧ w'.cell? ⟨y, 1, none⟩ = some (.slice (some ⟨b, o, none⟩) m cap) ∧ w'.cell? ⟨y, 2, none⟩ = some vd ∧ w'.cell? ⟨y, 3, none⟩ = some (.int .i64 c.mj) ∧ w'.cell? ⟨y, 4, none⟩ = some vw ∧ w'.cell? ⟨y, 5, none⟩ = some vg ∧ w'.cell? ⟨y, 6, none⟩ = some (.int .i64 c.se) ∧ w'.cell? ⟨y, 7, none⟩ = some (.int .i64 c.qu) ∧ w'.cell? ⟨y, 8, none⟩ = some (.int .i64 c.qt)) ∧ w'.cell? ⟨y1, 0, none⟩ = some (.int .i64 (p : Int)) ∧ w'.cell? ⟨y2, 0, none⟩ = some (.func (.func 31) #[] #[]) ∧ w'.cell? ⟨z, 0, none⟩ = some (.int .i64 xf) ∧ w'.cell? ⟨b, o + p * 5 + 2, none⟩ = some (.slice A2 m2 c2) ∧ RcS w1 c (.slice (some ⟨b, o, none⟩) m cap) vd vw vg y y1 y2 z (p : Int) (.func (.func 31) #[] #[]) xf xo xl w')) (by kernel_rfl) ?_ (fun hHeld => ?_)
    · try dsimp only
      (go_split_ands; refine RcS.all hb1 hrow ?_; (first | assumption | (exact RcS.drew (by assumption)) | (exact RcS.next (by assumption) (by assumption))))
    refine wpAnyH_take (i := 0) (v := ?v0zN) rfl (by kernel_rfl) (by kernel_rfl) (by kernel_rfl) (fun _ _ _ h => h) (Or.inl ⟨by rfl, ?hy0zN⟩) (by assumption) ?rest0zN
    case hy0zN => intro w hSw; (try dsimp only at hSw); first | (go_simp; done) | (go_simp; with_reducible rfl)
    try simp only [Act.put, List.getElem_toArray, List.getElem_cons_succ, List.getElem_cons_zero, List.setIfInBounds_toArray, List.set_cons_zero, List.set_cons_succ]
    refine wpAnyH_take (i := 1) (v := ?v1zN) rfl (by kernel_rfl) (by kernel_rfl) (by kernel_rfl) (fun _ _ _ h => h) (Or.inl ⟨by rfl, ?hy1zN⟩) (by assumption) ?rest1zN
    case hy1zN => intro w hSw; (try dsimp only at hSw); first | (go_simp; done) | (go_simp; with_reducible rfl)
    try simp only [Act.put, List.getElem_toArray, List.getElem_cons_succ, List.getElem_cons_zero, List.setIfInBounds_toArray, List.set_cons_zero, List.set_cons_succ]
    refine wpAnyH_take (i := 2) (v := ?v2zN) rfl (by kernel_rfl) (by kernel_rfl) (by kernel_rfl) (fun _ _ _ h => h) (Or.inl ⟨by rfl, ?hy2zN⟩) (by assumption) ?rest2zN
    case hy2zN => intro w hSw; (try dsimp only at hSw); first | (go_simp; done) | (go_simp; with_reducible rfl)
    try simp only [Act.put, List.getElem_toArray, List.getElem_cons_succ, List.getElem_cons_zero, List.setIfInBounds_toArray, List.set_cons_zero, List.set_cons_succ]
    refine wpAnyH_take (i := 3) (v := ?v3zN) rfl (by kernel_rfl) (by kernel_rfl) (by kernel_rfl) (fun _ _ _ h => h) (Or.inl ⟨by rfl, ?hy3zN⟩) (by assumption) ?rest3zN
    case hy3zN => intro w hSw; (try dsimp only at hSw); first | (go_simp; done) | (go_simp; with_reducible rfl)
    try simp only [Act.put, List.getElem_toArray, List.getElem_cons_succ, List.getElem_cons_zero, List.setIfInBounds_toArray, List.set_cons_zero, List.set_cons_succ]
    refine wpAnyH_take (i := 4) (v := ?v4zN) rfl (by kernel_rfl) (by kernel_rfl) (by kernel_rfl) (fun _ _ _ h => h) (Or.inl ⟨by rfl, ?hy4zN⟩) (by assumption) ?rest4zN
    case hy4zN => intro w hSw; (try dsimp only at hSw); first | (go_simp; done) | (go_simp; with_reducible rfl)
    try simp only [Act.put, List.getElem_toArray, List.getElem_cons_succ, List.getElem_cons_zero, List.setIfInBounds_toArray, List.set_cons_zero, List.set_cons_succ]
    refine wpAnyH_take (i := 5) (v := ?v5zN) rfl (by kernel_rfl) (by kernel_rfl) (by kernel_rfl) (fun _ _ _ h => h) (Or.inl ⟨by rfl, ?hy5zN⟩) (by assumption) ?rest5zN
    case hy5zN => intro w hSw; (try dsimp only at hSw); first | (go_simp; done) | (go_simp; with_reducible rfl)
    try simp only [Act.put, List.getElem_toArray, List.getElem_cons_succ, List.getElem_cons_zero, List.setIfInBounds_toArray, List.set_cons_zero, List.set_cons_succ]
    refine wpAnyH_take (i := 6) (v := ?v6zN) rfl (by kernel_rfl) (by kernel_rfl) (by kernel_rfl) (fun _ _ _ h => h) (Or.inl ⟨by rfl, ?hy6zN⟩) (by assumption) ?rest6zN
    case hy6zN => intro w hSw; (try dsimp only at hSw); first | (go_simp; done) | (go_simp; with_reducible rfl)
    try simp only [Act.put, List.getElem_toArray, List.getElem_cons_succ, List.getElem_cons_zero, List.setIfInBounds_toArray, List.set_cons_zero, List.set_cons_succ]
    refine wpAnyH_take (i := 7) (v := ?v7zN) rfl (by kernel_rfl) (by kernel_rfl) (by kernel_rfl) (fun _ _ _ h => h) (Or.inl ⟨by rfl, ?hy7zN⟩) (by assumption) ?rest7zN
    case hy7zN => intro w hSw; (try dsimp only at hSw); first | (go_simp; done) | (go_simp; with_reducible rfl)
    try simp only [Act.put, List.getElem_toArray, List.getElem_cons_succ, List.getElem_cons_zero, List.setIfInBounds_toArray, List.set_cons_zero, List.set_cons_succ]
    refine wpAnyH_ready (rs := [8]) (by kernel_rfl) (by simp) ?_
    refine AllReadyH.cons rfl (fun K hK => ?_) AllReadyH.nil
    go_simp
    refine (HCT.out _ hHeld.2.2.2.2.2.below).mono ?_
    rintro e w5 ⟨rfl, hw5⟩
    subst hw5
    rw [HM.out]
    go_wp2_with fail
    refine hK.out _ _ ?_ (fun hHeld2 => ?_)
    · try dsimp only
      (go_split_ands; refine RcS.all hb1 hrow ?_; (first | assumption | (exact RcS.drew (by assumption)) | (exact RcS.next (by assumption) (by assumption))))
    clear hK K hHeld
    have hHeld := hHeld2; clear hHeld2
    try simp only [Act.put, List.getElem_toArray, List.getElem_cons_succ, List.getElem_cons_zero, List.setIfInBounds_toArray, List.set_cons_zero, List.set_cons_succ]
    refine wpAnyH_take (i := 9) (v := ?v9zN) rfl (by kernel_rfl) (by kernel_rfl) (by kernel_rfl) (fun _ _ _ h => h) (Or.inl ⟨by rfl, ?hy9zN⟩) (by assumption) ?rest9zN
    case hy9zN => intro w hSw; (try dsimp only at hSw); first | (go_simp; done) | (go_simp; with_reducible rfl)
    try simp only [Act.put, List.getElem_toArray, List.getElem_cons_succ, List.getElem_cons_zero, List.setIfInBounds_toArray, List.set_cons_zero, List.set_cons_succ]
    refine wpAnyH_take (i := 10) (v := ?v10zN) rfl (by kernel_rfl) (by kernel_rfl) (by kernel_rfl) (fun _ _ _ h => h) (Or.inl ⟨by rfl, ?hy10zN⟩) (by assumption) ?rest10zN
    case hy10zN => intro w hSw; (try dsimp only at hSw); first | (go_simp; done) | (go_simp; with_reducible rfl)
    try simp only [Act.put, List.getElem_toArray, List.getElem_cons_succ, List.getElem_cons_zero, List.setIfInBounds_toArray, List.set_cons_zero, List.set_cons_succ]
    refine wpAnyH_take (i := 11) (v := ?v11zN) rfl (by kernel_rfl) (by kernel_rfl) (by kernel_rfl) (fun _ _ _ h => h) (Or.inl ⟨by rfl, ?hy11zN⟩) (by assumption) ?rest11zN
    case hy11zN => intro w hSw; (try dsimp only at hSw); first | (go_simp; done) | (go_simp; with_reducible rfl)
    try simp only [Act.put, List.getElem_toArray, List.getElem_cons_succ, List.getElem_cons_zero, List.setIfInBounds_toArray, List.set_cons_zero, List.set_cons_succ]
    refine wpAnyH_take (i := 12) (v := ?v12zN) rfl (by kernel_rfl) (by kernel_rfl) (by kernel_rfl) (fun _ _ _ h => h) (Or.inl ⟨by rfl, ?hy12zN⟩) (by assumption) ?rest12zN
    case hy12zN => intro w hSw; (try dsimp only at hSw); first | (go_simp; done) | (go_simp; with_reducible rfl)
    try simp only [Act.put, List.getElem_toArray, List.getElem_cons_succ, List.getElem_cons_zero, List.setIfInBounds_toArray, List.set_cons_zero, List.set_cons_succ]
    refine wpAnyH_take (i := 13) (v := ?v13zN) rfl (by kernel_rfl) (by kernel_rfl) (by kernel_rfl) (fun _ _ _ h => h) (Or.inl ⟨by rfl, ?hy13zN⟩) (by assumption) ?rest13zN
    case hy13zN => intro w hSw; (try dsimp only at hSw); first | (go_simp; done) | (go_simp; with_reducible rfl)
    try simp only [Act.put, List.getElem_toArray, List.getElem_cons_succ, List.getElem_cons_zero, List.setIfInBounds_toArray, List.set_cons_zero, List.set_cons_succ]
    refine wpAnyH_take (i := 14) (v := ?v14zN) rfl (by kernel_rfl) (by kernel_rfl) (by kernel_rfl) (fun _ _ _ h => h) (Or.inl ⟨by rfl, ?hy14zN⟩) (by assumption) ?rest14zN
    case hy14zN => intro w hSw; (try dsimp only at hSw); first | (go_simp; done) | (go_simp; with_reducible rfl)
    try simp only [Act.put, List.getElem_toArray, List.getElem_cons_succ, List.getElem_cons_zero, List.setIfInBounds_toArray, List.set_cons_zero, List.set_cons_succ]
    refine wpAnyH_ready (rs := [15]) (by kernel_rfl) (by simp) ?_
    refine AllReadyH.cons rfl (fun K hK => ?_) AllReadyH.nil
    go_simp
    refine (granted_w (HCF.out _ hHeld.2.2.2.2.2.below) _ _).mono ?_
    rintro e w6 ⟨rfl, hb6⟩
    go_wp2_with fail
    refine hK.out _ _ ?_ (fun hHeld2 => ?_)
    · try dsimp only
      (go_split_ands; refine RcS.all hb1 hrow ?_; (first | assumption | (exact RcS.drew (by assumption)) | (exact RcS.next (by assumption) (by assumption))))
    clear hK K hHeld
    have hHeld := hHeld2; clear hHeld2
    try simp only [Act.put, List.getElem_toArray, List.getElem_cons_succ, List.getElem_cons_zero, List.setIfInBounds_toArray, List.set_cons_zero, List.set_cons_succ]
    refine wpAnyH_take (i := 16) (v := ?v16zN) rfl (by kernel_rfl) (by kernel_rfl) (by kernel_rfl) (fun _ _ _ h => h) (Or.inl ⟨by rfl, ?hy16zN⟩) (by assumption) ?rest16zN
    case hy16zN => intro w hSw; (try dsimp only at hSw); first | (go_simp; done) | (go_simp; with_reducible rfl)
    try simp only [Act.put, List.getElem_toArray, List.getElem_cons_succ, List.getElem_cons_zero, List.setIfInBounds_toArray, List.set_cons_zero, List.set_cons_succ]
    refine wpAnyH_take (i := 17) (v := ?v17zN) rfl (by kernel_rfl) (by kernel_rfl) (by kernel_rfl) (fun _ _ _ h => h) (Or.inl ⟨by rfl, ?hy17zN⟩) (by assumption) ?rest17zN
    case hy17zN => intro w hSw; (try dsimp only at hSw); first | (go_simp; done) | (go_simp; with_reducible rfl)
    try simp only [Act.put, List.getElem_toArray, List.getElem_cons_succ, List.getElem_cons_zero, List.setIfInBounds_toArray, List.set_cons_zero, List.set_cons_succ]
    refine wpAnyH_done (by kernel_rfl) ?_ _
    all_goals
      have HS9 := Lib.hid hHeld.2.2.2.2.2
      clear hHeld
      go_wp2_with fail
      go_ret
      have hz9 := HZ9.out
      subst hz9
      exact ⟨by rw [HQ.out]; rfl, Below.down HB.out HS9.out.below HB.out.size⟩


set_option maxHeartbeats 1000000 in
theorem reaches_w {w : World} {c : Cf} {vp vd vw vg : Value} (h : CfAt w vp vd vw vg c) (part at_ n : Int) :
    Calls Try.prog 28 #[.agg #[.int .i64 c.fr, vp, vd, .int .i64 c.mj, vw, vg, .int .i64 c.se, .int .i64 c.qu, .int .i64 c.qt], .int .i64 part, .int .i64 at_, .int .i64 n, .func (.func 31) #[] #[]] w fun e w' => e = .returned (.bool (alB c part at_ n true)) ∧ Below w.heap.size w w' := by
  have b1 : Below w.heap.size w (w.alloc (.cells #[.int .i64 c.fr, vp, vd, .int .i64 c.mj, vw, vg, .int .i64 c.se, .int .i64 c.qu, .int .i64 c.qt] 27)) := (Below.refl _ _).alloc (Nat.le_refl _) _
  have b2 := b1.alloc b1.size (.cells #[.int .i64 part] 3)
  have b3 := b2.alloc b2.size (.cells #[.func (.func 31) #[] #[]] 61)
  have k0 : Blk (((w.alloc (.cells #[.int .i64 c.fr, vp, vd, .int .i64 c.mj, vw, vg, .int .i64 c.se, .int .i64 c.qu, .int .i64 c.qt] 27)).alloc (.cells #[.int .i64 part] 3)).alloc (.cells #[.func (.func 31) #[] #[]] 61)) w.heap.size 27 (cfc c vp vd vw vg) := ((Blk.new w _ (cfc c vp vd vw vg)).alloc _).alloc _
  have k1 : Blk (((w.alloc (.cells #[.int .i64 c.fr, vp, vd, .int .i64 c.mj, vw, vg, .int .i64 c.se, .int .i64 c.qu, .int .i64 c.qt] 27)).alloc (.cells #[.int .i64 part] 3)).alloc (.cells #[.func (.func 31) #[] #[]] 61)) (w.heap.size + 1) 3 [.int .i64 part] := by
    have := (Blk.new (w.alloc (.cells #[.int .i64 c.fr, vp, vd, .int .i64 c.mj, vw, vg, .int .i64 c.se, .int .i64 c.qu, .int .i64 c.qt] 27)) 3 [.int .i64 part]).alloc (.cells #[.func (.func 31) #[] #[]] 61)
    simpa using this
  have k2 : Blk (((w.alloc (.cells #[.int .i64 c.fr, vp, vd, .int .i64 c.mj, vw, vg, .int .i64 c.se, .int .i64 c.qu, .int .i64 c.qt] 27)).alloc (.cells #[.int .i64 part] 3)).alloc (.cells #[.func (.func 31) #[] #[]] 61)) (w.heap.size + 1 + 1) 61 [.func (.func 31) #[] #[]] := by
    have := Blk.new ((w.alloc (.cells #[.int .i64 c.fr, vp, vd, .int .i64 c.mj, vw, vg, .int .i64 c.se, .int .i64 c.qu, .int .i64 c.qt] 27)).alloc (.cells #[.int .i64 part] 3)) 61 [.func (.func 31) #[] #[]]
    simpa using this
  have HB := Lib.hid b3
  have H3 := Lib.hid (h.below b3)
  have K0 := Lib.hid k0; have K1 := Lib.hid k1; have K2 := Lib.hid k2
  obtain ⟨f0, f1, f2, f3, f4, f5, f6, f7, f8⟩ := cf_at k0
  have g1 := k1.cell 0
  simp only [List.getElem?_cons_zero] at g1
  have HX : Hid (alB c part at_ n true = (cfMay c && (inP c.ps.length part && (fitB at_ n (c.fr * 64) && (spl at_.toNat n.toNat).all (fun x => rcB c part x.1 true))))) := Lib.hid rfl
  clear h b1 b2 b3 k0 k1 k2
  generalize alB c part at_ n true = Q at *
  have HM := Lib.hid (fun (W : World) (hW : CfAt W vp vd vw vg c) => cmay_any hW)
  cases hm : cfMay c with
  | false =>
    have e : Q = false := by rw [HX.out, hm]; rfl
    subst e
    have HM3 := Lib.hid (HM.out _ H3.out)
    rw [hm] at HM3
    clear hm
    go_enter Try.func28, Try.ntmps28
    go_wp2_with fail
    refine HM3.out.mono ?_
    rintro e w4 ⟨rfl, b4⟩
    go_wp2_with fail
    go_ret
    exact ⟨rfl, Below.down HB.out b4 HB.out.size⟩
  | true =>
    have hF : 1 ≤ c.fr ∧ c.fr ≤ 64 := by
      unfold cfMay at hm
      rw [Bool.and_eq_true] at hm
      exact btw_iff.1 hm.1
    have hU : unB c = true := by
      unfold cfMay at hm
      simp only [Bool.and_eq_true] at hm
      exact hm.2.2.2.1
    obtain ⟨F, hFe⟩ : ∃ F : Nat, c.fr = F := ⟨c.fr.toNat, by omega⟩
    obtain ⟨F1, F2⟩ := hF
    rw [hFe] at F1 F2 f0
    have HFe := Lib.hid hFe
    have HU := Lib.hid hU
    have HM3 := Lib.hid (HM.out _ H3.out)
    rw [hm] at HM3
    have HPT := Lib.hid (fun (W : World) (hW : CfAt W vp vd vw vg c) => haspart_any hW part)
    have HX2 : Hid (Q = (inP c.ps.length part && (fitB at_ n (F * 64) && (spl at_.toNat n.toNat).all (fun x => rcB c part x.1 true)))) := Lib.hid (by rw [HX.out, hm, hFe]; rfl)
    clear hm HX hU
    rw [hFe] at HM3 HPT HB H3 K0 K1 K2 f1 f2 f3 f4 f5 f6 f7 f8 g1 ⊢
    clear hFe
    cases hi : inP c.ps.length part with
    | false =>
      have e : Q = false := by rw [HX2.out, hi]; rfl
      subst e
      rw [hi] at HPT
      clear hi
      go_enter Try.func28, Try.ntmps28
      go_wp2_with fail
      refine HM3.out.mono ?_
      rintro e w4 ⟨rfl, b4⟩
      have H4 := Lib.hid (H3.out.below b4)
      have B4 := Lib.hid (Below.down HB.out b4 HB.out.size)
      have k0 := K0.out.below b4 K0.out.lt
      have k1 := K1.out.below b4 K1.out.lt
      obtain ⟨f0, f1, f2, f3, f4, f5, f6, f7, f8⟩ := cf_at k0
      have g1 := k1.cell 0
      simp only [List.getElem?_cons_zero] at g1
      rw [HFe.out] at f0
      clear k0 k1 b4
      go_wp2_with fail
      refine (HPT.out _ H4.out).mono ?_
      rintro e w5 ⟨rfl, b5⟩
      go_wp2_with fail
      go_ret
      exact ⟨rfl, Below.down B4.out b5 B4.out.size⟩
    | true =>
      rw [hi] at HPT
      obtain ⟨p, rfl, hp⟩ := (inP_iff _ _).1 hi
      have HX3 : Hid (Q = (fitB at_ n (F * 64) && (spl at_.toNat n.toNat).all (fun x => rcB c p x.1 true))) := Lib.hid (by rw [HX2.out, hi]; rfl)
      have HP9 := Lib.hid hp
      have HMY := Lib.hid (fun (W : World) => may_any at_ n (F * 64) W (by omega))
      clear hi HX2 hp
      go_enter Try.func28, Try.ntmps28
      go_wp2_with fail
      refine HM3.out.mono ?_
      rintro e w4 ⟨rfl, b4⟩
      have H4 := Lib.hid (H3.out.below b4)
      have B4 := Lib.hid (Below.down HB.out b4 HB.out.size)
      have J0 := Lib.hid (K0.out.below b4 K0.out.lt)
      have J1 := Lib.hid (K1.out.below b4 K1.out.lt)
      have J2 := Lib.hid (K2.out.below b4 K2.out.lt)
      obtain ⟨f0, f1, f2, f3, f4, f5, f6, f7, f8⟩ := cf_at J0.out
      have g1 := J1.out.cell 0
      simp only [List.getElem?_cons_zero] at g1
      rw [HFe.out] at f0
      clear b4
      go_wp2_with fail
      refine (HPT.out _ H4.out).mono ?_
      rintro e w5 ⟨rfl, b5⟩
      have H5 := Lib.hid (H4.out.below b5)
      have B5 := Lib.hid (Below.down B4.out b5 B4.out.size)
      have I0 := Lib.hid (J0.out.below b5 J0.out.lt)
      have I1 := Lib.hid (J1.out.below b5 J1.out.lt)
      have I2 := Lib.hid (J2.out.below b5 J2.out.lt)
      have f0 := I0.out.cell 0
      have e0 : (cfc c vp vd vw vg)[0]? = some (.int .i64 (F : Int)) := by rw [← HFe.out]; rfl
      rw [e0] at f0
      clear b5 e0 f1 f2 f3 f4 f5 f6 f7 f8 g1 HM3 HPT
      go_wp2_with fail
      refine (HMY.out _).mono ?_
      rintro e w6 ⟨rfl, rfl⟩
      cases hf : fitB at_ n (F * 64) with
      | false =>
        have e : Q = false := by rw [HX3.out, hf]; rfl
        subst e
        clear hf
        go_wp2_with fail
        go_ret
        exact ⟨rfl, B5.out⟩
      | true =>
        have hf2 := of_decide_eq_true hf
        obtain ⟨r0, r1, r2, r3⟩ := hf2
        obtain ⟨a, rfl⟩ := Int.eq_ofNat_of_zero_le r0
        obtain ⟨m, rfl⟩ := Int.eq_ofNat_of_zero_le r1
        have HX4 : Hid (Q = (spl a m).all (fun x => rcB c p x.1 true)) := Lib.hid (by rw [HX3.out, hf, Bool.true_and, Int.toNat_natCast, Int.toNat_natCast])
        have HSP := Lib.hid (fun (W : World) => split_yes (a : Int) (m : Int) W (by omega) (by omega) (by omega))
        clear hf HX3 HMY
        go_wp2_with fail
        refine (HSP.out _).mono ?_
        rintro e w7 ⟨v, rfl, ho, b7⟩
        simp only [Int.toNat_natCast] at ho
        have H7 := H5.out.below b7
        have B7 := Lib.hid (Below.down B5.out b7 B5.out.size)
        have i0 := I0.out.below b7 I0.out.lt
        have i1 := I1.out.below b7 I1.out.lt
        have i2 := I2.out.below b7 I2.out.lt
        have hll := spl_len m a
        obtain ⟨A, cap, rfl, hcap, hxl, hA⟩ := Sl.own ho
        obtain ⟨b, o, hbo⟩ : ∃ b o, 0 < (spl a m).length → A = some ⟨b, o, none⟩ ∧ b < w7.heap.size ∧ ∀ j u, (flat (spl a m))[j]? = some u → w7.cell? ⟨b, o + j, none⟩ = some u := by
          by_cases h0 : 0 < (spl a m).length
          · obtain ⟨b, o, q1, q2, q3⟩ := hA h0
            exact ⟨b, o, fun _ => ⟨q1, q2, q3⟩⟩
          · exact ⟨0, 0, fun h => absurd h h0⟩
        have hE := each_Piece A b o (spl a m).length cap w.heap.size (w.heap.size + 1) (w.heap.size + 1 + 1) (fun i => .int .i64 (((spl a m).getD i (0, 0, 0)).1 : Nat)) (fun i => .int .i64 (((spl a m).getD i (0, 0, 0)).2.1 : Nat)) (fun i => .int .i64 (((spl a m).getD i (0, 0, 0)).2.2 : Nat))
          (fun i => rcB c p (((spl a m).getD i (0, 0, 0)).1 : Nat) true) nos (fun _ W => Below w7.heap.size w7 W) w7 (by unfold maxLen; omega) (fun h0 => (hbo h0).1) nos_lt
          (fun i W W' hI hW => Below.down hI hW hI.size)
          (fun i W hi hI => by
            obtain ⟨_, q2, q3⟩ := hbo (by omega)
            obtain ⟨p0, p1, p2⟩ := flat_get (spl a m) i hi
            have g := fun x => hI.cell (p := ⟨b, x, none⟩) q2
            have hgd : (spl a m).getD i (0, 0, 0) = (spl a m)[i] := by simp [List.getD, List.getElem?_eq_getElem hi]
            rw [hgd]
            refine ⟨(g _).trans (q3 _ _ p0), ?_, ?_⟩
            · have := (g _).trans (q3 _ _ p1); rw [← Nat.add_assoc] at this; exact this
            · have := (g _).trans (q3 _ _ p2); rw [← Nat.add_assoc] at this; exact this)
          (fun i W hi _ hI => by
            refine (rc1_w (H7.below hI) HU.out p HP9.out _ _ _ _ _ _ (i0.below hI i0.lt) (i1.below hI i1.lt) (i2.below hI i2.lt)).mono ?_
            rintro e w' ⟨rfl, hb⟩
            exact ⟨rfl, Below.down hI hb hI.size, Fo.of hb _⟩)
          (Below.refl _ _)
        rw [all_range (spl a m) (0, 0, 0) (fun x => rcB c p x.1 true), ← HX4.out] at hE
        have HE := Lib.hid hE
        have hlm : (spl a m).length ≤ 9223372036854775807 := by omega
        clear hE hbo hA hxl ho H7 i0 i1 i2 b7
        generalize (spl a m).length = L at *
        go_wp2_with fail
        refine HE.out.mono ?_
        rintro e w8 ⟨rfl, -, hf8⟩
        have HB8 := Lib.hid (Below.down B7.out hf8.nos B7.out.size)
        clear hf8
        go_wp2_with fail
        go_ret
        exact ⟨rfl, HB8.out⟩

theorem cwrites_any {w : World} {c : Cf} {vp vd vw vg : Value} (h : CfAt w vp vd vw vg c) (part at_ n : Int) :
    Calls Try.prog 13 #[.agg #[.int .i64 c.fr, vp, vd, .int .i64 c.mj, vw, vg, .int .i64 c.se, .int .i64 c.qu, .int .i64 c.qt], .int .i64 part, .int .i64 at_, .int .i64 n] w fun e w' => e = .returned (.bool (alB c part at_ n true)) ∧ Below w.heap.size w w' := by
  obtain ⟨hb, hB⟩ := cf_box w c vp vd vw vg
  have HC := Lib.hid (reaches_w (h.below hB) part at_ n)
  obtain ⟨k0, k1, k2, k3, k4, k5, k6, k7, k8⟩ := cf_at hb
  have HB := Lib.hid hB
  clear hb hB h
  go_enter Try.func13, Try.ntmps13
  go_wp2_with fail
  refine HC.out.mono ?_
  rintro e w1 ⟨rfl, b1⟩
  go_wp2_with fail
  go_ret
  exact ⟨rfl, Below.down HB.out b1 HB.out.size⟩


end Go.Proofs.Ytamhnnkmjhapmaa
