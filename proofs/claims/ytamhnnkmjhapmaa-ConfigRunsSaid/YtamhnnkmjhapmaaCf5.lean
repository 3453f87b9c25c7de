/-
  Contracts of config's windowsMay, grantsMay.
-/
import Derived.Test.YtamhnnkmjhapmaaCf4
import Derived.Test.YtamhnnkmjhapmaaItWin
import Derived.Deep.RegionHeld3
import Derived.BigRegion
namespace Go.Proofs.Ytamhnnkmjhapmaa
open Go.RowKit
set_option linter.unusedVariables false
set_option linter.unusedSimpArgs false
set_option maxRecDepth 100000

def wD : Win := ⟨0, 0, 0, 0⟩
/-- Windows row by row. -/
theorem Ws.rows {w : World} {v : Value} {n : Nat} {l : List Win} (h : Ws w v n l) : ∃ (A : Option Addr) (cap b o : Nat), v = .slice A n cap ∧ (0 < n → A = some ⟨b, o, none⟩ ∧ b < w.heap.size) ∧
    ∀ i, i < n → w.cell? ⟨b, o + i * 4, none⟩ = some (.int .i64 (l.getD i wD).p) ∧ w.cell? ⟨b, o + i * 4 + 1, none⟩ = some (.int .i64 (l.getD i wD).s) ∧ w.cell? ⟨b, o + i * 4 + 2, none⟩ = some (.int .i64 (l.getD i wD).l) ∧ w.cell? ⟨b, o + i * 4 + 3, none⟩ = some (.int .i64 (l.getD i wD).d) := by
  obtain ⟨A, cap, rfl⟩ := h.form
  by_cases h0 : 0 < n
  · have hl := h.len
    obtain ⟨b, o, rfl, hb, _⟩ := wd_at h.sl hl 0 (by omega)
    refine ⟨_, cap, b, o, rfl, fun _ => ⟨rfl, hb⟩, fun i hi => ?_⟩
    obtain ⟨b', o', e, _, q⟩ := wd_at h.sl hl i (by omega)
    simp only [Option.some.injEq, Addr.mk.injEq, and_true] at e
    obtain ⟨rfl, rfl⟩ := e
    have hg : l.getD i wD = l[i] := by simp [List.getD, List.getElem?_eq_getElem (show i < l.length by omega)]
    rw [hg]
    exact q
  · exact ⟨A, cap, 0, 0, rfl, fun h => absurd h h0, fun i hi => absurd hi (by omega)⟩

theorem wm1_any (x : Win) (k : Int) (y : Nat) (w : World) (hy : Blk w y 3 [.int .i64 k]) :
    Calls Try.prog 67 #[.agg #[.int .i64 x.p, .int .i64 x.s, .int .i64 x.l, .int .i64 x.d], .pointer (some ⟨y, 0, none⟩)] w fun e w' => e = .returned (.bool (decide (x.p = k))) ∧ Below w.heap.size w w' := by
  have hy1 := hy.alloc (.cells #[.int .i64 x.p, .int .i64 x.s, .int .i64 x.l, .int .i64 x.d] 58)
  have k0 := hy1.cell 0
  simp only [List.getElem?_cons_zero] at k0
  obtain ⟨xp, xs, xl, xd⟩ := x
  simp only at *
  have hlt := hy.lt
  clear hy hy1
  by_cases e : xp = k
  · subst e
    go_enter Try.func67, Try.ntmps67
    go_wp2
    go_ret
    exact ⟨by simp, (Below.refl _ _).alloc (Nat.le_refl _) _⟩
  · have e2 : (xp == k) = false := by simpa using e
    have HR := Lib.hid (decide_eq_false e)
    clear e
    go_enter Try.func67, Try.ntmps67
    go_wp2
    go_ret
    exact ⟨by rw [HR.out]; rfl, (Below.refl _ _).alloc (Nat.le_refl _) _⟩

section
variable {w : World} {c : Cf} {vp vd vw vg : Value}
set_option maxHeartbeats 2000000 in
theorem windowsmay_any (h : CfAt w vp vd vw vg c) : Calls Try.prog 41 #[.agg #[.int .i64 c.fr, vp, vd, .int .i64 c.mj, vw, vg, .int .i64 c.se, .int .i64 c.qu, .int .i64 c.qt]] w fun e w' => e = .returned (.bool (wsB c)) ∧ Below w.heap.size w w' := by
  obtain ⟨hb, hB⟩ := cf_box w c vp vd vw vg
  have h1 := h.below hB
  obtain ⟨A, cap, rfl, _⟩ := h.ps
  obtain ⟨A', cap', b, o, rfl, hA, hr⟩ := h1.ws.rows
  have hz := h.pz.1
  have hnm : c.ws.length ≤ maxLen := h.ws.big
  obtain ⟨-, k1, -, k3, k4, -⟩ := cf_at hb
  have hsz : (w.alloc (.cells #[.int .i64 c.fr, .slice A c.ps.length cap, vd, .int .i64 c.mj, .slice A' c.ws.length cap', vg, .int .i64 c.se, .int .i64 c.qu, .int .i64 c.qt] 27)).heap.size = w.heap.size + 1 := by simp
  have HX : Hid (wsB c = (mayW c.ws c.mj c.ps.length && (List.range c.ps.length).all (fun i => hasW c.ws i))) := Lib.hid rfl
  have HM := Lib.hid (may_ws h1.ws c.mj c.ps.length _ rfl)
  have HB := Lib.hid hB; have HA := Lib.hid hA; have HR := Lib.hid hr
  clear h h1 hb hB hA hr
  generalize c.ps.length = n at *
  generalize hwl : c.ws.length = m at *
  have HWL := Lib.hid hwl
  generalize wsB c = Q at *
  generalize c.mj = mj at *
  generalize hM : mayW c.ws mj n = M at *
  clear hM hwl
  go_enter Try.func41, Try.ntmps41
  go_wp2_with fail
  generalize w.alloc (.cells #[.int .i64 c.fr, .slice A n cap, vd, .int .i64 mj, .slice A' m cap', vg, .int .i64 c.se, .int .i64 c.qu, .int .i64 c.qt] 27) = w1 at *
  have hlt1 : w.heap.size < w1.heap.size := by omega
  clear hsz
  refine HM.out.mono ?_
  rintro e w2 ⟨rfl, hb2⟩
  cases M with
  | false =>
    have e : Q = false := by rw [HX.out]; rfl
    subst e
    go_wp2_with fail
    go_ret
    exact ⟨rfl, Below.down HB.out hb2 (by omega)⟩
  | true =>
    have hQ : Q = (List.range n).all (fun i => hasW c.ws i) := by rw [HX.out]; rfl
    have HQ := Lib.hid hQ
    have q1 := (hb2.cell (p := ⟨w.heap.size, 1, none⟩) hlt1).trans k1
    have HB2 := Lib.hid hb2
    have HK4 := Lib.hid k4
    clear hQ HX hb2 HM k1 k3 k4
    go_wp2_with fail
    clear q1
    go_loopw [16] (fun i wr => ∃ k : Nat, k ≤ n ∧ i = .int .i64 k ∧ Hid ((∀ j, j < k → hasW c.ws j = true) ∧ Below w1.heap.size w1 wr)) (fun i _ => n - (intOf i).toNat)
    case atStart => exact ⟨0, by omega, rfl, Lib.hid ⟨fun j hj => by omega, HB2.out⟩⟩
    case round =>
      obtain ⟨k, hk, rfl, H⟩ := hrel
      by_cases hlt : k < n
      · obtain ⟨hall, hbel⟩ := H.out
        have hws := hbel.size
        have hb3 : Below w1.heap.size w1 (wr.alloc (.cells #[.int .i64 (k : Int)] 3)) := hbel.alloc hws _
        have hk3 : Blk (wr.alloc (.cells #[.int .i64 (k : Int)] 3)) wr.heap.size 3 [.int .i64 (k : Int)] := Blk.new _ _ _
        have q4 := (hb3.cell (p := ⟨w.heap.size, 4, none⟩) hlt1).trans HK4.out
        have hE := cf_Win A' b o m cap' wr.heap.size (fun i => .int .i64 (c.ws.getD i wD).p) (fun i => .int .i64 (c.ws.getD i wD).s) (fun i => .int .i64 (c.ws.getD i wD).l) (fun i => .int .i64 (c.ws.getD i wD).d) (fun i => decide ((c.ws.getD i wD).p = (k : Int))) nos
          (fun _ W => Below w1.heap.size w1 W ∧ Blk W wr.heap.size 3 [.int .i64 (k : Int)]) (wr.alloc (.cells #[.int .i64 (k : Int)] 3)) hnm (fun h0 => (HA.out h0).1)
          (fun i W hi hI => by
            have hlt := (HA.out (by omega)).2
            have g := fun x => hI.1.cell (p := ⟨b, x, none⟩) hlt
            obtain ⟨q0, q1, q2, q3⟩ := HR.out i hi
            exact ⟨(g _).trans q0, (g _).trans q1, (g _).trans q2, (g _).trans q3⟩)
          (fun i W hi _ hI => by
            refine (wm1_any (c.ws.getD i wD) k wr.heap.size W hI.2).mono ?_
            rintro e w' ⟨rfl, hb⟩
            exact ⟨rfl, ⟨Below.down hI.1 hb hI.1.size, hI.2.below hb hI.2.lt⟩, Fo.of hb _⟩)
          ⟨hb3, hk3⟩
        have e9 : (List.range m).any (fun i => decide ((c.ws.getD i wD).p = (k : Int))) = hasW c.ws k := by rw [← HWL.out]; exact any_range c.ws wD (fun x => decide (x.p = (k : Int)))
        rw [e9] at hE
        have HE := Lib.hid hE; have HALL := Lib.hid hall; have HB3 := Lib.hid hb3
        clear hE hall hb3 hk3 e9 hbel H
        generalize hH : hasW c.ws k = R at *
        have HH := Lib.hid hH
        clear hH
        go_wp2_with fail
        refine HE.out.mono ?_
        rintro e w3 ⟨rfl, -, hf⟩
        have HB4 := Lib.hid (Below.down HB3.out hf.nos HB3.out.size)
        clear hf q4 HE
        cases R with
        | false =>
          have e : Q = false := by
            rw [HQ.out]
            exact List.all_eq_false.2 ⟨k, List.mem_range.2 hlt, by rw [HH.out]; simp⟩
          subst e
          go_wp2_with fail
          go_ret
          exact ⟨rfl, Below.down HB.out HB4.out (by omega)⟩
        | true =>
          go_wp2_with fail
          go_roundw
          case rel => exact ⟨k + 1, by omega, by go_num, Lib.hid ⟨fun j hj => by
            by_cases e : j = k
            · rw [e]; exact HH.out
            · exact HALL.out j (by omega), HB4.out⟩⟩
          case measure => simp [intOf]; omega
      · obtain rfl : k = n := by omega
        have e : Q = true := by rw [HQ.out]; exact range_all_iff.2 H.out.1
        subst e
        go_wp2_with fail
        go_ret
        exact ⟨rfl, Below.down HB.out H.out.2 (by omega)⟩
end

end Go.Proofs.Ytamhnnkmjhapmaa
