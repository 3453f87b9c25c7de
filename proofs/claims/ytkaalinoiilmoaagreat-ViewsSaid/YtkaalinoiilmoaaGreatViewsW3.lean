/-
  What the proofs lean on: contracts of the program's functions, plain facts.
-/
import Derived.Deep.Slices
import Derived.Test.YtkaalinoiilmoaaGreatViewsW2
import Derived.Test.YtkaalinoiilmoaaGreatChecked
import Derived.Test.YtkaalinoiilmoaaGreatViewsW1
import Derived.Deep.RegionHeld3
import Derived.BigRegion
namespace Go.Proofs.YtkaalinoiilmoaaGreat
open Go.RowKit
set_option linter.unusedVariables false
set_option linter.unusedSimpArgs false
set_option maxRecDepth 100000
def grc (g : Gr) : List Value := [.int .i64 g.f, .int .i64 g.t, .bool g.wr]
def grs (l : List Gr) : List Value := l.flatMap grc
def grD : Gr := ⟨0, 0, false⟩
theorem grs_cons (g : Gr) (l : List Gr) : grs (g :: l) = .int .i64 g.f :: .int .i64 g.t :: .bool g.wr :: grs l := by simp [grs, grc]
theorem grs_get (l : List Gr) : ∀ i, i < l.length → (grs l)[i * 3]? = some (.int .i64 (l.getD i grD).f) ∧ (grs l)[i * 3 + 1]? = some (.int .i64 (l.getD i grD).t) ∧ (grs l)[i * 3 + 2]? = some (.bool (l.getD i grD).wr) := by
  induction l with
  | nil => intro i h; simp at h
  | cons g l ih =>
    intro i h
    match i with
    | 0 => rw [grs_cons]; simp
    | i + 1 =>
      have := ih i (by simpa using h)
      rw [grs_cons, show (i + 1) * 3 = i * 3 + 3 by omega]
      simpa using this
theorem grs_at {w : World} {A : Option Addr} {n c : Nat} {l : List Gr} (h : Sl w (.slice A n c) n 3 (grs l)) (hl : l.length = n) (k : Nat) (hk : k < n) :
    ∃ b o, A = some ⟨b, o, none⟩ ∧ b < w.heap.size ∧ w.cell? ⟨b, o + k * 3, none⟩ = some (.int .i64 (l.getD k grD).f) ∧ w.cell? ⟨b, o + k * 3 + 1, none⟩ = some (.int .i64 (l.getD k grD).t) ∧ w.cell? ⟨b, o + k * 3 + 2, none⟩ = some (.bool (l.getD k grD).wr) := by
  obtain ⟨A', c', e, _, hxl, hA⟩ := h
  simp only [Value.slice.injEq] at e
  obtain ⟨rfl, _, rfl⟩ := e
  obtain ⟨b, o, rfl, hb, hc⟩ := hA (by omega)
  have hg := grs_get l k (by omega)
  have key : ∀ j u, (grs l)[k * 3 + j]? = some u → w.cell? ⟨b, o + k * 3 + j, none⟩ = some u := by
    intro j u hx
    have := hc (k * 3 + j) u hx
    rw [← Nat.add_assoc] at this
    exact this
  exact ⟨b, o, rfl, hb, key 0 _ hg.1, key 1 _ hg.2.1, key 2 _ hg.2.2⟩
def DeAt (w : World) (b a : Nat) (d : De) : Prop := ∃ A2 c2, w.cell? ⟨b, a, none⟩ = some (.int .i64 d.pt) ∧ w.cell? ⟨b, a + 1, none⟩ = some (.slice A2 d.po.length c2) ∧ Sl w (.slice A2 d.po.length c2) d.po.length 1 (ints d.po) ∧ (A2 = none → c2 = 0)
theorem DeAt.below {w w' : World} {b a : Nat} {p : De} (h : DeAt w b a p) (hb : Below w.heap.size w w') (hlt : b < w.heap.size) : DeAt w' b a p := by
  have g := fun x => hb.cell (p := ⟨b, x, none⟩) hlt
  obtain ⟨A2, c2, h0, h1, h5, h6⟩ := h
  exact ⟨A2, c2, (g _).trans h0, (g _).trans h1, h5.below hb, h6⟩
def DeS (w : World) (v : Value) (l : List De) : Prop :=
  ∃ A cap, v = .slice A l.length cap ∧ (0 < l.length → ∃ b o, A = some ⟨b, o, none⟩ ∧ b < w.heap.size ∧ ∀ i, i < l.length → DeAt w b (o + i * 2) (l.getD i deD))
def DeZ (l : List De) : Prop := l.length * 32 ≤ 140737488351232 ∧ ∀ i, (l.getD i deD).po.length * 8 ≤ 140737488351232
theorem DeS.below {w w' : World} {v : Value} {l : List De} (h : DeS w v l) (hb : Below w.heap.size w w') : DeS w' v l := by
  obtain ⟨A, cap, hv, hA⟩ := h
  refine ⟨A, cap, hv, fun h0 => ?_⟩
  obtain ⟨b, o, e, hlt, hi⟩ := hA h0
  exact ⟨b, o, e, Nat.lt_of_lt_of_le hlt hb.size, fun i hi' => (hi i hi').below hb hlt⟩
structure CfAt (w : World) (vp vd vw vg : Value) (c : Cf) : Prop where
  ps : PaS w vp c.ps
  pz : PaZ c.ps
  ds : DeS w vd c.ds
  dz : DeZ c.ds
  ws : Ws w vw c.ws.length c.ws
  wz : c.ws.length * 32 ≤ 140737488351232
  wn : ∀ m k, vw = .slice none m k → k = 0
  gs : Sl w vg c.gs.length 3 (grs c.gs)
  gz : c.gs.length * 24 ≤ 140737488351232
  gn : ∀ m k, vg = .slice none m k → k = 0
theorem CfAt.below {w w' : World} {vp vd vw vg : Value} {c : Cf} (h : CfAt w vp vd vw vg c) (hb : Below w.heap.size w w') : CfAt w' vp vd vw vg c :=
  ⟨h.ps.below hb, h.pz, h.ds.below hb, h.dz, h.ws.below hb, h.wz, h.wn, h.gs.below hb, h.gz, h.gn⟩
theorem CfAt.drewN {w : World} {vp vd vw vg : Value} {c : Cf} (h : CfAt w vp vd vw vg c) (n : Nat) : CfAt (w.drewN n) vp vd vw vg c := h.below (bdrewN (Below.refl _ _) n)
theorem PaS.rows {w : World} {v : Value} {l : List Pa} (h : PaS w v l) : ∃ (A : Option Addr) (cap b o : Nat) (sv : Nat → Value), v = .slice A l.length cap ∧ (0 < l.length → A = some ⟨b, o, none⟩ ∧ b < w.heap.size) ∧
    ∀ i, i < l.length → (w.cell? ⟨b, o + i * 5, none⟩ = some (.int .i64 (l.getD i paD).lv) ∧ w.cell? ⟨b, o + i * 5 + 1, none⟩ = some (.int .i64 (l.getD i paD).ct) ∧ w.cell? ⟨b, o + i * 5 + 2, none⟩ = some (sv i) ∧ w.cell? ⟨b, o + i * 5 + 3, none⟩ = some (.int .i64 (l.getD i paD).fi) ∧ w.cell? ⟨b, o + i * 5 + 4, none⟩ = some (.int .i64 (l.getD i paD).co)) ∧
      Sl w (sv i) (l.getD i paD).fr.length 1 (ints (l.getD i paD).fr) := by
  obtain ⟨A, cap, rfl, hA⟩ := h
  by_cases h0 : 0 < l.length
  · obtain ⟨b, o, rfl, hb, hi⟩ := hA h0
    have key : ∀ i, i < l.length → ∃ s : Value, (w.cell? ⟨b, o + i * 5, none⟩ = some (.int .i64 (l.getD i paD).lv) ∧ w.cell? ⟨b, o + i * 5 + 1, none⟩ = some (.int .i64 (l.getD i paD).ct) ∧ w.cell? ⟨b, o + i * 5 + 2, none⟩ = some s ∧ w.cell? ⟨b, o + i * 5 + 3, none⟩ = some (.int .i64 (l.getD i paD).fi) ∧ w.cell? ⟨b, o + i * 5 + 4, none⟩ = some (.int .i64 (l.getD i paD).co)) ∧
        Sl w s (l.getD i paD).fr.length 1 (ints (l.getD i paD).fr) := by
      intro i hil
      obtain ⟨A2, c2, q0, q1, q2, q3, q4, q5, _⟩ := hi i hil
      exact ⟨_, ⟨q0, q1, q2, q3, q4⟩, q5⟩
    haveI : Inhabited Value := ⟨.bool false⟩
    obtain ⟨F, hF⟩ := Go.Deep.choose_lt key
    exact ⟨_, cap, b, o, F, rfl, fun _ => ⟨rfl, hb⟩, hF⟩
  · exact ⟨A, cap, 0, 0, fun _ => .bool false, rfl, fun h => absurd h h0, fun i hi => absurd hi (by omega)⟩
theorem DeS.rows {w : World} {v : Value} {l : List De} (h : DeS w v l) : ∃ (A : Option Addr) (cap b o : Nat) (sv : Nat → Value), v = .slice A l.length cap ∧ (0 < l.length → A = some ⟨b, o, none⟩ ∧ b < w.heap.size) ∧
    ∀ i, i < l.length → (w.cell? ⟨b, o + i * 2, none⟩ = some (.int .i64 (l.getD i deD).pt) ∧ w.cell? ⟨b, o + i * 2 + 1, none⟩ = some (sv i)) ∧ Sl w (sv i) (l.getD i deD).po.length 1 (ints (l.getD i deD).po) := by
  obtain ⟨A, cap, rfl, hA⟩ := h
  by_cases h0 : 0 < l.length
  · obtain ⟨b, o, rfl, hb, hi⟩ := hA h0
    have key : ∀ i, i < l.length → ∃ s : Value, (w.cell? ⟨b, o + i * 2, none⟩ = some (.int .i64 (l.getD i deD).pt) ∧ w.cell? ⟨b, o + i * 2 + 1, none⟩ = some s) ∧ Sl w s (l.getD i deD).po.length 1 (ints (l.getD i deD).po) := by
      intro i hil
      obtain ⟨A2, c2, q0, q1, q5, _⟩ := hi i hil
      exact ⟨_, ⟨q0, q1⟩, q5⟩
    haveI : Inhabited Value := ⟨.bool false⟩
    obtain ⟨F, hF⟩ := Go.Deep.choose_lt key
    exact ⟨_, cap, b, o, F, rfl, fun _ => ⟨rfl, hb⟩, hF⟩
  · exact ⟨A, cap, 0, 0, fun _ => .bool false, rfl, fun h => absurd h h0, fun i hi => absurd hi (by omega)⟩
def cfc (c : Cf) (vp vd vw vg : Value) : List Value := [.int .i64 c.fr, vp, vd, .int .i64 c.mj, vw, vg, .int .i64 c.se, .int .i64 c.qu, .int .i64 c.qt]
theorem cf_at {w : World} {g : Nat} {c : Cf} {vp vd vw vg : Value} (h : Blk w g 27 (cfc c vp vd vw vg)) :
    w.cell? ⟨g, 0, none⟩ = some (.int .i64 c.fr) ∧ w.cell? ⟨g, 1, none⟩ = some vp ∧ w.cell? ⟨g, 2, none⟩ = some vd ∧ w.cell? ⟨g, 3, none⟩ = some (.int .i64 c.mj) ∧ w.cell? ⟨g, 4, none⟩ = some vw ∧ w.cell? ⟨g, 5, none⟩ = some vg ∧ w.cell? ⟨g, 6, none⟩ = some (.int .i64 c.se) ∧ w.cell? ⟨g, 7, none⟩ = some (.int .i64 c.qu) ∧ w.cell? ⟨g, 8, none⟩ = some (.int .i64 c.qt) :=
  ⟨h.cell 0, h.cell 1, h.cell 2, h.cell 3, h.cell 4, h.cell 5, h.cell 6, h.cell 7, h.cell 8⟩
theorem cf_box (w : World) (c : Cf) (vp vd vw vg : Value) : Blk (w.alloc (.cells #[.int .i64 c.fr, vp, vd, .int .i64 c.mj, vw, vg, .int .i64 c.se, .int .i64 c.qu, .int .i64 c.qt] 27)) w.heap.size 27 (cfc c vp vd vw vg) ∧
    Below w.heap.size w (w.alloc (.cells #[.int .i64 c.fr, vp, vd, .int .i64 c.mj, vw, vg, .int .i64 c.se, .int .i64 c.qu, .int .i64 c.qt] 27)) :=
  ⟨Blk.new w _ (cfc c vp vd vw vg), (Below.refl _ _).alloc (Nat.le_refl _) _⟩
theorem btw_iff {lo hi n : Int} : btw lo hi n = true ↔ lo ≤ n ∧ n ≤ hi := by unfold btw; rw [decide_eq_true_eq]
theorem isfrom_any (n lo hi : Int) (w : World) : Calls Tryz.prog 76 #[.int .i64 n, .int .i64 lo, .int .i64 hi] w fun e w' => e = .returned (.bool (btw lo hi n)) ∧ w = w' := by
  by_cases h0 : lo ≤ n
  · by_cases h1 : n ≤ hi
    · have HR := Lib.hid (show btw lo hi n = true from decide_eq_true ⟨h0, h1⟩)
      have hd : decide (n ≤ hi) = true := decide_eq_true h1
      clear h1
      go_enter Tryz.func76, Tryz.ntmps76
      go_wp2
      go_ret
      exact ⟨by rw [HR.out]; rfl, rfl⟩
    · have HR := Lib.hid (show btw lo hi n = false from decide_eq_false (fun h => h1 h.2))
      have hd : decide (n ≤ hi) = false := decide_eq_false h1
      clear h1
      go_enter Tryz.func76, Tryz.ntmps76
      go_wp2
      go_ret
      exact ⟨by rw [HR.out]; rfl, rfl⟩
  · have HR := Lib.hid (show btw lo hi n = false from decide_eq_false (fun h => h0 h.1))
    have h2 : n < lo := by omega
    clear h0
    go_enter Tryz.func76, Tryz.ntmps76
    go_wp2
    go_ret
    exact ⟨by rw [HR.out]; rfl, rfl⟩
section
variable {w : World} {c : Cf} {vp vd vw vg : Value}
theorem haspart_any (h : CfAt w vp vd vw vg c) (p : Int) :
    Calls Tryz.prog 82 #[.agg #[.int .i64 c.fr, vp, vd, .int .i64 c.mj, vw, vg, .int .i64 c.se, .int .i64 c.qu, .int .i64 c.qt], .int .i64 p] w fun e w' => e = .returned (.bool (inP c.ps.length p)) ∧ Below w.heap.size w w' := by
  obtain ⟨A, cap, rfl, _⟩ := h.ps
  obtain ⟨hb, hB⟩ := cf_box w c (.slice A c.ps.length cap) vd vw vg
  have hn : c.ps.length ≤ 9223372036854775807 := by have := h.pz.1; omega
  obtain ⟨-, k1, -⟩ := cf_at hb
  have HB := Lib.hid hB
  clear h hb hB
  generalize c.ps.length = n at *
  by_cases h0 : 0 ≤ p
  · by_cases h1 : p < (n : Int)
    · have HR := Lib.hid (show inP n p = true from decide_eq_true ⟨h0, h1⟩)
      have hd : decide (p < (n : Int)) = true := decide_eq_true h1
      clear h1
      go_enter Tryz.func82, Tryz.ntmps82
      go_wp2
      go_ret
      exact ⟨by rw [HR.out]; rfl, HB.out⟩
    · have HR := Lib.hid (show inP n p = false from decide_eq_false (fun h => h1 h.2))
      have hd : decide (p < (n : Int)) = false := decide_eq_false h1
      clear h1
      go_enter Tryz.func82, Tryz.ntmps82
      go_wp2
      go_ret
      exact ⟨by rw [HR.out]; rfl, HB.out⟩
  · have HR := Lib.hid (show inP n p = false from decide_eq_false (fun h => h0 h.1))
    have h2 : p < 0 := by omega
    clear h0
    go_enter Tryz.func82, Tryz.ntmps82
    go_wp2
    go_ret
    exact ⟨by rw [HR.out]; rfl, HB.out⟩
theorem framesmay_any : Calls Tryz.prog 55 #[.agg #[.int .i64 c.fr, vp, vd, .int .i64 c.mj, vw, vg, .int .i64 c.se, .int .i64 c.qu, .int .i64 c.qt]] w fun e w' => e = .returned (.bool (frB_Cf0 c)) ∧ Below w.heap.size w w' := by
  obtain ⟨hb, hB⟩ := cf_box w c vp vd vw vg
  obtain ⟨k0, -⟩ := cf_at hb
  have HB := Lib.hid hB
  clear hb hB
  unfold frB_Cf0
  go_enter Tryz.func55, Tryz.ntmps55
  go_wp2_with fail
  refine (isfrom_any _ _ _ _).mono ?_
  rintro e w1 ⟨rfl, rfl⟩
  go_wp2_with fail
  go_ret
  exact ⟨rfl, HB.out⟩
theorem quotamay_any : Calls Tryz.prog 62 #[.agg #[.int .i64 c.fr, vp, vd, .int .i64 c.mj, vw, vg, .int .i64 c.se, .int .i64 c.qu, .int .i64 c.qt]] w fun e w' => e = .returned (.bool (quB c)) ∧ Below w.heap.size w w' := by
  obtain ⟨hb, hB⟩ := cf_box w c vp vd vw vg
  obtain ⟨-, -, -, -, -, -, -, k7, -⟩ := cf_at hb
  have HB := Lib.hid hB
  clear hb hB
  unfold quB
  go_enter Tryz.func62, Tryz.ntmps62
  go_wp2_with fail
  refine (isfrom_any _ _ _ _).mono ?_
  rintro e w1 ⟨rfl, rfl⟩
  go_wp2_with fail
  go_ret
  exact ⟨rfl, HB.out⟩
theorem quietmay_any : Calls Tryz.prog 63 #[.agg #[.int .i64 c.fr, vp, vd, .int .i64 c.mj, vw, vg, .int .i64 c.se, .int .i64 c.qu, .int .i64 c.qt]] w fun e w' => e = .returned (.bool (qtB c)) ∧ Below w.heap.size w w' := by
  obtain ⟨hb, hB⟩ := cf_box w c vp vd vw vg
  obtain ⟨-, -, -, -, -, -, -, -, k8⟩ := cf_at hb
  have HB := Lib.hid hB
  clear hb hB
  unfold qtB
  go_enter Tryz.func63, Tryz.ntmps63
  go_wp2_with fail
  refine (isfrom_any _ _ _ _).mono ?_
  rintro e w1 ⟨rfl, rfl⟩
  go_wp2_with fail
  go_ret
  exact ⟨rfl, HB.out⟩
theorem sharesmay_any (h : CfAt w vp vd vw vg c) : Calls Tryz.prog 61 #[.agg #[.int .i64 c.fr, vp, vd, .int .i64 c.mj, vw, vg, .int .i64 c.se, .int .i64 c.qu, .int .i64 c.qt]] w fun e w' => e = .returned (.bool (shB c)) ∧ Below w.heap.size w w' := by
  obtain ⟨hb, hB⟩ := cf_box w c vp vd vw vg
  obtain ⟨-, k1, -, -, -, -, k6, -⟩ := cf_at hb
  have HC := Lib.hid (extmay_any _ _ c.se _ ((h.below hB).ps.pts h.pz))
  have HB := Lib.hid hB
  clear hb hB h
  unfold shB
  go_enter Tryz.func61, Tryz.ntmps61
  go_wp2_with fail
  refine HC.out.mono ?_
  rintro e w1 ⟨rfl, b1⟩
  go_wp2_with fail
  go_ret
  exact ⟨rfl, Below.down HB.out b1 HB.out.size⟩
theorem pm1_any (x : Pa) (A2 : Option Addr) (n2 c2 : Nat) (hn : n2 = x.fr.length) (w : World) :
    Calls Tryz.prog 78 #[.agg #[.int .i64 x.lv, .int .i64 x.ct, .slice A2 n2 c2, .int .i64 x.fi, .int .i64 x.co]] w fun e w' => e = .returned (.bool (paB x)) ∧ Below w.heap.size w w' := by
  have hb : Blk (w.alloc (.cells #[.int .i64 x.lv, .int .i64 x.ct, .slice A2 n2 c2, .int .i64 x.fi, .int .i64 x.co] 70)) w.heap.size 70 [.int .i64 x.lv, .int .i64 x.ct, .slice A2 n2 c2, .int .i64 x.fi, .int .i64 x.co] := Blk.new _ _ _
  have hB : Below w.heap.size w (w.alloc (.cells #[.int .i64 x.lv, .int .i64 x.ct, .slice A2 n2 c2, .int .i64 x.fi, .int .i64 x.co] 70)) := (Below.refl _ _).alloc (Nat.le_refl _) _
  have k0 := hb.cell 0
  have k1 := hb.cell 1
  have k2 := hb.cell 2
  simp only [List.getElem?_cons_zero, List.getElem?_cons_succ] at k0 k1 k2
  obtain ⟨R, hR⟩ : ∃ R, paB x = R := ⟨_, rfl⟩
  rw [hR]
  unfold paB at hR
  rw [← hn] at hR
  have HR := Lib.hid hR; have HB := Lib.hid hB
  clear hb hB hR hn
  obtain ⟨lv, ct, fr, fi, co⟩ := x
  simp only at *
  cases hL : lB lv ct with
  | false =>
    have HL := Lib.hid hL
    have hf : R = false := by rw [← HR.out, hL]; rfl
    subst hf
    clear hL
    go_enter Tryz.func78, Tryz.ntmps78
    go_wp2_with fail
    refine (lmay_is lv ct false _ HL.out).mono ?_
    rintro e w1 ⟨rfl, b1⟩
    go_wp2_with fail
    go_ret
    exact ⟨rfl, Below.down HB.out b1 HB.out.size⟩
  | true =>
    have HL := Lib.hid hL
    clear hL
    by_cases h0 : 0 < n2
    · have hf : R = true := by rw [← HR.out, HL.out, decide_eq_true h0]; rfl
      subst hf
      have hd : decide (0 < n2) = true := decide_eq_true h0
      clear h0
      go_enter Tryz.func78, Tryz.ntmps78
      go_wp2_with fail
      refine (lmay_is lv ct true _ HL.out).mono ?_
      rintro e w1 ⟨rfl, b1⟩
      have g2 := (b1.cell (p := ⟨w.heap.size, 2, none⟩) (by simp)).trans k2
      go_wp2_with fail
      go_ret
      exact ⟨rfl, Below.down HB.out b1 HB.out.size⟩
    · have hf : R = false := by rw [← HR.out, HL.out, decide_eq_false h0]; rfl
      subst hf
      obtain rfl : n2 = 0 := by omega
      clear h0
      go_enter Tryz.func78, Tryz.ntmps78
      go_wp2_with fail
      refine (lmay_is lv ct true _ HL.out).mono ?_
      rintro e w1 ⟨rfl, b1⟩
      have g2 := (b1.cell (p := ⟨w.heap.size, 2, none⟩) (by simp)).trans k2
      go_wp2_with fail
      go_ret
      exact ⟨rfl, Below.down HB.out b1 HB.out.size⟩
end
end Go.Proofs.YtkaalinoiilmoaaGreat
namespace Go.Proofs.YtkaalinoiilmoaaGreat
open Go.RowKit
set_option linter.unusedVariables false
set_option linter.unusedSimpArgs false
set_option maxRecDepth 100000
set_option maxHeartbeats 1000000 in
theorem if_Int (A : Option Addr) (b o n cap : Nat) (a0 : Nat) (c0 : Nat → Value) (p : Nat → Bool) (S : Nat → Prop) (I : Nat → World → Prop) (w : World) (hn : n ≤ maxLen) (hA : 0 < n → A = some ⟨b, o, none⟩)
    (hr : ∀ i W, i < n → I i W → W.cell? ⟨b, o + i, none⟩ = some (c0 i))
    (hG : ∀ i W, i < n → (∀ j, j < i → p j = false) → I i W → Calls Tryz.prog 115 #[c0 i, .pointer (some ⟨a0, 0, none⟩)] W fun e w' => e = .returned (.bool (p i)) ∧ I (i + 1) w' ∧ Fo S W w') (h0 : I 0 w) :
    Calls Tryz.prog 117 #[.slice A n cap, .func (.func 115) #[] #[.pointer (some ⟨a0, 0, none⟩)]] w fun e w' => ∃ r : Int, e = .returned (.int .i64 r) ∧ decide (r ≥ 0) = (List.range n).any p ∧ (∃ k, k ≤ n ∧ I k w' ∧ (r < 0 → k = n)) ∧ Fo S w w' := by
  have HA := Lib.hid hA; have HR := Lib.hid hr; have HG := Lib.hid hG; have H0 := Lib.hid h0
  unfold maxLen at hn
  clear hA hr hG h0
  go_enter Tryz.func117, Tryz.ntmps117
  go_wp2_with fail
  go_loopw [8] (fun i wr => ∃ k : Nat, k ≤ n ∧ i = .int .i64 k ∧ Hid ((∀ j, j < k → p j = false) ∧ I k wr ∧ Fo S w wr)) (fun i _ => n - (intOf i).toNat)
  case atStart => exact ⟨0, by omega, rfl, Lib.hid ⟨fun j hj => by omega, H0.out, Fo.refl _ _⟩⟩
  case round =>
    obtain ⟨k, hk, rfl, HX⟩ := hrel
    by_cases hlt : k < n
    · obtain rfl := HA.out (by omega)
      have x0 := HR.out k wr hlt HX.out.2.1
      have HC := Lib.hid (HG.out k wr hlt HX.out.1 HX.out.2.1)
      generalize c0 k = e0 at *
      go_wp2_with fail
      refine HC.out.mono ?_
      rintro e w1 ⟨rfl, hi, hf⟩
      have HI := Lib.hid hi
      have HF := Lib.hid (HX.out.2.2.trans hf)
      clear x0 hi hf
      cases hp : p k with
      | true =>
        have HP := Lib.hid hp
        clear hp
        go_wp2_with fail
        go_ret
        exact ⟨_, rfl, (by rw [range_any_yes hlt HP.out]; exact decide_eq_true (by omega)), ⟨k + 1, by omega, HI.out, fun h => by omega⟩, HF.out⟩
      | false =>
        have HP := Lib.hid hp
        clear hp
        go_wp2_with fail
        go_roundw
        case rel => exact ⟨k + 1, by omega, by go_num, Lib.hid ⟨fun j hj => by
          by_cases e : j = k
          · rw [e]; exact HP.out
          · exact HX.out.1 j (by omega), HI.out, HF.out⟩⟩
        case measure => simp [intOf]; omega
    · obtain rfl : k = n := by omega
      go_wp2_with fail
      go_ret
      exact ⟨_, rfl, (by rw [range_any_no HX.out.1]; rfl), ⟨k, by omega, HX.out.2.1, fun _ => rfl⟩, HX.out.2.2⟩
theorem cf_Int (A : Option Addr) (b o n cap : Nat) (a0 : Nat) (c0 : Nat → Value) (p : Nat → Bool) (S : Nat → Prop) (I : Nat → World → Prop) (w : World) (hn : n ≤ maxLen) (hA : 0 < n → A = some ⟨b, o, none⟩)
    (hr : ∀ i W, i < n → I i W → W.cell? ⟨b, o + i, none⟩ = some (c0 i))
    (hG : ∀ i W, i < n → (∀ j, j < i → p j = false) → I i W → Calls Tryz.prog 115 #[c0 i, .pointer (some ⟨a0, 0, none⟩)] W fun e w' => e = .returned (.bool (p i)) ∧ I (i + 1) w' ∧ Fo S W w') (h0 : I 0 w) :
    Calls Tryz.prog 114 #[.slice A n cap, .func (.func 115) #[] #[.pointer (some ⟨a0, 0, none⟩)]] w fun e w' => e = .returned (.bool ((List.range n).any p)) ∧ Upto n I w' (!(List.range n).any p) ∧ Fo S w w' := by
  have HC := Lib.hid (if_Int A b o n cap a0 c0 p S I w hn hA hr hG h0)
  clear hA hr hG h0
  generalize (List.range n).any p = R at *
  go_enter Tryz.func114, Tryz.ntmps114
  go_wp2_with fail
  refine HC.out.mono ?_
  rintro e w1 ⟨r, rfl, hr, hi, hf⟩
  have HI := Lib.hid hi; have HF := Lib.hid hf
  clear hi hf
  cases R
  all_goals
    go_wp2_with fail
    go_ret
  · refine ⟨rfl, ?_, HF.out⟩
    obtain ⟨k, hk, h1, h2⟩ := HI.out
    exact ⟨k, hk, h1, fun _ => h2 (by have := of_decide_eq_false hr; omega)⟩
  · refine ⟨rfl, ?_, HF.out⟩
    obtain ⟨k, hk, h1, h2⟩ := HI.out
    exact ⟨k, hk, h1, fun h => by cases h⟩
theorem e1_Int (g : Nat) (y0 y1 : Nat) (e0 : Value) (q : Bool) (Q : World → Prop) (S : Nat → Prop) (w : World) (hg : Blk w g 55 [.func (.func 111) #[] #[.pointer (some ⟨y0, 0, none⟩), .pointer (some ⟨y1, 0, none⟩)]])
    (hst : ∀ W W', Q W → Below W.heap.size W W' → Q W') (Q' : World → Prop) (hq : Q w)
    (hH : ∀ W, Q W → Calls Tryz.prog 111 #[e0, .pointer (some ⟨y0, 0, none⟩), .pointer (some ⟨y1, 0, none⟩)] W fun e w' => e = .returned (.bool q) ∧ Q' w' ∧ Fo S W w') :
    Calls Tryz.prog 115 #[e0, .pointer (some ⟨g, 0, none⟩)] w fun e w' => e = .returned (.bool (!q)) ∧ Q' w' ∧ Fo S w w' := by
  have cg := hg.cell 0
  simp only [List.getElem?_cons_zero] at cg
  have HC := Lib.hid (hH _ hq)
  clear hg hH hst hq
  go_enter Tryz.func115, Tryz.ntmps115
  go_wp2_with fail
  refine HC.out.mono ?_
  rintro e w1 ⟨rfl, h1, h2⟩
  go_wp2_with fail
  go_ret
  exact ⟨rfl, h1, h2⟩
theorem each_Int (A : Option Addr) (b o n cap : Nat) (y0 y1 : Nat) (c0 : Nat → Value) (q : Nat → Bool) (S : Nat → Prop) (I : Nat → World → Prop) (w : World) (hn : n ≤ maxLen) (hA : 0 < n → A = some ⟨b, o, none⟩)
    (hS : ∀ k, S k → k < w.heap.size) (hst : ∀ i W W', I i W → Below W.heap.size W W' → I i W')
    (hr : ∀ i W, i < n → I i W → W.cell? ⟨b, o + i, none⟩ = some (c0 i))
    (hH : ∀ i W, i < n → (∀ j, j < i → q j = true) → I i W → Calls Tryz.prog 111 #[c0 i, .pointer (some ⟨y0, 0, none⟩), .pointer (some ⟨y1, 0, none⟩)] W fun e w' => e = .returned (.bool (q i)) ∧ I (i + 1) w' ∧ Fo S W w') (h0 : I 0 w) :
    Calls Tryz.prog 110 #[.slice A n cap, .func (.func 111) #[] #[.pointer (some ⟨y0, 0, none⟩), .pointer (some ⟨y1, 0, none⟩)]] w fun e w' => e = .returned (.bool ((List.range n).all q)) ∧ Upto n I w' ((List.range n).all q) ∧ Fo S w w' := by
  have hb0 : Below w.heap.size w (w.alloc (.cells #[.func (.func 111) #[] #[.pointer (some ⟨y0, 0, none⟩), .pointer (some ⟨y1, 0, none⟩)]] 55)) := (Below.refl _ _).alloc (Nat.le_refl _) _
  have hb1 : Blk (w.alloc (.cells #[.func (.func 111) #[] #[.pointer (some ⟨y0, 0, none⟩), .pointer (some ⟨y1, 0, none⟩)]] 55)) w.heap.size 55 [.func (.func 111) #[] #[.pointer (some ⟨y0, 0, none⟩), .pointer (some ⟨y1, 0, none⟩)]] := Blk.new _ _ _
  have hC := cf_Int A b o n cap w.heap.size c0 (fun i => !q i) S (fun i W => I i W ∧ Blk W w.heap.size 55 [.func (.func 111) #[] #[.pointer (some ⟨y0, 0, none⟩), .pointer (some ⟨y1, 0, none⟩)]]) _ hn hA (fun i W hi h => hr i W hi h.1)
    (fun i W hi hj h => (e1_Int w.heap.size y0 y1 _ (q i) (I i) S W h.2 (hst i) (fun w' => I (i + 1) w') h.1 (fun W' h' => hH i W' hi (fun j hj' => by have := hj j hj'; simpa using this) h')).mono (fun e w' ⟨he, h1, h2⟩ => ⟨he, ⟨h1, h2.blk h.2 (fun hs => by have := hS _ hs; omega)⟩, h2⟩)) ⟨hst 0 _ _ h0 hb0, hb1⟩
  have e1 : (List.range n).any (fun i => !q i) = !(List.range n).all q := range_any_not _ _
  rw [e1] at hC
  have HC := Lib.hid hC; have HB := Lib.hid hb0
  clear hC e1 hb0 hb1 hA hS hst hr hH h0
  generalize (List.range n).all q = R at *
  go_enter Tryz.func110, Tryz.ntmps110
  go_wp2_with fail
  refine HC.out.mono ?_
  rintro e w1 ⟨rfl, hk, hf⟩
  have HK := Lib.hid hk; have HF := Lib.hid hf
  clear hk hf
  cases R
  all_goals
    go_wp2_with fail
    go_ret
    refine ⟨rfl, ?_, (Fo.of HB.out S).trans_new HF.out (fun i hi => .inl hi)⟩
    obtain ⟨k, hk, h1, h2⟩ := HK.out
    exact ⟨k, hk, h1.1, fun h => h2 (by first | exact h | cases h | rfl)⟩
end Go.Proofs.YtkaalinoiilmoaaGreat
namespace Go.Proofs.YtkaalinoiilmoaaGreat
open Go.RowKit
set_option linter.unusedVariables false
set_option maxRecDepth 100000
def setB (c : Nat) (f o : Int) : Bool := decide (0 ≤ f ∧ f < c ∧ -2 ≤ o ∧ o ≤ 3)
def setL (l : List Int) (f o : Int) : List Int := if setB l.length f o then l.set f.toNat o else l
def setC (c : Nat) (f o : Int) : Int := if setB c f o then 0 else 200
def ofB (c : Nat) (f : Int) : Bool := decide (0 ≤ f ∧ f < c)
def ofN (l : List Int) (f : Int) : Int := if ofB l.length f then l.getD f.toNat 0 else 0
def ofC (c : Nat) (f : Int) : Int := if ofB c f then 0 else 200
def Tab (w : World) (g : Nat) (l : List Int) : Prop :=
  l.length ≤ 64 ∧ ∃ rest : List Value, rest.length = 64 - l.length ∧ Blk w g 134 (.int .i64 l.length :: (ints l ++ rest))
section
variable {w w' : World} {g : Nat} {l : List Int}
theorem Tab.lt (h : Tab w g l) : g < w.heap.size := by obtain ⟨_, _, _, h⟩ := h; exact h.lt
theorem Tab.count (h : Tab w g l) : w.cell? ⟨g, 0, none⟩ = some (.int .i64 l.length) := by obtain ⟨_, _, _, h⟩ := h; rw [h.cell]; rfl
theorem Tab.at_ (h : Tab w g l) {k : Nat} (hk : k < l.length) : w.cell? ⟨g, 1 + k, none⟩ = some (.int .i64 (l.getD k 0)) := by
  obtain ⟨_, _, _, h⟩ := h
  rw [h.cell, Nat.add_comm, List.getElem?_cons_succ, List.getElem?_append_left (by rw [ints_len]; exact hk), ints_get l k hk]
theorem Tab.frozen (h : Tab w g l) (i : Nat) : w.frozen? ⟨g, i, none⟩ = false := by obtain ⟨_, _, _, h⟩ := h; exact h.frozen i
theorem Tab.set (h : Tab w g l) {k : Nat} (hk : k < l.length) (x : Int) : Tab (w.setCell ⟨g, 1 + k, none⟩ (.int .i64 x)) g (l.set k x) := by
  obtain ⟨hl, rest, hr, h⟩ := h
  refine ⟨by simpa using hl, rest, by simpa using hr, ?_⟩
  have := h.set (1 + k) (.int .i64 x)
  rw [Nat.add_comm 1 k, List.set_cons_succ, List.set_append_left _ _ (by rw [ints_len]; exact hk), ints_set] at this
  rw [Nat.add_comm 1 k]
  simpa using this
theorem Tab.drewN (h : Tab w g l) (n : Nat) : Tab (w.drewN n) g l := h
theorem Tab.below {B : Nat} (h : Tab w g l) (hb : Below B w w') (hg : g < B) : Tab w' g l := by obtain ⟨hl, r, hr, h⟩ := h; exact ⟨hl, r, hr, h.below hb hg⟩
theorem Tab.grown {row : Option Nat} (h : Tab w g l) (hb : w.grownBy w' row) (hg : some g ≠ row) : Tab w' g l := by obtain ⟨hl, r, hr, h⟩ := h; exact ⟨hl, r, hr, h.grown hb hg⟩
end
end Go.Proofs.YtkaalinoiilmoaaGreat
namespace Go.Proofs.YtkaalinoiilmoaaGreat
open Go.RowKit
set_option linter.unusedVariables false
set_option maxRecDepth 100000
theorem has_any_Frames (g : Nat) (l : List Int) (f : Int) (w : World) (h : Tab w g l) :
    Calls Tryz.prog 103 #[.pointer (some ⟨g, 0, none⟩), .int .i64 f] w fun e w' => e = .returned (.bool (ofB l.length f)) ∧ w = w' := by
  have hc := h.count
  have hl : l.length ≤ 64 := h.1
  have H := Lib.hid h; clear h
  by_cases h0 : 0 ≤ f
  · by_cases h1 : f < (l.length : Int)
    · have HB := Lib.hid (show ofB l.length f = true from decide_eq_true ⟨h0, h1⟩)
      go_enter Tryz.func103, Tryz.ntmps103
      go_wp2
      go_ret
      exact ⟨by rw [HB.out]; rfl, rfl⟩
    · have HB := Lib.hid (show ofB l.length f = false from decide_eq_false (by omega))
      go_enter Tryz.func103, Tryz.ntmps103
      go_wp2
      go_ret
      exact ⟨by rw [HB.out]; rfl, rfl⟩
  · have HB := Lib.hid (show ofB l.length f = false from decide_eq_false (by omega))
    go_enter Tryz.func103, Tryz.ntmps103
    go_wp2
    go_ret
    exact ⟨by rw [HB.out]; rfl, rfl⟩
def isB (o : Int) : Bool := decide (-2 ≤ o ∧ o ≤ 3)
theorem is_any (o : Int) (w : World) :
    Calls Tryz.prog 116 #[.int .i64 o] w fun e w' => e = .returned (.bool (isB o)) ∧ w = w' := by
  by_cases hy : isB o = true
  · rw [hy]
    simp only [isB, decide_eq_true_eq] at hy
    obtain ⟨h1, h2⟩ := hy
    by_cases h3 : o = -1
    · subst h3
      go_enter Tryz.func116, Tryz.ntmps116
      go_wp2
      go_ret
      exact ⟨rfl, rfl⟩
    · by_cases h4 : o = -2
      · subst h4
        go_enter Tryz.func116, Tryz.ntmps116
        go_wp2
        go_ret
        exact ⟨rfl, rfl⟩
      · have h5 : 0 ≤ o := by omega
        have hd : decide (o < 4) = true := by simp; omega
        clear h1
        go_enter Tryz.func116, Tryz.ntmps116
        go_wp2
        go_ret
        exact ⟨rfl, rfl⟩
  · have hn : isB o = false := by simpa using hy
    rw [hn]
    simp only [isB, decide_eq_false_iff_not] at hn
    clear hy
    by_cases h0 : 0 ≤ o
    · have h1 : decide (o < 4) = false := by simp; omega
      clear hn
      go_enter Tryz.func116, Tryz.ntmps116
      go_wp2
      go_ret
      exact ⟨rfl, rfl⟩
    · have h1 : o ≤ -3 := by omega
      clear hn
      go_enter Tryz.func116, Tryz.ntmps116
      go_wp2
      go_ret
      exact ⟨rfl, rfl⟩
theorem pset_any (g : Nat) (l : List Int) (f o : Int) (w : World) (h : Tab w g l) :
    Calls Tryz.prog 112 #[.pointer (some ⟨g, 0, none⟩), .int .i64 f, .int .i64 o] w fun e w' => e = .returned (.int .i64 (setC l.length f o)) ∧ Tab w' g (setL l f o) ∧ w.grownBy w' (some g) := by
  have H := Lib.hid h
  by_cases hb : ofB l.length f = true
  · by_cases ho : isB o = true
    · have hs : setB l.length f o = true := by
        simp only [ofB, isB, setB, decide_eq_true_eq] at *; omega
      have HL := Lib.hid (show setL l f o = l.set f.toNat o by simp [setL, hs])
      have HC := Lib.hid (show setC l.length f o = 0 by simp [setC, hs])
      have h0 : 0 ≤ f ∧ f < l.length := by simpa [ofB] using hb
      have hl : l.length ≤ 64 := h.1
      obtain ⟨h0, h1⟩ := h0
      obtain ⟨k, rfl⟩ := Int.eq_ofNat_of_zero_le h0
      have hc := h.at_ (k := k) (by omega)
      have hf := h.frozen (1 + k)
      have HB := Lib.hid hb; have HO := Lib.hid ho; clear hb ho hs h
      go_enter Tryz.func112, Tryz.ntmps112
      go_wp2_with fail
      refine (has_any_Frames g l _ _ H.out).mono ?_
      rintro e w' ⟨rfl, rfl⟩
      rw [HB.out]
      go_wp2_with fail
      refine (is_any _ _).mono ?_
      rintro e w' ⟨rfl, rfl⟩
      rw [HO.out]
      go_wp2_with fail
      go_ret
      exact ⟨by rw [HC.out]; rfl, by rw [HL.out]; exact H.out.set (by omega) _, gone _⟩
    · have ho' : isB o = false := by simpa using ho
      have hs : setB l.length f o = false := by
        simp only [ofB, isB, setB, decide_eq_true_eq, decide_eq_false_iff_not] at *; omega
      have HL := Lib.hid (show setL l f o = l by simp [setL, hs])
      have HC := Lib.hid (show setC l.length f o = 200 by simp [setC, hs])
      have HB := Lib.hid hb; have HO := Lib.hid ho'; clear hb ho hs h ho'
      go_enter Tryz.func112, Tryz.ntmps112
      go_wp2_with fail
      refine (has_any_Frames g l _ _ H.out).mono ?_
      rintro e w' ⟨rfl, rfl⟩
      rw [HB.out]
      go_wp2_with fail
      refine (is_any _ _).mono ?_
      rintro e w' ⟨rfl, rfl⟩
      rw [HO.out]
      go_wp2_with fail
      go_ret
      exact ⟨by rw [HC.out]; rfl, by rw [HL.out]; exact H.out, grefl _ _⟩
  · have hb' : ofB l.length f = false := by simpa using hb
    have hs : setB l.length f o = false := by
      simp only [ofB, setB, decide_eq_true_eq, decide_eq_false_iff_not] at *; omega
    have HL := Lib.hid (show setL l f o = l by simp [setL, hs])
    have HC := Lib.hid (show setC l.length f o = 200 by simp [setC, hs])
    have HB := Lib.hid hb'; clear hb hs h hb'
    go_enter Tryz.func112, Tryz.ntmps112
    go_wp2_with fail
    refine (has_any_Frames g l _ _ H.out).mono ?_
    rintro e w' ⟨rfl, rfl⟩
    rw [HB.out]
    go_wp2_with fail
    go_ret
    exact ⟨by rw [HC.out]; rfl, by rw [HL.out]; exact H.out, grefl _ _⟩
theorem pof_any (g : Nat) (l : List Int) (f : Int) (w : World) (h : Tab w g l) :
    Calls Tryz.prog 87 #[.pointer (some ⟨g, 0, none⟩), .int .i64 f] w fun e w' => e = .returned (.tuple #[.int .i64 (ofN l f), .int .i64 (ofC l.length f)]) ∧ w = w' := by
  have H := Lib.hid h
  by_cases hb : ofB l.length f = true
  · have HN := Lib.hid (show ofN l f = l.getD f.toNat 0 by simp [ofN, hb])
    have HC := Lib.hid (show ofC l.length f = 0 by simp [ofC, hb])
    have h0 : 0 ≤ f ∧ f < l.length := by simpa [ofB] using hb
    have hl : l.length ≤ 64 := h.1
    obtain ⟨h0, h1⟩ := h0
    obtain ⟨k, rfl⟩ := Int.eq_ofNat_of_zero_le h0
    have hc := h.at_ (k := k) (by omega)
    simp only [Int.toNat_natCast] at HN
    generalize l.getD k 0 = q at hc HN
    have HB := Lib.hid hb; clear hb h
    go_enter Tryz.func87, Tryz.ntmps87
    go_wp2_with fail
    refine (has_any_Frames g l _ _ H.out).mono ?_
    rintro e w' ⟨rfl, rfl⟩
    rw [HB.out]
    go_wp2_with fail
    go_ret2
    exact ⟨by rw [HC.out, HN.out]; rfl, rfl⟩
  · have hb' : ofB l.length f = false := by simpa using hb
    have HN := Lib.hid (show ofN l f = 0 by simp [ofN, hb'])
    have HC := Lib.hid (show ofC l.length f = 200 by simp [ofC, hb'])
    have HB := Lib.hid hb'; clear hb h hb'
    go_enter Tryz.func87, Tryz.ntmps87
    go_wp2_with fail
    refine (has_any_Frames g l _ _ H.out).mono ?_
    rintro e w' ⟨rfl, rfl⟩
    rw [HB.out]
    go_wp2_with fail
    go_ret2
    exact ⟨by rw [HC.out, HN.out]; rfl, rfl⟩
end Go.Proofs.YtkaalinoiilmoaaGreat
namespace Go.Proofs.YtkaalinoiilmoaaGreat
open Go.RowKit
set_option linter.unusedVariables false
set_option maxRecDepth 100000
def free (c : Nat) : List Int := List.replicate c (-1)
theorem free_len (c : Nat) : (free c).length = c := by simp [free]
def zOwn : Array Value := (Value.int .i64 0 :: List.replicate 64 (Value.int .i64 0)).toArray
theorem zOwn_ne : ¬ (zOwn = #[]) := by simp [zOwn]
theorem zOwn_run (w : World) : Sem.run Tryz.prog (zeroValue 134) w = .ok (.agg zOwn) w := by
  have hi : (Tryz.prog.info? 134).map (fun i => i.zero) = some (some (.agg zOwn)) := by kernel_rfl
  cases h : Tryz.prog.info? 134 with
  | none => rw [h] at hi; cases hi
  | some i =>
    rw [h] at hi
    simp only [Option.map_some, Option.some.injEq] at hi
    simp [zeroValue, typeInfo, h, hi]
theorem zOwn_set (c : Int) : zOwn.setIfInBounds 0 (.int .i64 c) = (Value.int .i64 c :: (ints (free 0) ++ List.replicate 64 (Value.int .i64 0))).toArray := by
  simp [zOwn, free, ints]
def Half (w : World) (g c k : Nat) : Prop := ∃ rest : List Value, rest.length = 64 - k ∧ Blk w g 134 (.int .i64 c :: (ints (free k) ++ rest))
theorem Half.step {w : World} {g c k : Nat} (h : Half w g c k) (hk : k < 64) : (∃ u, w.cell? ⟨g, 1 + k, none⟩ = some u) ∧ w.frozen? ⟨g, 1 + k, none⟩ = false ∧ Half (w.setCell ⟨g, 1 + k, none⟩ (.int .i64 (-1))) g c (k + 1) := by
  obtain ⟨rest, hr, h⟩ := h
  match rest, hr with
  | [], hr => simp at hr; omega
  | u :: rest, hr =>
    have hl : (ints (free k)).length = k := by rw [ints_len, free_len]
    refine ⟨⟨u, ?_⟩, h.frozen _, rest, by simp at hr; omega, ?_⟩
    · rw [h.cell, Nat.add_comm, List.getElem?_cons_succ, List.getElem?_append_right (by omega), hl, Nat.sub_self]; rfl
    · have h' := h.set (1 + k) (.int .i64 (-1))
      rw [Nat.add_comm 1 k, List.set_cons_succ, List.set_append_right _ _ (by omega), hl, Nat.sub_self, List.set_cons_zero] at h'
      rw [Nat.add_comm 1 k]
      have e : ints (free (k + 1)) = ints (free k) ++ [Value.int .i64 (-1)] := by simp [ints, free, List.replicate_succ']
      rw [e, List.append_assoc]
      exact h'
theorem Half.tab {w : World} {g c : Nat} (h : Half w g c c) (hc : c ≤ 64) : Tab w g (free c) := by
  obtain ⟨rest, hr, h⟩ := h
  refine ⟨by rw [free_len]; exact hc, rest, by rw [free_len]; exact hr, by rw [free_len]; exact h⟩
theorem onew_yes (c : Nat) (w : World) (h1 : 1 ≤ c) (h2 : c ≤ 64) :
    Calls Tryz.prog 98 #[.int .i64 c] w fun e w' => e = .returned (.tuple #[.pointer (some ⟨w.heap.size, 0, none⟩), .int .i64 0]) ∧ Tab w' w.heap.size (free c) ∧ Below w.heap.size w w' := by
  have hz := zOwn_run
  have hne := zOwn_ne
  have h3 : decide ((c : Int) < 1) = false := by simp; omega
  have h4 : decide ((64 : Int) < c) = false := by simp; omega
  go_enter Tryz.func98, Tryz.ntmps98
  go_wp2
  have hw : Half (w.alloc (.cells (zOwn.setIfInBounds 0 (.int .i64 c)) 134)) w.heap.size c 0 := by
    rw [zOwn_set]; exact ⟨_, by simp, Blk.new _ _ _⟩
  have hb : Below w.heap.size w (w.alloc (.cells (zOwn.setIfInBounds 0 (.int .i64 c)) 134)) := (Below.refl _ _).alloc (Nat.le_refl _) _
  generalize w.alloc (.cells (zOwn.setIfInBounds 0 (.int .i64 c)) 134) = w1 at *
  clear hz hne h3 h4
  go_loopw [16] (fun i wr => ∃ k : Nat, k ≤ c ∧ i = .int .i64 k ∧ Half wr w.heap.size c k ∧ Below w.heap.size w wr) (fun i _ => c - (intOf i).toNat)
  case atStart => exact ⟨0, by omega, rfl, hw, hb⟩
  case round =>
    obtain ⟨k, hk, rfl, hh, hbel⟩ := hrel
    by_cases hlt : k < c
    · obtain ⟨⟨u, hc⟩, hf, hh'⟩ := hh.step (by omega)
      clear hw hb hh
      go_wp2
      go_roundw
      case rel => exact ⟨k + 1, by omega, by go_num, hh', hbel.setCell (Nat.le_refl _) _⟩
      case measure => simp [intOf]; omega
    · obtain rfl : k = c := by omega
      go_wp2
      go_ret2
      exact ⟨rfl, hh.tab h2, hbel⟩
end Go.Proofs.YtkaalinoiilmoaaGreat
namespace Go.Proofs.YtkaalinoiilmoaaGreat
open Go.RowKit
set_option linter.unusedVariables false
set_option linter.unusedSimpArgs false
set_option maxRecDepth 100000
theorem Fo.nos {w w' : World} (h : Fo nos w w') : Below w.heap.size w w' := h.below (Below.refl _ _) (Nat.le_refl _) (fun _ h => h.elim)
theorem nos_lt {w : World} : ∀ k, nos k → k < w.heap.size := fun _ h => h.elim
section
variable {w : World} {c : Cf} {vp vd vw vg : Value}
theorem partsmay_any (h : CfAt w vp vd vw vg c) : Calls Tryz.prog 56 #[.agg #[.int .i64 c.fr, vp, vd, .int .i64 c.mj, vw, vg, .int .i64 c.se, .int .i64 c.qu, .int .i64 c.qt]] w fun e w' => e = .returned (.bool (psB c)) ∧ Below w.heap.size w w' := by
  obtain ⟨hb, hB⟩ := cf_box w c vp vd vw vg
  obtain ⟨-, k1, -⟩ := cf_at hb
  have h1 := h.below hB
  have hz := h.pz.1
  obtain ⟨A, cap, b, o, sv, rfl, hA, hr⟩ := h1.ps.rows
  have hw1 : w.heap.size + 1 = (w.alloc (.cells #[.int .i64 c.fr, .slice A c.ps.length cap, vd, .int .i64 c.mj, vw, vg, .int .i64 c.se, .int .i64 c.qu, .int .i64 c.qt] 27)).heap.size := by simp
  have HB := Lib.hid hB
  have HE : Hid (Calls Tryz.prog 77 #[.slice A c.ps.length cap, .func (.func 78) #[] #[]] _ _) := Lib.hid (each_Part A b o c.ps.length cap (fun i => .int .i64 (c.ps.getD i paD).lv) (fun i => .int .i64 (c.ps.getD i paD).ct) sv (fun i => .int .i64 (c.ps.getD i paD).fi) (fun i => .int .i64 (c.ps.getD i paD).co)
    (fun i => paB (c.ps.getD i paD)) nos (fun _ W => Below (w.heap.size + 1) (w.alloc (.cells #[.int .i64 c.fr, .slice A c.ps.length cap, vd, .int .i64 c.mj, vw, vg, .int .i64 c.se, .int .i64 c.qu, .int .i64 c.qt] 27)) W) (w.alloc (.cells #[.int .i64 c.fr, .slice A c.ps.length cap, vd, .int .i64 c.mj, vw, vg, .int .i64 c.se, .int .i64 c.qu, .int .i64 c.qt] 27)) (by unfold maxLen; omega) (fun h0 => (hA h0).1) nos_lt
    (fun i W W' hI hW => Below.down hI hW (by have := hI.size; omega))
    (fun i W hi hI => by
      have hlt := (hA (by omega)).2
      have g := fun x => hI.cell (p := ⟨b, x, none⟩) (show b < w.heap.size + 1 by omega)
      obtain ⟨⟨q0, q1, q2, q3, q4⟩, -⟩ := hr i hi
      exact ⟨(g _).trans q0, (g _).trans q1, (g _).trans q2, (g _).trans q3, (g _).trans q4⟩)
    (fun i W hi _ hI => by
      obtain ⟨-, A2, c2, e2, -⟩ := hr i hi
      rw [e2]
      refine (pm1_any (c.ps.getD i paD) A2 _ c2 rfl W).mono ?_
      rintro e w' ⟨rfl, hb⟩
      exact ⟨rfl, Below.down hI hb (by have := hI.size; omega), Fo.of hb _⟩)
    (by rw [hw1]; exact Below.refl _ _))
  rw [all_range c.ps paD paB] at HE
  have HX : Hid (psB c = (btw 1 4 c.ps.length && c.ps.all paB)) := Lib.hid rfl
  clear h h1 hb hB hA hr hw1
  generalize c.ps.all paB = R at *
  generalize psB c = Q at *
  have hs : w.heap.size ≤ w.heap.size + 1 := by omega
  cases hc : btw 1 4 c.ps.length with
  | false =>
    obtain rfl : Q = false := by rw [HX.out, hc]; rfl
    have HF := Lib.hid hc
    clear hc HE
    go_enter Tryz.func56, Tryz.ntmps56
    go_wp2_with fail
    refine (isfrom_any _ _ _ _).mono ?_
    rintro e w1 ⟨rfl, rfl⟩
    rw [HF.out]
    go_wp2_with fail
    go_ret
    exact ⟨rfl, HB.out⟩
  | true =>
    obtain rfl : Q = R := by rw [HX.out, hc]; rfl
    have HF := Lib.hid hc
    clear hc
    go_enter Tryz.func56, Tryz.ntmps56
    go_wp2_with fail
    refine (isfrom_any _ _ _ _).mono ?_
    rintro e w1 ⟨rfl, rfl⟩
    rw [HF.out]
    go_wp2_with fail
    refine HE.out.mono ?_
    rintro e w2 ⟨rfl, -, hf⟩
    have hb2 := Below.down HB.out hf.nos HB.out.size
    clear hf
    go_wp2_with fail
    go_ret
    exact ⟨rfl, hb2⟩
theorem dm1_any (x : De) (A2 : Option Addr) (n2 c2 g : Nat) (hn : n2 = x.po.length) (hg : Blk w g 27 (cfc c vp vd vw vg)) (h : CfAt w vp vd vw vg c) :
    Calls Tryz.prog 81 #[.agg #[.int .i64 x.pt, .slice A2 n2 c2], .pointer (some ⟨g, 0, none⟩)] w fun e w' => e = .returned (.bool (dvB_Cf0 c.ps.length x)) ∧ Below w.heap.size w w' := by
  have hb : Blk (w.alloc (.cells #[.int .i64 x.pt, .slice A2 n2 c2] 46)) w.heap.size 46 [.int .i64 x.pt, .slice A2 n2 c2] := Blk.new _ _ _
  have hB : Below w.heap.size w (w.alloc (.cells #[.int .i64 x.pt, .slice A2 n2 c2] 46)) := (Below.refl _ _).alloc (Nat.le_refl _) _
  have hg1 := hg.alloc (.cells #[.int .i64 x.pt, .slice A2 n2 c2] 46)
  have hP := haspart_any (h.below hB) x.pt
  obtain ⟨f0, f1, f2, f3, f4, f5, f6, f7, f8⟩ := cf_at hg1
  have k0 := hb.cell 0
  have k1 := hb.cell 1
  simp only [List.getElem?_cons_zero, List.getElem?_cons_succ] at k0 k1
  have HX : Hid (dvB_Cf0 c.ps.length x = (inP c.ps.length x.pt && btw 2 5 (n2 : Int))) := Lib.hid (by rw [hn]; rfl)
  have HP := Lib.hid hP; have HB := Lib.hid hB
  clear hP hb hB hg hg1 h hn
  generalize dvB_Cf0 c.ps.length x = Q at *
  cases hc : inP c.ps.length x.pt with
  | false =>
    obtain rfl : Q = false := by rw [HX.out, hc]; rfl
    rw [hc] at HP
    clear hc HX
    go_enter Tryz.func81, Tryz.ntmps81
    go_wp2_with fail
    refine HP.out.mono ?_
    rintro e w1 ⟨rfl, b1⟩
    go_wp2_with fail
    go_ret
    exact ⟨rfl, Below.down HB.out b1 HB.out.size⟩
  | true =>
    obtain rfl : Q = btw 2 5 (n2 : Int) := by rw [HX.out, hc]; rfl
    rw [hc] at HP
    clear hc HX
    go_enter Tryz.func81, Tryz.ntmps81
    go_wp2_with fail
    refine HP.out.mono ?_
    rintro e w1 ⟨rfl, b1⟩
    have g1 := (b1.cell (p := ⟨w.heap.size, 1, none⟩) (by simp)).trans k1
    go_wp2_with fail
    refine (isfrom_any _ _ _ _).mono ?_
    rintro e w2 ⟨rfl, rfl⟩
    go_wp2_with fail
    go_ret
    exact ⟨rfl, Below.down HB.out b1 HB.out.size⟩
theorem devicesmay_any (h : CfAt w vp vd vw vg c) : Calls Tryz.prog 57 #[.agg #[.int .i64 c.fr, vp, vd, .int .i64 c.mj, vw, vg, .int .i64 c.se, .int .i64 c.qu, .int .i64 c.qt]] w fun e w' => e = .returned (.bool (dsB c)) ∧ Below w.heap.size w w' := by
  obtain ⟨hb, hB⟩ := cf_box w c vp vd vw vg
  obtain ⟨-, -, k2, -⟩ := cf_at hb
  have h1 := h.below hB
  have hz := h.dz.1
  obtain ⟨A, cap, b, o, sv, rfl, hA, hr⟩ := h1.ds.rows
  have hw1 : w.heap.size + 1 = (w.alloc (.cells #[.int .i64 c.fr, vp, .slice A c.ds.length cap, .int .i64 c.mj, vw, vg, .int .i64 c.se, .int .i64 c.qu, .int .i64 c.qt] 27)).heap.size := by simp
  have HB := Lib.hid hB
  have HE := Lib.hid (each_Dev A b o c.ds.length cap w.heap.size (fun i => .int .i64 (c.ds.getD i deD).pt) sv
    (fun i => dvB_Cf0 c.ps.length (c.ds.getD i deD)) nos (fun _ W => Below (w.heap.size + 1) (w.alloc (.cells #[.int .i64 c.fr, vp, .slice A c.ds.length cap, .int .i64 c.mj, vw, vg, .int .i64 c.se, .int .i64 c.qu, .int .i64 c.qt] 27)) W) (w.alloc (.cells #[.int .i64 c.fr, vp, .slice A c.ds.length cap, .int .i64 c.mj, vw, vg, .int .i64 c.se, .int .i64 c.qu, .int .i64 c.qt] 27)) (by unfold maxLen; omega) (fun h0 => (hA h0).1) nos_lt
    (fun i W W' hI hW => Below.down hI hW (by have := hI.size; omega))
    (fun i W hi hI => by
      have hlt := (hA (by omega)).2
      have g := fun x => hI.cell (p := ⟨b, x, none⟩) (show b < w.heap.size + 1 by omega)
      obtain ⟨⟨q0, q1⟩, -⟩ := hr i hi
      exact ⟨(g _).trans q0, (g _).trans q1⟩)
    (fun i W hi _ hI => by
      obtain ⟨-, A2, c2, e2, -⟩ := hr i hi
      rw [e2]
      refine (dm1_any (c.ds.getD i deD) A2 _ c2 w.heap.size rfl (hb.below hI (by omega)) (h1.below (by rw [← hw1]; exact hI))).mono ?_
      rintro e w' ⟨rfl, hb⟩
      exact ⟨rfl, Below.down hI hb (by have := hI.size; omega), Fo.of hb _⟩)
    (by rw [hw1]; exact Below.refl _ _))
  rw [all_range c.ds deD (dvB_Cf0 c.ps.length)] at HE
  have HX : Hid (dsB c = (btw 1 4 c.ds.length && c.ds.all (dvB_Cf0 c.ps.length))) := Lib.hid rfl
  clear h h1 hb hB hA hr hw1
  generalize c.ds.all (dvB_Cf0 c.ps.length) = R at *
  generalize dsB c = Q at *
  cases hc : btw 1 4 c.ds.length with
  | false =>
    obtain rfl : Q = false := by rw [HX.out, hc]; rfl
    have HF := Lib.hid hc
    clear hc HE
    go_enter Tryz.func57, Tryz.ntmps57
    go_wp2_with fail
    refine (isfrom_any _ _ _ _).mono ?_
    rintro e w1 ⟨rfl, rfl⟩
    rw [HF.out]
    go_wp2_with fail
    go_ret
    exact ⟨rfl, HB.out⟩
  | true =>
    obtain rfl : Q = R := by rw [HX.out, hc]; rfl
    have HF := Lib.hid hc
    clear hc
    go_enter Tryz.func57, Tryz.ntmps57
    go_wp2_with fail
    refine (isfrom_any _ _ _ _).mono ?_
    rintro e w1 ⟨rfl, rfl⟩
    rw [HF.out]
    go_wp2_with fail
    refine HE.out.mono ?_
    rintro e w2 ⟨rfl, -, hf⟩
    have hb2 := Below.down HB.out hf.nos HB.out.size
    clear hf
    go_wp2_with fail
    go_ret
    exact ⟨rfl, hb2⟩
end
end Go.Proofs.YtkaalinoiilmoaaGreat
namespace Go.Proofs.YtkaalinoiilmoaaGreat
open Go.RowKit
set_option linter.unusedVariables false
set_option linter.unusedSimpArgs false
set_option maxRecDepth 100000
def tabL (F : Nat) (T : Nat → Int) : List Int := (List.range F).map T
theorem tabL_len (F : Nat) (T : Nat → Int) : (tabL F T).length = F := by simp [tabL]
theorem tabL_at (F : Nat) (T : Nat → Int) (k : Nat) (h : k < F) : (tabL F T).getD k 0 = T k := by simp [tabL, List.getD, h]
theorem tabL_free (F : Nat) : tabL F freeT = free F := by
  unfold tabL freeT free
  rw [List.map_const', List.length_range]
theorem tabL_set (F : Nat) (T : Nat → Int) (k : Nat) (o : Int) : (tabL F T).set k o = tabL F (updT T k o) := by
  apply List.ext_getElem?
  intro i
  rw [List.getElem?_set]
  by_cases h : i < F
  · have e : ∀ T : Nat → Int, (tabL F T)[i]? = some (T i) := fun T => by simp [tabL, h]
    rw [e, e, tabL_len]
    unfold updT
    by_cases hk : k = i
    · subst hk; simp [h]
    · rw [if_neg hk, if_neg (fun e => hk e.symm)]
  · rw [List.getElem?_eq_none (by rw [tabL_len]; omega), List.getElem?_eq_none (by rw [tabL_len]; omega), tabL_len]
    by_cases hk : k = i
    · subst hk; simp [h]
    · rw [if_neg hk]
theorem tabL_setL (F : Nat) (T : Nat → Int) (x o : Int) (h0 : 0 ≤ x) (h1 : x < F) (h2 : -2 ≤ o) (h3 : o ≤ 3) : setL (tabL F T) x o = tabL F (updT T x.toNat o) ∧ setC (tabL F T).length x o = 0 := by
  have hs : setB (tabL F T).length x o = true := by
    unfold setB; rw [tabL_len]; exact decide_eq_true ⟨h0, h1, h2, h3⟩
  unfold setL setC
  rw [hs]
  exact ⟨by rw [if_pos rfl, tabL_set], rfl⟩
theorem tabL_of (F : Nat) (T : Nat → Int) (x : Int) : (ofC (tabL F T).length x = 200 ∧ fgB F T x = false ∧ ¬ (0 ≤ x ∧ x < F)) ∨ (ofC (tabL F T).length x = 0 ∧ ofN (tabL F T) x = T x.toNat ∧ 0 ≤ x ∧ x < F ∧ fgB F T x = decide (T x.toNat = -1)) := by
  by_cases h : 0 ≤ x ∧ x < F
  · right
    have hb : ofB (tabL F T).length x = true := by unfold ofB; rw [tabL_len]; exact decide_eq_true h
    refine ⟨by unfold ofC; rw [hb]; rfl, ?_, h.1, h.2, by unfold fgB; rw [decide_eq_true h]; rfl⟩
    unfold ofN; rw [hb, if_pos rfl, tabL_at _ _ _ (by omega)]
  · left
    have hb : ofB (tabL F T).length x = false := by unfold ofB; rw [tabL_len]; exact decide_eq_false h
    exact ⟨by unfold ofC; rw [hb]; rfl, by unfold fgB; rw [decide_eq_false h]; rfl, h⟩
theorem give1_any (x o : Int) (F g y0 y1 : Nat) (T : Nat → Int) (w : World) (hT : Tab w g (tabL F T)) (h0 : Blk w y0 115 [.pointer (some ⟨g, 0, none⟩)]) (h1 : Blk w y1 3 [.int .i64 o]) (ho : -2 ≤ o ∧ o ≤ 3) :
    Calls Tryz.prog 111 #[.int .i64 x, .pointer (some ⟨y0, 0, none⟩), .pointer (some ⟨y1, 0, none⟩)] w fun e w' => e = .returned (.bool (fgB F T x)) ∧ (∃ T', Tab w' g (tabL F T') ∧ (fgB F T x = true → T' = updT T x.toNat o)) ∧ w.grownBy w' (some g) := by
  have k0 := h0.cell 0
  have k1 := h1.cell 0
  simp only [List.getElem?_cons_zero] at k0 k1
  have hO := pof_any g (tabL F T) x w hT
  have hS := pset_any g (tabL F T) x o w hT
  have HT := Lib.hid hT
  clear h0 h1
  rcases tabL_of F T x with ⟨e1, e2, e3⟩ | ⟨e1, e2, e3, e4, e5⟩
  · rw [e2]
    rw [e1] at hO
    generalize ofN (tabL F T) x = N at *
    have HO := Lib.hid hO
    clear hO hS hT e1 e2 e3
    go_enter Tryz.func111, Tryz.ntmps111
    go_wp2_with fail
    refine HO.out.mono ?_
    rintro e w1 ⟨rfl, rfl⟩
    go_wp2_with fail
    go_ret
    exact ⟨rfl, ⟨T, HT.out, fun h => by cases h⟩, grefl _ _⟩
  · rw [e1, e2] at hO
    rw [e5]
    obtain ⟨s1, s2⟩ := tabL_setL F T x o e3 e4 ho.1 ho.2
    rw [s1, s2] at hS
    have HU : Hid (∀ T' : Nat → Int, T' = updT T x.toNat o → T' = updT T x.toNat o) := Lib.hid fun _ h => h
    generalize updT T x.toNat o = U at *
    generalize T x.toNat = N at *
    have HO := Lib.hid hO; have HS := Lib.hid hS
    clear hO hS hT e1 e2 e3 e4 e5 s1 s2 ho
    by_cases hN : N = -1
    · subst hN
      go_enter Tryz.func111, Tryz.ntmps111
      go_wp2_with fail
      refine HO.out.mono ?_
      rintro e w1 ⟨rfl, rfl⟩
      go_wp2_with fail
      refine HS.out.mono ?_
      rintro e w2 ⟨rfl, ht, hg⟩
      go_wp2_with fail
      go_ret
      exact ⟨rfl, ⟨U, ht, fun _ => rfl⟩, hg⟩
    · have hN2 : (N == -1) = false := by simpa using hN
      have hR : decide (N = -1) = false := decide_eq_false hN
      have HR := Lib.hid hR
      clear hR hN
      go_enter Tryz.func111, Tryz.ntmps111
      go_wp2_with fail
      refine HO.out.mono ?_
      rintro e w1 ⟨rfl, rfl⟩
      go_wp2_with fail
      go_ret
      exact ⟨by rw [HR.out]; rfl, ⟨T, HT.out, fun h => by rw [HR.out] at h; cases h⟩, grefl _ _⟩
def GvI (W0 : World) (F g y0 y1 : Nat) (T : Nat → Int) (o : Int) (l : List Int) (i : Nat) (W : World) : Prop :=
  (∃ T', Tab W g (tabL F T') ∧ ((∀ j, j < i → fgB F (giT o T (l.take j)) (l.getD j 0) = true) → T' = giT o T (l.take i))) ∧ Below W0.heap.size W0 W ∧ Blk W y0 115 [.pointer (some ⟨g, 0, none⟩)] ∧ Blk W y1 3 [.int .i64 o]
theorem Fo.bel {W0 w w' : World} {g : Nat} (h : Fo (· = g) w w') (hb : Below W0.heap.size W0 w) (hg : W0.heap.size ≤ g) : Below W0.heap.size W0 w' := h.below hb hb.size (fun i e => by omega)
theorem give_any (v : Value) (l : List Int) (o : Int) (F g : Nat) (T : Nat → Int) (W0 w : World) (hs : Sl W0 v l.length 1 (ints l)) (hn : l.length ≤ maxLen) (hb : Below W0.heap.size W0 w) (hg : W0.heap.size ≤ g) (hT : Tab w g (tabL F T)) (ho : -2 ≤ o ∧ o ≤ 3) :
    Calls Tryz.prog 99 #[.pointer (some ⟨g, 0, none⟩), .int .i64 o, v] w fun e w' => e = .returned (.bool (giB F o T l)) ∧ (∃ T', Tab w' g (tabL F T') ∧ (giB F o T l = true → T' = giT o T l)) ∧ Fo (· = g) w w' := by
  obtain ⟨A, cap, rfl, _, _, hA⟩ := hs
  have hglt := hT.lt
  have b1 : Below w.heap.size w (w.alloc (.cells #[.pointer (some ⟨g, 0, none⟩)] 115)) := (Below.refl _ _).alloc (Nat.le_refl _) _
  have b2 : Below w.heap.size w ((w.alloc (.cells #[.pointer (some ⟨g, 0, none⟩)] 115)).alloc (.cells #[.int .i64 o] 3)) := b1.alloc b1.size _
  have k0 : Blk ((w.alloc (.cells #[.pointer (some ⟨g, 0, none⟩)] 115)).alloc (.cells #[.int .i64 o] 3)) w.heap.size 115 [.pointer (some ⟨g, 0, none⟩)] := (Blk.new w _ [.pointer (some ⟨g, 0, none⟩)]).alloc _
  have k1 : Blk ((w.alloc (.cells #[.pointer (some ⟨g, 0, none⟩)] 115)).alloc (.cells #[.int .i64 o] 3)) (w.heap.size + 1) 3 [.int .i64 o] := by
    have := Blk.new (w.alloc (.cells #[.pointer (some ⟨g, 0, none⟩)] 115)) 3 [.int .i64 o]
    simpa using this
  have hsz : ((w.alloc (.cells #[.pointer (some ⟨g, 0, none⟩)] 115)).alloc (.cells #[.int .i64 o] 3)).heap.size = w.heap.size + 1 + 1 := by simp
  obtain ⟨b, oo, hbo⟩ : ∃ b oo, 0 < l.length → A = some ⟨b, oo, none⟩ ∧ b < W0.heap.size ∧ ∀ j u, (ints l)[j]? = some u → W0.cell? ⟨b, oo + j, none⟩ = some u := by
    by_cases h0 : 0 < l.length
    · obtain ⟨b, oo, h1, h2, h3⟩ := hA h0
      exact ⟨b, oo, fun _ => ⟨h1, h2, h3⟩⟩
    · exact ⟨0, 0, fun h => absurd h h0⟩
  have hE := each_Int A b oo l.length cap w.heap.size (w.heap.size + 1) (fun i => .int .i64 (l.getD i 0)) (fun i => fgB F (giT o T (l.take i)) (l.getD i 0)) (· = g) (GvI W0 F g w.heap.size (w.heap.size + 1) T o l)
    ((w.alloc (.cells #[.pointer (some ⟨g, 0, none⟩)] 115)).alloc (.cells #[.int .i64 o] 3)) hn (fun h0 => (hbo h0).1) (fun k hk => by rw [hk]; omega)
    (fun i W W' ⟨⟨T', h1, h2⟩, h3, h4, h5⟩ hW => ⟨⟨T', h1.below hW h1.lt, h2⟩, Below.down h3 hW h3.size, h4.below hW h4.lt, h5.below hW h5.lt⟩)
    (fun i W hi ⟨_, h3, _⟩ => by
      obtain ⟨_, h2, h4⟩ := hbo (by omega)
      exact (h3.cell (p := ⟨b, oo + i, none⟩) h2).trans (h4 _ _ (ints_get l i hi)))
    (fun i W hi hj ⟨⟨T', h1, h2⟩, h3, h4, h5⟩ => by
      rw [h2 hj] at h1
      refine (give1_any (l.getD i 0) o F g _ _ _ W h1 h4 h5 ho).mono ?_
      rintro e w' ⟨rfl, ⟨T2, q1, q2⟩, q3⟩
      have hf : Fo (· = g) W w' := (Fo.refl _ _).grown q3 (fun x hx => .inl (by injection hx with hx; exact hx.symm))
      refine ⟨rfl, ⟨⟨T2, q1, fun hall => ?_⟩, hf.bel h3 hg, hf.blk h4 (fun e => by omega), hf.blk h5 (fun e => by omega)⟩, hf⟩
      rw [q2 (hall i (by omega)), giT_take o l T i hi])
    ⟨⟨T, hT.below b2 hglt, fun _ => rfl⟩, Below.down hb b2 hb.size, k0, k1⟩
  rw [giB_go F o l T] at hE
  have HE := Lib.hid hE
  have HB := Lib.hid b2
  have HI : Hid (∀ w', Upto l.length (GvI W0 F g w.heap.size (w.heap.size + 1) T o l) w' (giB F o T l) → ∃ T', Tab w' g (tabL F T') ∧ (giB F o T l = true → T' = giT o T l)) := Lib.hid (by
    rintro w' ⟨k, hk, ⟨⟨T', h1, h2⟩, -⟩, hkn⟩
    refine ⟨T', h1, fun hg => ?_⟩
    have hkl := hkn hg
    rw [← giB_go F o l T, range_all_iff] at hg
    rw [h2 (fun j hj => hg j (by omega)), hkl, List.take_length])
  clear hE b1 b2 k0 k1 hsz hbo hT hb hA
  generalize giB F o T l = R at *
  go_enter Tryz.func99, Tryz.ntmps99
  go_wp2_with fail
  refine HE.out.mono ?_
  rintro e w1 ⟨rfl, hu, hf⟩
  have HU := Lib.hid (HI.out _ hu)
  have HF := Lib.hid ((Fo.of HB.out (· = g)).trans_new hf (fun i hi => .inl hi))
  clear hu hf
  go_wp2_with fail
  go_ret
  exact ⟨rfl, HU.out, HF.out⟩
end Go.Proofs.YtkaalinoiilmoaaGreat
namespace Go.Proofs.YtkaalinoiilmoaaGreat
open Go.RowKit
set_option linter.unusedVariables false
set_option linter.unusedSimpArgs false
set_option maxRecDepth 100000
def OwnsOf (c : Cf) (w : World) (e : Ending) (w' : World) : Prop :=
  Below w.heap.size w w' ∧ (unB c = true ∧ (∃ g, e = .returned (.pointer (some ⟨g, 0, none⟩)) ∧ w.heap.size ≤ g ∧ Tab w' g (tabL c.fr.toNat (ownM c))) ∨ unB c = false ∧ e = .returned (.pointer none))
def OwA (c : Cf) (w1 : World) (g k : Nat) (W : World) : Prop :=
  Tab W g (tabL c.fr.toNat (gpT 0 freeT (c.ps.take k))) ∧ Below w1.heap.size w1 W ∧ gpB c.fr 0 freeT c.ps = gpB c.fr k (gpT 0 freeT (c.ps.take k)) (c.ps.drop k)
def OwB (c : Cf) (w1 : World) (g k : Nat) (W : World) : Prop :=
  Tab W g (tabL c.fr.toNat (gdT (gpT 0 freeT c.ps) (c.ds.take k))) ∧ Below w1.heap.size w1 W ∧ gpB c.fr 0 freeT c.ps = true ∧ gdB c.fr (gpT 0 freeT c.ps) c.ds = gdB c.fr (gdT (gpT 0 freeT c.ps) (c.ds.take k)) (c.ds.drop k)
section
variable {w : World} {c : Cf} {vp vd vw vg : Value}
set_option maxHeartbeats 2000000 in
theorem owners_any (h : CfAt w vp vd vw vg c) (hF : 1 ≤ c.fr ∧ c.fr ≤ 64) (hp4 : c.ps.length ≤ 4) : Calls Tryz.prog 83 #[.agg #[.int .i64 c.fr, vp, vd, .int .i64 c.mj, vw, vg, .int .i64 c.se, .int .i64 c.qu, .int .i64 c.qt]] w (OwnsOf c w) := by
  obtain ⟨F, hFe⟩ : ∃ F : Nat, c.fr = F := ⟨c.fr.toNat, by omega⟩
  obtain ⟨hb, hB⟩ := cf_box w c vp vd vw vg
  have h1 := h.below hB
  have hFn : c.fr.toNat = F := by omega
  rw [hFe] at hb hB h1 hF
  obtain ⟨A, cap, b, o, sv, rfl, hA, hr⟩ := h1.ps.rows
  obtain ⟨A', cap', b', o', sv', rfl, hA', hr'⟩ := h1.ds.rows
  have hz := h.pz; have hz' := h.dz
  have HZ := Lib.hid hz.2; have HZ' := Lib.hid hz'.2
  have hz1 := hz.1; have hz1' := hz'.1
  obtain ⟨k0, k1, k2, -⟩ := cf_at hb
  have HB := Lib.hid hB; have HK := Lib.hid hb
  have HNW := Lib.hid (fun (W : World) => onew_yes F W (by omega) (by omega))
  have hsz : (w.alloc (.cells #[.int .i64 F, .slice A c.ps.length cap, .slice A' c.ds.length cap', .int .i64 c.mj, vw, vg, .int .i64 c.se, .int .i64 c.qu, .int .i64 c.qt] 27)).heap.size = w.heap.size + 1 := by simp
  have HA := Lib.hid hA; have HA' := Lib.hid hA'; have HR := Lib.hid hr; have HR' := Lib.hid hr'
  have HFe := Lib.hid hFe; have HFn := Lib.hid hFn
  obtain ⟨hF1, hF2⟩ := hF
  rw [hFe] at k0 ⊢
  clear h h1 hb hB hA hr hA' hr' hz hz' hFe hFn
  generalize hn : c.ps.length = n at *
  generalize hn' : c.ds.length = n' at *
  have HN := Lib.hid hn; have HN' := Lib.hid hn'
  clear hn hn'
  go_enter Tryz.func83, Tryz.ntmps83
  go_wp2_with fail
  generalize w.alloc (.cells #[.int .i64 (F : Int), .slice A n cap, .slice A' n' cap', .int .i64 c.mj, vw, vg, .int .i64 c.se, .int .i64 c.qu, .int .i64 c.qt] 27) = w1 at *
  have hsy : w.heap.size ≤ w1.heap.size := by omega
  refine (HNW.out w1).mono ?_
  rintro e w2 ⟨rfl, ht, hb2⟩
  have q1 := (hb2.cell (p := ⟨w.heap.size, 1, none⟩) (show w.heap.size < w1.heap.size by omega)).trans k1
  have q2 := (hb2.cell (p := ⟨w.heap.size, 2, none⟩) (show w.heap.size < w1.heap.size by omega)).trans k2
  have HT0 : Hid (OwA c w1 w1.heap.size 0 w2) := Lib.hid ⟨by rw [HFn.out, List.take_zero]; show Tab w2 _ (tabL F freeT); rw [tabL_free]; exact ht, hb2, by rw [List.take_zero, List.drop_zero]; rfl⟩
  have hlt1 : w.heap.size < w1.heap.size := by omega
  clear ht hb2 HNW
  generalize hge : w1.heap.size = g at *
  have HGE := Lib.hid hge
  clear hge hsz
  go_wp2_with fail
  clear q1 q2 k0
  go_loopw [18] (fun i wr => ∃ k : Nat, k ≤ n ∧ i = .int .i64 k ∧ Hid (OwA c w1 g k wr)) (fun i _ => n - (intOf i).toNat)
  case atStart => exact ⟨0, by omega, rfl, HT0⟩
  case round =>
    obtain ⟨k, hk, rfl, H⟩ := hrel
    obtain ⟨hT, hbel, hgp⟩ := H.out
    by_cases hlt : k < n
    · obtain ⟨rfl, hbw⟩ := HA.out (by omega)
      obtain ⟨⟨r0, r1, r2, r3, r4⟩, hsl⟩ := HR.out k hlt
      have gc := fun x => hbel.cell (p := ⟨b, x, none⟩) (show b < w1.heap.size by have := HGE.out; omega)
      rw [← gc] at r0 r1 r2 r3 r4
      have HSL := Lib.hid hsl
      obtain ⟨A2, c2, e2, -⟩ := hsl
      rw [e2] at r2 HSL
      have hfl : (c.ps.getD k paD).fr.length ≤ maxLen := by have := HZ.out k; unfold maxLen; omega
      have hst := gpB_at c.fr c.ps 0 freeT k (by rw [HN.out]; exact hlt)
      rw [Int.zero_add, Int.zero_add, ← hgp] at hst
      have htk := gpT_take c.ps 0 freeT k (by rw [HN.out]; exact hlt)
      rw [Int.zero_add] at htk
      rw [HFe.out] at hst
      have hws := hbel.size
      have HCL := Lib.hid (fun (W : World) (hW : Below w1.heap.size w1 W) (hT : Tab W g (tabL F (gpT 0 freeT (c.ps.take k)))) => give_any (.slice A2 (c.ps.getD k paD).fr.length c2) (c.ps.getD k paD).fr k F g (gpT 0 freeT (c.ps.take k)) w1 W HSL.out hfl hW (by have := HGE.out; omega) hT (by omega))
      have hFT : ∀ {W : World}, Tab W g (tabL c.fr.toNat (gpT 0 freeT (c.ps.take k))) → Tab W g (tabL F (gpT 0 freeT (c.ps.take k))) := fun h => by rw [← HFn.out]; exact h
      have HST := Lib.hid hst; have HTK := Lib.hid htk; have HBL := Lib.hid hbel; have HTB := Lib.hid (fun (W : World) (hW : Below wr.heap.size wr W) => hFT (hT.below hW hT.lt))
      clear hFT hst htk hbel hT hgp e2 gc hfl
      generalize (c.ps.getD k paD).fr.length = m at *
      go_wp2_with fail
      refine (HCL.out _ (HBL.out.alloc hws _) (HTB.out _ ((Below.refl _ _).alloc (Nat.le_refl _) _))).mono ?_
      rintro e w3 ⟨rfl, ⟨T', q1, q2⟩, hf⟩
      have hb3 : Below w1.heap.size w1 w3 := hf.bel (HBL.out.alloc hws _) (by have := HGE.out; omega)
      have HB3 := Lib.hid hb3; have HQ1 := Lib.hid q1; have HQ2 := Lib.hid q2
      have HGB : Hid (∃ R, giB (F : Int) (k : Int) (gpT 0 freeT (c.ps.take k)) (c.ps.getD k paD).fr = R) := Lib.hid ⟨_, rfl⟩
      obtain ⟨R, hR⟩ := HGB.out
      rw [hR] at HST HQ2 ⊢
      clear hb3 q1 q2 hf HGB hR r0 r1 r2 r3 r4 HCL
      cases R with
      | false =>
        have HUN : Hid (unB c = false) := Lib.hid (by unfold unB; rw [HFe.out, HST.out]; rfl)
        go_wp2_with fail
        go_ret
        exact ⟨Below.down HB.out HB3.out (by have := HGE.out; omega), .inr ⟨HUN.out, rfl⟩⟩
      | true =>
        have HN1 : Hid (OwA c w1 g (k + 1) w3) := Lib.hid ⟨by rw [HTK.out, HFn.out, ← HQ2.out rfl]; exact HQ1.out, HB3.out, by rw [HFe.out, HST.out, Bool.true_and]⟩
        go_wp2_with fail
        go_roundw
        case rel => exact ⟨k + 1, by omega, by go_num, HN1⟩
        case measure => simp [intOf]; omega
    · obtain rfl : k = n := by omega
      have hgt : gpB c.fr 0 freeT c.ps = true := by rw [hgp, List.drop_eq_nil_of_le (by rw [HN.out]; exact Nat.le_refl _)]; rfl
      rw [show c.ps.take k = c.ps by rw [← HN.out, List.take_length]] at hT
      have HB0 : Hid (OwB c w1 g 0 wr) := Lib.hid ⟨by rw [List.take_zero]; exact hT, hbel, hgt, by rw [List.take_zero, List.drop_zero]; rfl⟩
      have q2 := (hbel.cell (p := ⟨w.heap.size, 2, none⟩) (show w.heap.size < w1.heap.size by have := HGE.out; omega)).trans k2
      clear hT hbel hgp hgt
      go_wp2_with fail
      clear q2
      go_loopw [33] (fun i wr => ∃ k : Nat, k ≤ n' ∧ i = .int .i64 k ∧ Hid (OwB c w1 g k wr)) (fun i _ => n' - (intOf i).toNat)
      case atStart => exact ⟨0, by omega, rfl, HB0⟩
      case round =>
        obtain ⟨j, hj, rfl, H2⟩ := hrel
        obtain ⟨hT, hbel, hgp, hgd⟩ := H2.out
        by_cases hlt : j < n'
        · obtain ⟨rfl, hbw⟩ := HA'.out (by omega)
          obtain ⟨⟨r0, r1⟩, hsl⟩ := HR'.out j hlt
          have gc := fun x => hbel.cell (p := ⟨b', x, none⟩) (show b' < w1.heap.size by have := HGE.out; omega)
          rw [← gc] at r0 r1
          have HSL := Lib.hid hsl
          obtain ⟨A2, c2, e2, -⟩ := hsl
          rw [e2] at r1 HSL
          have hfl : (c.ds.getD j deD).po.length ≤ maxLen := by have := HZ'.out j; unfold maxLen; omega
          have hst := gdB_at c.fr c.ds (gpT 0 freeT c.ps) j (by rw [HN'.out]; exact hlt)
          rw [← hgd] at hst
          have htk := gdT_take c.ds (gpT 0 freeT c.ps) j (by rw [HN'.out]; exact hlt)
          rw [HFe.out] at hst
          have hws := hbel.size
          have HCL := Lib.hid (fun (W : World) (hW : Below w1.heap.size w1 W) (hT : Tab W g (tabL F (gdT (gpT 0 freeT c.ps) (c.ds.take j)))) => give_any (.slice A2 (c.ds.getD j deD).po.length c2) (c.ds.getD j deD).po (-2) F g (gdT (gpT 0 freeT c.ps) (c.ds.take j)) w1 W HSL.out hfl hW (by have := HGE.out; omega) hT (by omega))
          have hFT : ∀ {W : World}, Tab W g (tabL c.fr.toNat (gdT (gpT 0 freeT c.ps) (c.ds.take j))) → Tab W g (tabL F (gdT (gpT 0 freeT c.ps) (c.ds.take j))) := fun h => by rw [← HFn.out]; exact h
          have HST := Lib.hid hst; have HTK := Lib.hid htk; have HBL := Lib.hid hbel; have HTB := Lib.hid (fun (W : World) (hW : Below wr.heap.size wr W) => hFT (hT.below hW hT.lt)); have HGP := Lib.hid hgp
          clear hFT hst htk hbel hT hgd e2 gc hfl hgp
          generalize (c.ds.getD j deD).po.length = m at *
          go_wp2_with fail
          refine (HCL.out _ (HBL.out.alloc hws _) (HTB.out _ ((Below.refl _ _).alloc (Nat.le_refl _) _))).mono ?_
          rintro e w3 ⟨rfl, ⟨T', q1, q2⟩, hf⟩
          have hb3 : Below w1.heap.size w1 w3 := hf.bel (HBL.out.alloc hws _) (by have := HGE.out; omega)
          have HB3 := Lib.hid hb3; have HQ1 := Lib.hid q1; have HQ2 := Lib.hid q2
          have HGB : Hid (∃ R, giB (F : Int) (-2) (gdT (gpT 0 freeT c.ps) (c.ds.take j)) (c.ds.getD j deD).po = R) := Lib.hid ⟨_, rfl⟩
          obtain ⟨R, hR⟩ := HGB.out
          rw [hR] at HST HQ2 ⊢
          clear hb3 q1 q2 hf HGB hR r0 r1 HCL
          cases R with
          | false =>
            have HUN : Hid (unB c = false) := Lib.hid (by unfold unB; rw [HFe.out, HST.out]; simp)
            go_wp2_with fail
            go_ret
            exact ⟨Below.down HB.out HB3.out (by have := HGE.out; omega), .inr ⟨HUN.out, rfl⟩⟩
          | true =>
            have HN1 : Hid (OwB c w1 g (j + 1) w3) := Lib.hid ⟨by rw [HTK.out, HFn.out, ← HQ2.out rfl]; exact HQ1.out, HB3.out, HGP.out, by rw [HFe.out, HST.out, Bool.true_and]⟩
            go_wp2_with fail
            go_roundw
            case rel => exact ⟨j + 1, by omega, by go_num, HN1⟩
            case measure => simp [intOf]; omega
        · obtain rfl : j = n' := by omega
          have HGT : Hid (unB c = true) := Lib.hid (by unfold unB; rw [hgp, hgd, List.drop_eq_nil_of_le (by rw [HN'.out]; exact Nat.le_refl _)]; rfl)
          rw [show c.ds.take j = c.ds by rw [← HN'.out, List.take_length]] at hT
          have HTB := Lib.hid hT; have HBL := Lib.hid hbel
          clear hT hbel hgp hgd
          go_wp2_with fail
          go_ret
          exact ⟨Below.down HB.out HBL.out (by have := HGE.out; omega), .inl ⟨HGT.out, _, rfl, by omega, HTB.out⟩⟩
theorem unlike_any (h : CfAt w vp vd vw vg c) (hF : 1 ≤ c.fr ∧ c.fr ≤ 64) (hp4 : c.ps.length ≤ 4) : Calls Tryz.prog 58 #[.agg #[.int .i64 c.fr, vp, vd, .int .i64 c.mj, vw, vg, .int .i64 c.se, .int .i64 c.qu, .int .i64 c.qt]] w fun e w' => e = .returned (.bool (unB c)) ∧ Below w.heap.size w w' := by
  obtain ⟨hb, hB⟩ := cf_box w c vp vd vw vg
  have HC := Lib.hid (owners_any (h.below hB) hF hp4)
  obtain ⟨k0, k1, k2, k3, k4, k5, k6, k7, k8⟩ := cf_at hb
  have HB := Lib.hid hB
  obtain ⟨Q, hQ⟩ : ∃ Q, unB c = Q := ⟨_, rfl⟩
  rw [hQ]
  have HQ := Lib.hid hQ
  clear hb hB h hF hp4 hQ
  go_enter Tryz.func58, Tryz.ntmps58
  go_wp2_with fail
  refine HC.out.mono ?_
  rintro e w1 ⟨b1, ⟨hu, g, rfl, -, -⟩ | ⟨hu, rfl⟩⟩
  · have e : Q = true := by rw [← HQ.out, hu]
    subst e
    clear hu
    go_wp2_with fail
    go_ret
    exact ⟨rfl, Below.down HB.out b1 HB.out.size⟩
  · have e : Q = false := by rw [← HQ.out, hu]
    subst e
    clear hu
    go_wp2_with fail
    go_ret
    exact ⟨rfl, Below.down HB.out b1 HB.out.size⟩
end
end Go.Proofs.YtkaalinoiilmoaaGreat
namespace Go.Proofs.YtkaalinoiilmoaaGreat
open Go.RowKit
set_option linter.unusedVariables false
set_option linter.unusedSimpArgs false
set_option maxRecDepth 100000
set_option maxHeartbeats 1000000 in
theorem if_Win (A : Option Addr) (b o n cap : Nat) (a0 : Nat) (c0 c1 c2 c3 : Nat → Value) (p : Nat → Bool) (S : Nat → Prop) (I : Nat → World → Prop) (w : World) (hn : n ≤ maxLen) (hA : 0 < n → A = some ⟨b, o, none⟩)
    (hr : ∀ i W, i < n → I i W → W.cell? ⟨b, o + i * 4, none⟩ = some (c0 i) ∧ W.cell? ⟨b, o + i * 4 + 1, none⟩ = some (c1 i) ∧ W.cell? ⟨b, o + i * 4 + 2, none⟩ = some (c2 i) ∧ W.cell? ⟨b, o + i * 4 + 3, none⟩ = some (c3 i))
    (hG : ∀ i W, i < n → (∀ j, j < i → p j = false) → I i W → Calls Tryz.prog 86 #[(.agg #[c0 i, c1 i, c2 i, c3 i]), .pointer (some ⟨a0, 0, none⟩)] W fun e w' => e = .returned (.bool (p i)) ∧ I (i + 1) w' ∧ Fo S W w') (h0 : I 0 w) :
    Calls Tryz.prog 102 #[.slice A n cap, .func (.func 86) #[] #[.pointer (some ⟨a0, 0, none⟩)]] w fun e w' => ∃ r : Int, e = .returned (.int .i64 r) ∧ decide (r ≥ 0) = (List.range n).any p ∧ (∃ k, k ≤ n ∧ I k w' ∧ (r < 0 → k = n)) ∧ Fo S w w' := by
  have HA := Lib.hid hA; have HR := Lib.hid hr; have HG := Lib.hid hG; have H0 := Lib.hid h0
  unfold maxLen at hn
  clear hA hr hG h0
  go_enter Tryz.func102, Tryz.ntmps102
  go_wp2_with fail
  go_loopw [8] (fun i wr => ∃ k : Nat, k ≤ n ∧ i = .int .i64 k ∧ Hid ((∀ j, j < k → p j = false) ∧ I k wr ∧ Fo S w wr)) (fun i _ => n - (intOf i).toNat)
  case atStart => exact ⟨0, by omega, rfl, Lib.hid ⟨fun j hj => by omega, H0.out, Fo.refl _ _⟩⟩
  case round =>
    obtain ⟨k, hk, rfl, HX⟩ := hrel
    by_cases hlt : k < n
    · obtain rfl := HA.out (by omega)
      obtain ⟨x0, x1, x2, x3⟩ := HR.out k wr hlt HX.out.2.1
      have HC := Lib.hid (HG.out k wr hlt HX.out.1 HX.out.2.1)
      generalize c0 k = e0 at * ; generalize c1 k = e1 at * ; generalize c2 k = e2 at * ; generalize c3 k = e3 at *
      go_wp2_with fail
      refine HC.out.mono ?_
      rintro e w1 ⟨rfl, hi, hf⟩
      have HI := Lib.hid hi
      have HF := Lib.hid (HX.out.2.2.trans hf)
      clear x0 x1 x2 x3 hi hf
      cases hp : p k with
      | true =>
        have HP := Lib.hid hp
        clear hp
        go_wp2_with fail
        go_ret
        exact ⟨_, rfl, (by rw [range_any_yes hlt HP.out]; exact decide_eq_true (by omega)), ⟨k + 1, by omega, HI.out, fun h => by omega⟩, HF.out⟩
      | false =>
        have HP := Lib.hid hp
        clear hp
        go_wp2_with fail
        go_roundw
        case rel => exact ⟨k + 1, by omega, by go_num, Lib.hid ⟨fun j hj => by
          by_cases e : j = k
          · rw [e]; exact HP.out
          · exact HX.out.1 j (by omega), HI.out, HF.out⟩⟩
        case measure => simp [intOf]; omega
    · obtain rfl : k = n := by omega
      go_wp2_with fail
      go_ret
      exact ⟨_, rfl, (by rw [range_any_no HX.out.1]; rfl), ⟨k, by omega, HX.out.2.1, fun _ => rfl⟩, HX.out.2.2⟩
theorem cf_Win (A : Option Addr) (b o n cap : Nat) (a0 : Nat) (c0 c1 c2 c3 : Nat → Value) (p : Nat → Bool) (S : Nat → Prop) (I : Nat → World → Prop) (w : World) (hn : n ≤ maxLen) (hA : 0 < n → A = some ⟨b, o, none⟩)
    (hr : ∀ i W, i < n → I i W → W.cell? ⟨b, o + i * 4, none⟩ = some (c0 i) ∧ W.cell? ⟨b, o + i * 4 + 1, none⟩ = some (c1 i) ∧ W.cell? ⟨b, o + i * 4 + 2, none⟩ = some (c2 i) ∧ W.cell? ⟨b, o + i * 4 + 3, none⟩ = some (c3 i))
    (hG : ∀ i W, i < n → (∀ j, j < i → p j = false) → I i W → Calls Tryz.prog 86 #[(.agg #[c0 i, c1 i, c2 i, c3 i]), .pointer (some ⟨a0, 0, none⟩)] W fun e w' => e = .returned (.bool (p i)) ∧ I (i + 1) w' ∧ Fo S W w') (h0 : I 0 w) :
    Calls Tryz.prog 85 #[.slice A n cap, .func (.func 86) #[] #[.pointer (some ⟨a0, 0, none⟩)]] w fun e w' => e = .returned (.bool ((List.range n).any p)) ∧ Upto n I w' (!(List.range n).any p) ∧ Fo S w w' := by
  have HC := Lib.hid (if_Win A b o n cap a0 c0 c1 c2 c3 p S I w hn hA hr hG h0)
  clear hA hr hG h0
  generalize (List.range n).any p = R at *
  go_enter Tryz.func85, Tryz.ntmps85
  go_wp2_with fail
  refine HC.out.mono ?_
  rintro e w1 ⟨r, rfl, hr, hi, hf⟩
  have HI := Lib.hid hi; have HF := Lib.hid hf
  clear hi hf
  cases R
  all_goals
    go_wp2_with fail
    go_ret
  · refine ⟨rfl, ?_, HF.out⟩
    obtain ⟨k, hk, h1, h2⟩ := HI.out
    exact ⟨k, hk, h1, fun _ => h2 (by have := of_decide_eq_false hr; omega)⟩
  · refine ⟨rfl, ?_, HF.out⟩
    obtain ⟨k, hk, h1, h2⟩ := HI.out
    exact ⟨k, hk, h1, fun h => by cases h⟩
end Go.Proofs.YtkaalinoiilmoaaGreat
namespace Go.Proofs.YtkaalinoiilmoaaGreat
open Go.RowKit
set_option linter.unusedVariables false
set_option linter.unusedSimpArgs false
set_option maxRecDepth 100000
def wD : Win := ⟨0, 0, 0, 0⟩
theorem Ws.rows {w : World} {v : Value} {n : Nat} {l : List Win} (h : Ws w v n l) : ∃ (A : Option Addr) (cap b o : Nat), v = .slice A n cap ∧ (0 < n → A = some ⟨b, o, none⟩ ∧ b < w.heap.size) ∧
    ∀ i, i < n → w.cell? ⟨b, o + i * 4, none⟩ = some (.int .i64 (l.getD i wD).p) ∧ w.cell? ⟨b, o + i * 4 + 1, none⟩ = some (.int .i64 (l.getD i wD).s) ∧ w.cell? ⟨b, o + i * 4 + 2, none⟩ = some (.int .i64 (l.getD i wD).l) ∧ w.cell? ⟨b, o + i * 4 + 3, none⟩ = some (.int .i64 (l.getD i wD).d) := by
  obtain ⟨A, cap, rfl⟩ := h.form
  by_cases h0 : 0 < n
  · have hl := h.len
    obtain ⟨b, o, rfl, hb, _⟩ := wd_at h.sl hl 0 (by omega)
    refine ⟨_, cap, b, o, rfl, fun _ => ⟨rfl, hb⟩, fun i hi => ?_⟩
    obtain ⟨b', o', e, _, q⟩ := wd_at h.sl hl i (by omega)
    simp only [Option.some.injEq, Addr.mk.injEq, and_true] at e
    obtain ⟨rfl, rfl⟩ := e
    have hg : l.getD i wD = l[i] := by simp [List.getD, List.getElem?_eq_getElem (show i < l.length by omega)]
    rw [hg]
    exact q
  · exact ⟨A, cap, 0, 0, rfl, fun h => absurd h h0, fun i hi => absurd hi (by omega)⟩
theorem wm1_any (x : Win) (k : Int) (y : Nat) (w : World) (hy : Blk w y 3 [.int .i64 k]) :
    Calls Tryz.prog 86 #[.agg #[.int .i64 x.p, .int .i64 x.s, .int .i64 x.l, .int .i64 x.d], .pointer (some ⟨y, 0, none⟩)] w fun e w' => e = .returned (.bool (decide (x.p = k))) ∧ Below w.heap.size w w' := by
  have hy1 := hy.alloc (.cells #[.int .i64 x.p, .int .i64 x.s, .int .i64 x.l, .int .i64 x.d] 82)
  have k0 := hy1.cell 0
  simp only [List.getElem?_cons_zero] at k0
  obtain ⟨xp, xs, xl, xd⟩ := x
  simp only at *
  have hlt := hy.lt
  clear hy hy1
  by_cases e : xp = k
  · subst e
    go_enter Tryz.func86, Tryz.ntmps86
    go_wp2
    go_ret
    exact ⟨by simp, (Below.refl _ _).alloc (Nat.le_refl _) _⟩
  · have e2 : (xp == k) = false := by simpa using e
    have HR := Lib.hid (decide_eq_false e)
    clear e
    go_enter Tryz.func86, Tryz.ntmps86
    go_wp2
    go_ret
    exact ⟨by rw [HR.out]; rfl, (Below.refl _ _).alloc (Nat.le_refl _) _⟩
section
variable {w : World} {c : Cf} {vp vd vw vg : Value}
set_option maxHeartbeats 2000000 in
theorem windowsmay_any (h : CfAt w vp vd vw vg c) : Calls Tryz.prog 59 #[.agg #[.int .i64 c.fr, vp, vd, .int .i64 c.mj, vw, vg, .int .i64 c.se, .int .i64 c.qu, .int .i64 c.qt]] w fun e w' => e = .returned (.bool (wsB c)) ∧ Below w.heap.size w w' := by
  obtain ⟨hb, hB⟩ := cf_box w c vp vd vw vg
  have h1 := h.below hB
  obtain ⟨A, cap, rfl, _⟩ := h.ps
  obtain ⟨A', cap', b, o, rfl, hA, hr⟩ := h1.ws.rows
  have hz := h.pz.1
  have hnm : c.ws.length ≤ maxLen := h.ws.big
  obtain ⟨-, k1, -, k3, k4, -⟩ := cf_at hb
  have hsz : (w.alloc (.cells #[.int .i64 c.fr, .slice A c.ps.length cap, vd, .int .i64 c.mj, .slice A' c.ws.length cap', vg, .int .i64 c.se, .int .i64 c.qu, .int .i64 c.qt] 27)).heap.size = w.heap.size + 1 := by simp
  have HX : Hid (wsB c = (mayW c.ws c.mj c.ps.length && (List.range c.ps.length).all (fun i => hasW c.ws i))) := Lib.hid rfl
  have HM := Lib.hid (may_ws h1.ws c.mj c.ps.length _ rfl)
  have HB := Lib.hid hB; have HA := Lib.hid hA; have HR := Lib.hid hr
  clear h h1 hb hB hA hr
  generalize c.ps.length = n at *
  generalize hwl : c.ws.length = m at *
  have HWL := Lib.hid hwl
  generalize wsB c = Q at *
  generalize c.mj = mj at *
  generalize hM : mayW c.ws mj n = M at *
  clear hM hwl
  go_enter Tryz.func59, Tryz.ntmps59
  go_wp2_with fail
  generalize w.alloc (.cells #[.int .i64 c.fr, .slice A n cap, vd, .int .i64 mj, .slice A' m cap', vg, .int .i64 c.se, .int .i64 c.qu, .int .i64 c.qt] 27) = w1 at *
  have hlt1 : w.heap.size < w1.heap.size := by omega
  clear hsz
  refine HM.out.mono ?_
  rintro e w2 ⟨rfl, hb2⟩
  cases M with
  | false =>
    have e : Q = false := by rw [HX.out]; rfl
    subst e
    go_wp2_with fail
    go_ret
    exact ⟨rfl, Below.down HB.out hb2 (by omega)⟩
  | true =>
    have hQ : Q = (List.range n).all (fun i => hasW c.ws i) := by rw [HX.out]; rfl
    have HQ := Lib.hid hQ
    have q1 := (hb2.cell (p := ⟨w.heap.size, 1, none⟩) hlt1).trans k1
    have HB2 := Lib.hid hb2
    have HK4 := Lib.hid k4
    clear hQ HX hb2 HM k1 k3 k4
    go_wp2_with fail
    clear q1
    go_loopw [16] (fun i wr => ∃ k : Nat, k ≤ n ∧ i = .int .i64 k ∧ Hid ((∀ j, j < k → hasW c.ws j = true) ∧ Below w1.heap.size w1 wr)) (fun i _ => n - (intOf i).toNat)
    case atStart => exact ⟨0, by omega, rfl, Lib.hid ⟨fun j hj => by omega, HB2.out⟩⟩
    case round =>
      obtain ⟨k, hk, rfl, H⟩ := hrel
      by_cases hlt : k < n
      · obtain ⟨hall, hbel⟩ := H.out
        have hws := hbel.size
        have hb3 : Below w1.heap.size w1 (wr.alloc (.cells #[.int .i64 (k : Int)] 3)) := hbel.alloc hws _
        have hk3 : Blk (wr.alloc (.cells #[.int .i64 (k : Int)] 3)) wr.heap.size 3 [.int .i64 (k : Int)] := Blk.new _ _ _
        have q4 := (hb3.cell (p := ⟨w.heap.size, 4, none⟩) hlt1).trans HK4.out
        have hE := cf_Win A' b o m cap' wr.heap.size (fun i => .int .i64 (c.ws.getD i wD).p) (fun i => .int .i64 (c.ws.getD i wD).s) (fun i => .int .i64 (c.ws.getD i wD).l) (fun i => .int .i64 (c.ws.getD i wD).d) (fun i => decide ((c.ws.getD i wD).p = (k : Int))) nos
          (fun _ W => Below w1.heap.size w1 W ∧ Blk W wr.heap.size 3 [.int .i64 (k : Int)]) (wr.alloc (.cells #[.int .i64 (k : Int)] 3)) hnm (fun h0 => (HA.out h0).1)
          (fun i W hi hI => by
            have hlt := (HA.out (by omega)).2
            have g := fun x => hI.1.cell (p := ⟨b, x, none⟩) hlt
            obtain ⟨q0, q1, q2, q3⟩ := HR.out i hi
            exact ⟨(g _).trans q0, (g _).trans q1, (g _).trans q2, (g _).trans q3⟩)
          (fun i W hi _ hI => by
            refine (wm1_any (c.ws.getD i wD) k wr.heap.size W hI.2).mono ?_
            rintro e w' ⟨rfl, hb⟩
            exact ⟨rfl, ⟨Below.down hI.1 hb hI.1.size, hI.2.below hb hI.2.lt⟩, Fo.of hb _⟩)
          ⟨hb3, hk3⟩
        have e9 : (List.range m).any (fun i => decide ((c.ws.getD i wD).p = (k : Int))) = hasW c.ws k := by rw [← HWL.out]; exact any_range c.ws wD (fun x => decide (x.p = (k : Int)))
        rw [e9] at hE
        have HE := Lib.hid hE; have HALL := Lib.hid hall; have HB3 := Lib.hid hb3
        clear hE hall hb3 hk3 e9 hbel H
        generalize hH : hasW c.ws k = R at *
        have HH := Lib.hid hH
        clear hH
        go_wp2_with fail
        refine HE.out.mono ?_
        rintro e w3 ⟨rfl, -, hf⟩
        have HB4 := Lib.hid (Below.down HB3.out hf.nos HB3.out.size)
        clear hf q4 HE
        cases R with
        | false =>
          have e : Q = false := by
            rw [HQ.out]
            exact List.all_eq_false.2 ⟨k, List.mem_range.2 hlt, by rw [HH.out]; simp⟩
          subst e
          go_wp2_with fail
          go_ret
          exact ⟨rfl, Below.down HB.out HB4.out (by omega)⟩
        | true =>
          go_wp2_with fail
          go_roundw
          case rel => exact ⟨k + 1, by omega, by go_num, Lib.hid ⟨fun j hj => by
            by_cases e : j = k
            · rw [e]; exact HH.out
            · exact HALL.out j (by omega), HB4.out⟩⟩
          case measure => simp [intOf]; omega
      · obtain rfl : k = n := by omega
        have e : Q = true := by rw [HQ.out]; exact range_all_iff.2 H.out.1
        subst e
        go_wp2_with fail
        go_ret
        exact ⟨rfl, Below.down HB.out H.out.2 (by omega)⟩
end
end Go.Proofs.YtkaalinoiilmoaaGreat
