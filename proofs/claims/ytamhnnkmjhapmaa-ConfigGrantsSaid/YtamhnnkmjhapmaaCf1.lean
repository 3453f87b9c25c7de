/-
  A config in memory: what its four slices read as. Contracts of config's isFrom, hasPart, and of the rules that ask of one number or of each of a row: framesMay, partsMay, devicesMay, sharesMay, quotaMay, quietMay.
-/
import Derived.Test.YtamhnnkmjhapmaaCf0
import Derived.Test.YtamhnnkmjhapmaaItPart
import Derived.Test.YtamhnnkmjhapmaaItDev
import Derived.Test.YtamhnnkmjhapmaaEx1
import Derived.Test.YtamhnnkmjhapmaaLat1
import Derived.Deep.Slices
namespace Go.Proofs.Ytamhnnkmjhapmaa
open Go.RowKit
set_option linter.unusedVariables false
set_option linter.unusedSimpArgs false
set_option maxRecDepth 100000

/-- A grant's cells. -/
def grc (g : Gr) : List Value := [.int .i64 g.f, .int .i64 g.t, .bool g.wr]
def grs (l : List Gr) : List Value := l.flatMap grc
def grD : Gr := ⟨0, 0, false⟩
theorem grs_cons (g : Gr) (l : List Gr) : grs (g :: l) = .int .i64 g.f :: .int .i64 g.t :: .bool g.wr :: grs l := by simp [grs, grc]
theorem grs_append (l m : List Gr) : grs (l ++ m) = grs l ++ grs m := by simp [grs, List.flatMap_append]
theorem grs_len (l : List Gr) : (grs l).length = l.length * 3 := by
  induction l with
  | nil => rfl
  | cons p l ih => rw [grs_cons]; simp only [List.length_cons, ih]; omega
theorem grs_get (l : List Gr) : ∀ i, i < l.length → (grs l)[i * 3]? = some (.int .i64 (l.getD i grD).f) ∧ (grs l)[i * 3 + 1]? = some (.int .i64 (l.getD i grD).t) ∧ (grs l)[i * 3 + 2]? = some (.bool (l.getD i grD).wr) := by
  induction l with
  | nil => intro i h; simp at h
  | cons g l ih =>
    intro i h
    match i with
    | 0 => rw [grs_cons]; simp
    | i + 1 =>
      have := ih i (by simpa using h)
      rw [grs_cons, show (i + 1) * 3 = i * 3 + 3 by omega]
      simpa using this
theorem grs_at {w : World} {A : Option Addr} {n c : Nat} {l : List Gr} (h : Sl w (.slice A n c) n 3 (grs l)) (hl : l.length = n) (k : Nat) (hk : k < n) :
    ∃ b o, A = some ⟨b, o, none⟩ ∧ b < w.heap.size ∧ w.cell? ⟨b, o + k * 3, none⟩ = some (.int .i64 (l.getD k grD).f) ∧ w.cell? ⟨b, o + k * 3 + 1, none⟩ = some (.int .i64 (l.getD k grD).t) ∧ w.cell? ⟨b, o + k * 3 + 2, none⟩ = some (.bool (l.getD k grD).wr) := by
  obtain ⟨A', c', e, _, hxl, hA⟩ := h
  simp only [Value.slice.injEq] at e
  obtain ⟨rfl, _, rfl⟩ := e
  obtain ⟨b, o, rfl, hb, hc⟩ := hA (by omega)
  have hg := grs_get l k (by omega)
  have key : ∀ j u, (grs l)[k * 3 + j]? = some u → w.cell? ⟨b, o + k * 3 + j, none⟩ = some u := by
    intro j u hx
    have := hc (k * 3 + j) u hx
    rw [← Nat.add_assoc] at this
    exact this
  exact ⟨b, o, rfl, hb, key 0 _ hg.1, key 1 _ hg.2.1, key 2 _ hg.2.2⟩

/-- A device at a place in memory. -/
def DeAt (w : World) (b a : Nat) (d : De) : Prop := ∃ A2 c2, w.cell? ⟨b, a, none⟩ = some (.int .i64 d.pt) ∧ w.cell? ⟨b, a + 1, none⟩ = some (.slice A2 d.po.length c2) ∧ Sl w (.slice A2 d.po.length c2) d.po.length 1 (ints d.po) ∧ (A2 = none → c2 = 0)
theorem DeAt.below {w w' : World} {b a : Nat} {p : De} (h : DeAt w b a p) (hb : Below w.heap.size w w') (hlt : b < w.heap.size) : DeAt w' b a p := by
  have g := fun x => hb.cell (p := ⟨b, x, none⟩) hlt
  obtain ⟨A2, c2, h0, h1, h5, h6⟩ := h
  exact ⟨A2, c2, (g _).trans h0, (g _).trans h1, h5.below hb, h6⟩
/-- A slice of devices. -/
def DeS (w : World) (v : Value) (l : List De) : Prop :=
  ∃ A cap, v = .slice A l.length cap ∧ (0 < l.length → ∃ b o, A = some ⟨b, o, none⟩ ∧ b < w.heap.size ∧ ∀ i, i < l.length → DeAt w b (o + i * 2) (l.getD i deD))
def DeZ (l : List De) : Prop := l.length * 32 ≤ 140737488351232 ∧ ∀ i, (l.getD i deD).po.length * 8 ≤ 140737488351232
theorem DeS.below {w w' : World} {v : Value} {l : List De} (h : DeS w v l) (hb : Below w.heap.size w w') : DeS w' v l := by
  obtain ⟨A, cap, hv, hA⟩ := h
  refine ⟨A, cap, hv, fun h0 => ?_⟩
  obtain ⟨b, o, e, hlt, hi⟩ := hA h0
  exact ⟨b, o, e, Nat.lt_of_lt_of_le hlt hb.size, fun i hi' => (hi i hi').below hb hlt⟩

/-- What a config's four slices read as, and that they are no larger than any that comes in. -/
structure CfAt (w : World) (vp vd vw vg : Value) (c : Cf) : Prop where
  ps : PaS w vp c.ps
  pz : PaZ c.ps
  ds : DeS w vd c.ds
  dz : DeZ c.ds
  ws : Ws w vw c.ws.length c.ws
  wz : c.ws.length * 32 ≤ 140737488351232
  wn : ∀ m k, vw = .slice none m k → k = 0
  gs : Sl w vg c.gs.length 3 (grs c.gs)
  gz : c.gs.length * 24 ≤ 140737488351232
  gn : ∀ m k, vg = .slice none m k → k = 0
theorem CfAt.below {w w' : World} {vp vd vw vg : Value} {c : Cf} (h : CfAt w vp vd vw vg c) (hb : Below w.heap.size w w') : CfAt w' vp vd vw vg c :=
  ⟨h.ps.below hb, h.pz, h.ds.below hb, h.dz, h.ws.below hb, h.wz, h.wn, h.gs.below hb, h.gz, h.gn⟩
theorem CfAt.drewN {w : World} {vp vd vw vg : Value} {c : Cf} (h : CfAt w vp vd vw vg c) (n : Nat) : CfAt (w.drewN n) vp vd vw vg c := h.below (bdrewN (Below.refl _ _) n)

/-- Parts row by row. -/
theorem PaS.rows {w : World} {v : Value} {l : List Pa} (h : PaS w v l) : ∃ (A : Option Addr) (cap b o : Nat) (sv : Nat → Value), v = .slice A l.length cap ∧ (0 < l.length → A = some ⟨b, o, none⟩ ∧ b < w.heap.size) ∧
    ∀ i, i < l.length → (w.cell? ⟨b, o + i * 5, none⟩ = some (.int .i64 (l.getD i paD).lv) ∧ w.cell? ⟨b, o + i * 5 + 1, none⟩ = some (.int .i64 (l.getD i paD).ct) ∧ w.cell? ⟨b, o + i * 5 + 2, none⟩ = some (sv i) ∧ w.cell? ⟨b, o + i * 5 + 3, none⟩ = some (.int .i64 (l.getD i paD).fi) ∧ w.cell? ⟨b, o + i * 5 + 4, none⟩ = some (.int .i64 (l.getD i paD).co)) ∧
      Sl w (sv i) (l.getD i paD).fr.length 1 (ints (l.getD i paD).fr) := by
  obtain ⟨A, cap, rfl, hA⟩ := h
  by_cases h0 : 0 < l.length
  · obtain ⟨b, o, rfl, hb, hi⟩ := hA h0
    have key : ∀ i, i < l.length → ∃ s : Value, (w.cell? ⟨b, o + i * 5, none⟩ = some (.int .i64 (l.getD i paD).lv) ∧ w.cell? ⟨b, o + i * 5 + 1, none⟩ = some (.int .i64 (l.getD i paD).ct) ∧ w.cell? ⟨b, o + i * 5 + 2, none⟩ = some s ∧ w.cell? ⟨b, o + i * 5 + 3, none⟩ = some (.int .i64 (l.getD i paD).fi) ∧ w.cell? ⟨b, o + i * 5 + 4, none⟩ = some (.int .i64 (l.getD i paD).co)) ∧
        Sl w s (l.getD i paD).fr.length 1 (ints (l.getD i paD).fr) := by
      intro i hil
      obtain ⟨A2, c2, q0, q1, q2, q3, q4, q5, _⟩ := hi i hil
      exact ⟨_, ⟨q0, q1, q2, q3, q4⟩, q5⟩
    haveI : Inhabited Value := ⟨.bool false⟩
    obtain ⟨F, hF⟩ := Go.Deep.choose_lt key
    exact ⟨_, cap, b, o, F, rfl, fun _ => ⟨rfl, hb⟩, hF⟩
  · exact ⟨A, cap, 0, 0, fun _ => .bool false, rfl, fun h => absurd h h0, fun i hi => absurd hi (by omega)⟩
/-- Devices row by row. -/
theorem DeS.rows {w : World} {v : Value} {l : List De} (h : DeS w v l) : ∃ (A : Option Addr) (cap b o : Nat) (sv : Nat → Value), v = .slice A l.length cap ∧ (0 < l.length → A = some ⟨b, o, none⟩ ∧ b < w.heap.size) ∧
    ∀ i, i < l.length → (w.cell? ⟨b, o + i * 2, none⟩ = some (.int .i64 (l.getD i deD).pt) ∧ w.cell? ⟨b, o + i * 2 + 1, none⟩ = some (sv i)) ∧ Sl w (sv i) (l.getD i deD).po.length 1 (ints (l.getD i deD).po) := by
  obtain ⟨A, cap, rfl, hA⟩ := h
  by_cases h0 : 0 < l.length
  · obtain ⟨b, o, rfl, hb, hi⟩ := hA h0
    have key : ∀ i, i < l.length → ∃ s : Value, (w.cell? ⟨b, o + i * 2, none⟩ = some (.int .i64 (l.getD i deD).pt) ∧ w.cell? ⟨b, o + i * 2 + 1, none⟩ = some s) ∧ Sl w s (l.getD i deD).po.length 1 (ints (l.getD i deD).po) := by
      intro i hil
      obtain ⟨A2, c2, q0, q1, q5, _⟩ := hi i hil
      exact ⟨_, ⟨q0, q1⟩, q5⟩
    haveI : Inhabited Value := ⟨.bool false⟩
    obtain ⟨F, hF⟩ := Go.Deep.choose_lt key
    exact ⟨_, cap, b, o, F, rfl, fun _ => ⟨rfl, hb⟩, hF⟩
  · exact ⟨A, cap, 0, 0, fun _ => .bool false, rfl, fun h => absurd h h0, fun i hi => absurd hi (by omega)⟩

/-- A config's nine cells. -/
def cfc (c : Cf) (vp vd vw vg : Value) : List Value := [.int .i64 c.fr, vp, vd, .int .i64 c.mj, vw, vg, .int .i64 c.se, .int .i64 c.qu, .int .i64 c.qt]
theorem cf_at {w : World} {g : Nat} {c : Cf} {vp vd vw vg : Value} (h : Blk w g 27 (cfc c vp vd vw vg)) :
    w.cell? ⟨g, 0, none⟩ = some (.int .i64 c.fr) ∧ w.cell? ⟨g, 1, none⟩ = some vp ∧ w.cell? ⟨g, 2, none⟩ = some vd ∧ w.cell? ⟨g, 3, none⟩ = some (.int .i64 c.mj) ∧ w.cell? ⟨g, 4, none⟩ = some vw ∧ w.cell? ⟨g, 5, none⟩ = some vg ∧ w.cell? ⟨g, 6, none⟩ = some (.int .i64 c.se) ∧ w.cell? ⟨g, 7, none⟩ = some (.int .i64 c.qu) ∧ w.cell? ⟨g, 8, none⟩ = some (.int .i64 c.qt) :=
  ⟨h.cell 0, h.cell 1, h.cell 2, h.cell 3, h.cell 4, h.cell 5, h.cell 6, h.cell 7, h.cell 8⟩
/-- What a call makes of a config that comes in: a copy of its cells. -/
theorem cf_box (w : World) (c : Cf) (vp vd vw vg : Value) : Blk (w.alloc (.cells #[.int .i64 c.fr, vp, vd, .int .i64 c.mj, vw, vg, .int .i64 c.se, .int .i64 c.qu, .int .i64 c.qt] 27)) w.heap.size 27 (cfc c vp vd vw vg) ∧
    Below w.heap.size w (w.alloc (.cells #[.int .i64 c.fr, vp, vd, .int .i64 c.mj, vw, vg, .int .i64 c.se, .int .i64 c.qu, .int .i64 c.qt] 27)) :=
  ⟨Blk.new w _ (cfc c vp vd vw vg), (Below.refl _ _).alloc (Nat.le_refl _) _⟩

/-! ### contracts -/
theorem btw_iff {lo hi n : Int} : btw lo hi n = true ↔ lo ≤ n ∧ n ≤ hi := by unfold btw; rw [decide_eq_true_eq]
theorem isfrom_any (n lo hi : Int) (w : World) : Calls Try.prog 58 #[.int .i64 n, .int .i64 lo, .int .i64 hi] w fun e w' => e = .returned (.bool (btw lo hi n)) ∧ w = w' := by
  by_cases h0 : lo ≤ n
  · by_cases h1 : n ≤ hi
    · have HR := Lib.hid (show btw lo hi n = true from decide_eq_true ⟨h0, h1⟩)
      have hd : decide (n ≤ hi) = true := decide_eq_true h1
      clear h1
      go_enter Try.func58, Try.ntmps58
      go_wp2
      go_ret
      exact ⟨by rw [HR.out]; rfl, rfl⟩
    · have HR := Lib.hid (show btw lo hi n = false from decide_eq_false (fun h => h1 h.2))
      have hd : decide (n ≤ hi) = false := decide_eq_false h1
      clear h1
      go_enter Try.func58, Try.ntmps58
      go_wp2
      go_ret
      exact ⟨by rw [HR.out]; rfl, rfl⟩
  · have HR := Lib.hid (show btw lo hi n = false from decide_eq_false (fun h => h0 h.1))
    have h2 : n < lo := by omega
    clear h0
    go_enter Try.func58, Try.ntmps58
    go_wp2
    go_ret
    exact ⟨by rw [HR.out]; rfl, rfl⟩

section
variable {w : World} {c : Cf} {vp vd vw vg : Value}
theorem haspart_any (h : CfAt w vp vd vw vg c) (p : Int) :
    Calls Try.prog 48 #[.agg #[.int .i64 c.fr, vp, vd, .int .i64 c.mj, vw, vg, .int .i64 c.se, .int .i64 c.qu, .int .i64 c.qt], .int .i64 p] w fun e w' => e = .returned (.bool (inP c.ps.length p)) ∧ Below w.heap.size w w' := by
  obtain ⟨A, cap, rfl, _⟩ := h.ps
  obtain ⟨hb, hB⟩ := cf_box w c (.slice A c.ps.length cap) vd vw vg
  have hn : c.ps.length ≤ 9223372036854775807 := by have := h.pz.1; omega
  obtain ⟨-, k1, -⟩ := cf_at hb
  have HB := Lib.hid hB
  clear h hb hB
  generalize c.ps.length = n at *
  by_cases h0 : 0 ≤ p
  · by_cases h1 : p < (n : Int)
    · have HR := Lib.hid (show inP n p = true from decide_eq_true ⟨h0, h1⟩)
      have hd : decide (p < (n : Int)) = true := decide_eq_true h1
      clear h1
      go_enter Try.func48, Try.ntmps48
      go_wp2
      go_ret
      exact ⟨by rw [HR.out]; rfl, HB.out⟩
    · have HR := Lib.hid (show inP n p = false from decide_eq_false (fun h => h1 h.2))
      have hd : decide (p < (n : Int)) = false := decide_eq_false h1
      clear h1
      go_enter Try.func48, Try.ntmps48
      go_wp2
      go_ret
      exact ⟨by rw [HR.out]; rfl, HB.out⟩
  · have HR := Lib.hid (show inP n p = false from decide_eq_false (fun h => h0 h.1))
    have h2 : p < 0 := by omega
    clear h0
    go_enter Try.func48, Try.ntmps48
    go_wp2
    go_ret
    exact ⟨by rw [HR.out]; rfl, HB.out⟩

theorem framesmay_any : Calls Try.prog 37 #[.agg #[.int .i64 c.fr, vp, vd, .int .i64 c.mj, vw, vg, .int .i64 c.se, .int .i64 c.qu, .int .i64 c.qt]] w fun e w' => e = .returned (.bool (frB c)) ∧ Below w.heap.size w w' := by
  obtain ⟨hb, hB⟩ := cf_box w c vp vd vw vg
  obtain ⟨k0, -⟩ := cf_at hb
  have HB := Lib.hid hB
  clear hb hB
  unfold frB
  go_enter Try.func37, Try.ntmps37
  go_wp2_with fail
  refine (isfrom_any _ _ _ _).mono ?_
  rintro e w1 ⟨rfl, rfl⟩
  go_wp2_with fail
  go_ret
  exact ⟨rfl, HB.out⟩
theorem quotamay_any : Calls Try.prog 44 #[.agg #[.int .i64 c.fr, vp, vd, .int .i64 c.mj, vw, vg, .int .i64 c.se, .int .i64 c.qu, .int .i64 c.qt]] w fun e w' => e = .returned (.bool (quB c)) ∧ Below w.heap.size w w' := by
  obtain ⟨hb, hB⟩ := cf_box w c vp vd vw vg
  obtain ⟨-, -, -, -, -, -, -, k7, -⟩ := cf_at hb
  have HB := Lib.hid hB
  clear hb hB
  unfold quB
  go_enter Try.func44, Try.ntmps44
  go_wp2_with fail
  refine (isfrom_any _ _ _ _).mono ?_
  rintro e w1 ⟨rfl, rfl⟩
  go_wp2_with fail
  go_ret
  exact ⟨rfl, HB.out⟩
theorem quietmay_any : Calls Try.prog 45 #[.agg #[.int .i64 c.fr, vp, vd, .int .i64 c.mj, vw, vg, .int .i64 c.se, .int .i64 c.qu, .int .i64 c.qt]] w fun e w' => e = .returned (.bool (qtB c)) ∧ Below w.heap.size w w' := by
  obtain ⟨hb, hB⟩ := cf_box w c vp vd vw vg
  obtain ⟨-, -, -, -, -, -, -, -, k8⟩ := cf_at hb
  have HB := Lib.hid hB
  clear hb hB
  unfold qtB
  go_enter Try.func45, Try.ntmps45
  go_wp2_with fail
  refine (isfrom_any _ _ _ _).mono ?_
  rintro e w1 ⟨rfl, rfl⟩
  go_wp2_with fail
  go_ret
  exact ⟨rfl, HB.out⟩
theorem sharesmay_any (h : CfAt w vp vd vw vg c) : Calls Try.prog 43 #[.agg #[.int .i64 c.fr, vp, vd, .int .i64 c.mj, vw, vg, .int .i64 c.se, .int .i64 c.qu, .int .i64 c.qt]] w fun e w' => e = .returned (.bool (shB c)) ∧ Below w.heap.size w w' := by
  obtain ⟨hb, hB⟩ := cf_box w c vp vd vw vg
  obtain ⟨-, k1, -, -, -, -, k6, -⟩ := cf_at hb
  have HC := Lib.hid (extmay_any _ _ c.se _ ((h.below hB).ps.pts h.pz))
  have HB := Lib.hid hB
  clear hb hB h
  unfold shB
  go_enter Try.func43, Try.ntmps43
  go_wp2_with fail
  refine HC.out.mono ?_
  rintro e w1 ⟨rfl, b1⟩
  go_wp2_with fail
  go_ret
  exact ⟨rfl, Below.down HB.out b1 HB.out.size⟩

/-- A part that is asked. -/
theorem pm1_any (x : Pa) (A2 : Option Addr) (n2 c2 : Nat) (hn : n2 = x.fr.length) (w : World) :
    Calls Try.prog 60 #[.agg #[.int .i64 x.lv, .int .i64 x.ct, .slice A2 n2 c2, .int .i64 x.fi, .int .i64 x.co]] w fun e w' => e = .returned (.bool (paB x)) ∧ Below w.heap.size w w' := by
  have hb : Blk (w.alloc (.cells #[.int .i64 x.lv, .int .i64 x.ct, .slice A2 n2 c2, .int .i64 x.fi, .int .i64 x.co] 40)) w.heap.size 40 [.int .i64 x.lv, .int .i64 x.ct, .slice A2 n2 c2, .int .i64 x.fi, .int .i64 x.co] := Blk.new _ _ _
  have hB : Below w.heap.size w (w.alloc (.cells #[.int .i64 x.lv, .int .i64 x.ct, .slice A2 n2 c2, .int .i64 x.fi, .int .i64 x.co] 40)) := (Below.refl _ _).alloc (Nat.le_refl _) _
  have k0 := hb.cell 0
  have k1 := hb.cell 1
  have k2 := hb.cell 2
  simp only [List.getElem?_cons_zero, List.getElem?_cons_succ] at k0 k1 k2
  obtain ⟨R, hR⟩ : ∃ R, paB x = R := ⟨_, rfl⟩
  rw [hR]
  unfold paB at hR
  rw [← hn] at hR
  have HR := Lib.hid hR; have HB := Lib.hid hB
  clear hb hB hR hn
  obtain ⟨lv, ct, fr, fi, co⟩ := x
  simp only at *
  cases hL : lB lv ct with
  | false =>
    have HL := Lib.hid hL
    have hf : R = false := by rw [← HR.out, hL]; rfl
    subst hf
    clear hL
    go_enter Try.func60, Try.ntmps60
    go_wp2_with fail
    refine (lmay_is lv ct false _ HL.out).mono ?_
    rintro e w1 ⟨rfl, b1⟩
    go_wp2_with fail
    go_ret
    exact ⟨rfl, Below.down HB.out b1 HB.out.size⟩
  | true =>
    have HL := Lib.hid hL
    clear hL
    by_cases h0 : 0 < n2
    · have hf : R = true := by rw [← HR.out, HL.out, decide_eq_true h0]; rfl
      subst hf
      have hd : decide (0 < n2) = true := decide_eq_true h0
      clear h0
      go_enter Try.func60, Try.ntmps60
      go_wp2_with fail
      refine (lmay_is lv ct true _ HL.out).mono ?_
      rintro e w1 ⟨rfl, b1⟩
      have g2 := (b1.cell (p := ⟨w.heap.size, 2, none⟩) (by simp)).trans k2
      go_wp2_with fail
      go_ret
      exact ⟨rfl, Below.down HB.out b1 HB.out.size⟩
    · have hf : R = false := by rw [← HR.out, HL.out, decide_eq_false h0]; rfl
      subst hf
      obtain rfl : n2 = 0 := by omega
      clear h0
      go_enter Try.func60, Try.ntmps60
      go_wp2_with fail
      refine (lmay_is lv ct true _ HL.out).mono ?_
      rintro e w1 ⟨rfl, b1⟩
      have g2 := (b1.cell (p := ⟨w.heap.size, 2, none⟩) (by simp)).trans k2
      go_wp2_with fail
      go_ret
      exact ⟨rfl, Below.down HB.out b1 HB.out.size⟩
end

end Go.Proofs.Ytamhnnkmjhapmaa
