/-
  Contracts of slices.Contains over ints; config's isGranted, reaches, Reads, Writes.
-/
import Derived.Test.YtamhnnkmjhapmaaCf7
import Derived.Test.YtamhnnkmjhapmaaItGr
import Derived.Test.YtamhnnkmjhapmaaItPiece
namespace Go.Proofs.Ytamhnnkmjhapmaa
open Go.RowKit
set_option linter.unusedVariables false
set_option linter.unusedSimpArgs false
set_option maxRecDepth 100000

/-- Is a number one of a row? -/
def memI (l : List Int) (x : Int) : Bool := decide (x ∈ l)
theorem mem_take_no {l : List Int} {x : Int} (h : ∀ j, j < l.length → l.getD j 0 ≠ x) : memI l x = false := by
  refine decide_eq_false (fun hm => ?_)
  obtain ⟨j, hj, e⟩ := List.getElem_of_mem hm
  exact h j hj (by simp [List.getD, List.getElem?_eq_getElem hj, e])
theorem mem_at {l : List Int} {x : Int} {j : Nat} (hj : j < l.length) (h : l.getD j 0 = x) : memI l x = true := by
  refine decide_eq_true ?_
  rw [← h]
  simp only [List.getD, List.getElem?_eq_getElem hj, Option.getD_some]
  exact List.getElem_mem hj
theorem index_any (v : Value) (l : List Int) (x : Int) (w : World) (h : Sl w v l.length 1 (ints l)) (hn : l.length ≤ maxLen) :
    Calls Try.prog 73 #[v, .int .i64 x] w fun e w' => (∃ r : Int, e = .returned (.int .i64 r) ∧ decide (r ≥ 0) = memI l x) ∧ w = w' := by
  obtain ⟨A, cap, rfl, _, _, hA⟩ := h
  have HA := Lib.hid hA
  clear hA
  generalize hl : l.length = n at *
  have HL := Lib.hid hl
  unfold maxLen at hn
  clear hl
  go_enter Try.func73, Try.ntmps73
  go_wp2_with fail
  go_loop [8] (fun i => ∃ k : Nat, k ≤ n ∧ i = .int .i64 k ∧ Hid (∀ j, j < k → l.getD j 0 ≠ x)) (fun i => n - (intOf i).toNat)
  case atStart => exact ⟨0, by omega, rfl, Lib.hid fun j hj => by omega⟩
  case round =>
    obtain ⟨k, hk, rfl, H⟩ := hrel
    by_cases hlt : k < n
    · obtain ⟨b, o, rfl, hb, hcell⟩ := HA.out (by omega)
      have c0 := hcell k _ (ints_get l k (by rw [HL.out]; exact hlt))
      clear hcell
      by_cases he : l.getD k 0 = x
      · have HE := Lib.hid he
        rw [he] at c0
        clear he
        go_wp2
        go_ret
        exact ⟨⟨_, rfl, by rw [mem_at (by rw [HL.out]; exact hlt) HE.out]; exact decide_eq_true (by omega)⟩, rfl⟩
      · have HE := Lib.hid he
        have he2 : (x == l.getD k 0) = false := by simpa using fun e => he e.symm
        generalize l.getD k 0 = y at c0 he2
        clear he
        go_wp2
        go_round
        case rel => exact ⟨k + 1, by omega, by go_num, Lib.hid fun j hj => by
          by_cases e : j = k
          · rw [e]; exact HE.out
          · exact H.out j (by omega)⟩
        case measure => simp [intOf]; omega
    · obtain rfl : k = n := by omega
      go_wp2
      go_ret
      exact ⟨⟨_, rfl, by rw [mem_take_no (fun j hj => H.out j (by rw [← HL.out]; exact hj))]; rfl⟩, rfl⟩
theorem contains_any (v : Value) (l : List Int) (x : Int) (w : World) (h : Sl w v l.length 1 (ints l)) (hn : l.length ≤ maxLen) :
    Calls Try.prog 53 #[v, .int .i64 x] w fun e w' => e = .returned (.bool (memI l x)) ∧ w = w' := by
  have HI := Lib.hid (index_any v l x w h hn)
  obtain ⟨A, cap, rfl, _⟩ := h
  generalize memI l x = R at *
  go_enter Try.func53, Try.ntmps53
  go_wp2_with fail
  refine HI.out.mono ?_
  rintro e w' ⟨⟨r, rfl, hr⟩, rfl⟩
  cases R
  all_goals
    go_wp2_with fail
    go_ret
    exact ⟨rfl, rfl⟩

/-- Which grants count. -/
def cgB (f p : Int) (wr : Bool) (g : Gr) : Bool := decide (g.f = f ∧ g.t = p) && (g.wr || !wr)

/-- What a partition's question of one frame needs of the world. -/
structure RcS (w1 : World) (c : Cf) (vp vd vw vg : Value) (y y1 y2 z : Nat) (p : Int) (fv : Value) (xf xo xl : Int) (w' : World) : Prop where
  cb : Blk w' y 27 (cfc c vp vd vw vg)
  pb : Blk w' y1 3 [.int .i64 p]
  fb : Blk w' y2 61 [fv]
  xb : Blk w' z 75 [.int .i64 xf, .int .i64 xo, .int .i64 xl]
  below : Below w1.heap.size w1 w'
section
variable {w1 w' w2 : World} {c : Cf} {vp vd vw vg fv : Value} {y y1 y2 z : Nat} {p xf xo xl : Int}
theorem RcS.next (h : RcS w1 c vp vd vw vg y y1 y2 z p fv xf xo xl w') (hb : Below w'.heap.size w' w2) : RcS w1 c vp vd vw vg y y1 y2 z p fv xf xo xl w2 :=
  ⟨h.cb.below hb h.cb.lt, h.pb.below hb h.pb.lt, h.fb.below hb h.fb.lt, h.xb.below hb h.xb.lt, Below.down h.below hb h.below.size⟩
theorem RcS.drew (h : RcS w1 c vp vd vw vg y y1 y2 z p fv xf xo xl w') : RcS w1 c vp vd vw vg y y1 y2 z p fv xf xo xl w'.drew := h.next (bdrewN (Below.refl _ _) 1)
end


theorem cnt_r (g : Gr) (w : World) : Calls Try.prog 29 #[.agg #[.int .i64 g.f, .int .i64 g.t, .bool g.wr]] w fun e w' => e = .returned (.bool (g.wr || !false)) ∧ Below w.heap.size w w' := by
  have hb : Blk (w.alloc (.cells #[.int .i64 g.f, .int .i64 g.t, .bool g.wr] 44)) w.heap.size 44 [.int .i64 g.f, .int .i64 g.t, .bool g.wr] := Blk.new _ _ _
  have k2 := hb.cell 2
  simp only [List.getElem?_cons_zero, List.getElem?_cons_succ] at k2
  clear hb
  obtain ⟨gf, gt, gw⟩ := g
  cases gw
  all_goals
    go_enter Try.func29, Try.ntmps29
    go_wp2
    go_ret
    exact ⟨rfl, (Below.refl _ _).alloc (Nat.le_refl _) _⟩

theorem ig1_r (g : Gr) (f p : Int) (a0 a1 a2 : Nat) (w : World) (h0 : Blk w a0 3 [.int .i64 f]) (h1 : Blk w a1 3 [.int .i64 p]) (h2 : Blk w a2 61 [.func (.func 29) #[] #[]]) :
    Calls Try.prog 75 #[.agg #[.int .i64 g.f, .int .i64 g.t, .bool g.wr], .pointer (some ⟨a0, 0, none⟩), .pointer (some ⟨a1, 0, none⟩), .pointer (some ⟨a2, 0, none⟩)] w fun e w' => e = .returned (.bool (cgB f p false g)) ∧ Below w.heap.size w w' := by
  have hB : Below w.heap.size w (w.alloc (.cells #[.int .i64 g.f, .int .i64 g.t, .bool g.wr] 44)) := (Below.refl _ _).alloc (Nat.le_refl _) _
  have hb : Blk (w.alloc (.cells #[.int .i64 g.f, .int .i64 g.t, .bool g.wr] 44)) w.heap.size 44 [.int .i64 g.f, .int .i64 g.t, .bool g.wr] := Blk.new _ _ _
  have k0 := hb.cell 0
  have k1 := hb.cell 1
  have k2 := hb.cell 2
  have c0 := (h0.below hB h0.lt).cell 0
  have c1 := (h1.below hB h1.lt).cell 0
  have c2 := (h2.below hB h2.lt).cell 0
  simp only [List.getElem?_cons_zero, List.getElem?_cons_succ] at k0 k1 k2 c0 c1 c2
  have HC := Lib.hid (cnt_r g (w.alloc (.cells #[.int .i64 g.f, .int .i64 g.t, .bool g.wr] 44)))
  obtain ⟨Q, hQ⟩ : ∃ Q, cgB f p false g = Q := ⟨_, rfl⟩
  rw [hQ]
  unfold cgB at hQ
  have HB := Lib.hid hB; have HQ := Lib.hid hQ
  clear hb hB h0 h1 h2 hQ
  obtain ⟨gf, gt, gw⟩ := g
  simp only at *
  by_cases hf : gf = f
  · by_cases ht : gt = p
    · have e : Q = (gw || !false) := by rw [← HQ.out, decide_eq_true ⟨hf, ht⟩, Bool.true_and]
      have HE := Lib.hid e
      subst hf ht
      clear e
      go_enter Try.func75, Try.ntmps75
      go_wp2_with fail
      refine HC.out.mono ?_
      rintro e w1 ⟨rfl, b1⟩
      rw [← HE.out]
      go_wp2_with fail
      go_ret
      exact ⟨rfl, Below.down HB.out b1 HB.out.size⟩
    · have e : Q = false := by rw [← HQ.out, decide_eq_false (fun h => ht h.2)]; rfl
      have ht2 : (gt == p) = false := by simpa using ht
      subst e hf
      clear ht
      go_enter Try.func75, Try.ntmps75
      go_wp2_with fail
      go_ret
      exact ⟨rfl, HB.out⟩
  · have e : Q = false := by rw [← HQ.out, decide_eq_false (fun h => hf h.1)]; rfl
    have hf2 : (gf == f) = false := by simpa using hf
    subst e
    clear hf
    go_enter Try.func75, Try.ntmps75
    go_wp2_with fail
    go_ret
    exact ⟨rfl, HB.out⟩

theorem granted_r {w : World} {c : Cf} {vp vd vw vg : Value} (h : CfAt w vp vd vw vg c) (p f : Int) :
    Calls Try.prog 54 #[.agg #[.int .i64 c.fr, vp, vd, .int .i64 c.mj, vw, vg, .int .i64 c.se, .int .i64 c.qu, .int .i64 c.qt], .int .i64 p, .int .i64 f, .func (.func 29) #[] #[]] w fun e w' => e = .returned (.bool (c.gs.any (cgB f p false))) ∧ Below w.heap.size w w' := by
  have hgs := h.gs
  have hz := h.gz
  obtain ⟨A', cap', rfl⟩ : ∃ A' cap', vg = .slice A' c.gs.length cap' := by obtain ⟨A', c', e, _⟩ := hgs; exact ⟨A', c', e⟩
  generalize hgn : c.gs.length = m at *
  have b1 : Below w.heap.size w (w.alloc (.cells #[.int .i64 c.fr, vp, vd, .int .i64 c.mj, vw, .slice A' m cap', .int .i64 c.se, .int .i64 c.qu, .int .i64 c.qt] 27)) := (Below.refl _ _).alloc (Nat.le_refl _) _
  have b2 := b1.alloc b1.size (.cells #[.int .i64 p] 3)
  have b3 := b2.alloc b2.size (.cells #[.int .i64 f] 3)
  have b4 := b3.alloc b3.size (.cells #[.func (.func 29) #[] #[]] 61)
  have k0 : Blk ((((w.alloc (.cells #[.int .i64 c.fr, vp, vd, .int .i64 c.mj, vw, .slice A' m cap', .int .i64 c.se, .int .i64 c.qu, .int .i64 c.qt] 27)).alloc (.cells #[.int .i64 p] 3)).alloc (.cells #[.int .i64 f] 3)).alloc (.cells #[.func (.func 29) #[] #[]] 61)) w.heap.size 27 (cfc c vp vd vw (.slice A' m cap')) := (((Blk.new w _ (cfc c vp vd vw (.slice A' m cap'))).alloc _).alloc _).alloc _
  have k1 : Blk ((((w.alloc (.cells #[.int .i64 c.fr, vp, vd, .int .i64 c.mj, vw, .slice A' m cap', .int .i64 c.se, .int .i64 c.qu, .int .i64 c.qt] 27)).alloc (.cells #[.int .i64 p] 3)).alloc (.cells #[.int .i64 f] 3)).alloc (.cells #[.func (.func 29) #[] #[]] 61)) (w.heap.size + 1) 3 [.int .i64 p] := by
    have := ((Blk.new (w.alloc (.cells #[.int .i64 c.fr, vp, vd, .int .i64 c.mj, vw, .slice A' m cap', .int .i64 c.se, .int .i64 c.qu, .int .i64 c.qt] 27)) 3 [.int .i64 p]).alloc (.cells #[.int .i64 f] 3)).alloc (.cells #[.func (.func 29) #[] #[]] 61)
    simpa using this
  have k2 : Blk ((((w.alloc (.cells #[.int .i64 c.fr, vp, vd, .int .i64 c.mj, vw, .slice A' m cap', .int .i64 c.se, .int .i64 c.qu, .int .i64 c.qt] 27)).alloc (.cells #[.int .i64 p] 3)).alloc (.cells #[.int .i64 f] 3)).alloc (.cells #[.func (.func 29) #[] #[]] 61)) (w.heap.size + 1 + 1) 3 [.int .i64 f] := by
    have := (Blk.new ((w.alloc (.cells #[.int .i64 c.fr, vp, vd, .int .i64 c.mj, vw, .slice A' m cap', .int .i64 c.se, .int .i64 c.qu, .int .i64 c.qt] 27)).alloc (.cells #[.int .i64 p] 3)) 3 [.int .i64 f]).alloc (.cells #[.func (.func 29) #[] #[]] 61)
    simpa using this
  have k3 : Blk ((((w.alloc (.cells #[.int .i64 c.fr, vp, vd, .int .i64 c.mj, vw, .slice A' m cap', .int .i64 c.se, .int .i64 c.qu, .int .i64 c.qt] 27)).alloc (.cells #[.int .i64 p] 3)).alloc (.cells #[.int .i64 f] 3)).alloc (.cells #[.func (.func 29) #[] #[]] 61)) (w.heap.size + 1 + 1 + 1) 61 [.func (.func 29) #[] #[]] := by
    have := Blk.new (((w.alloc (.cells #[.int .i64 c.fr, vp, vd, .int .i64 c.mj, vw, .slice A' m cap', .int .i64 c.se, .int .i64 c.qu, .int .i64 c.qt] 27)).alloc (.cells #[.int .i64 p] 3)).alloc (.cells #[.int .i64 f] 3)) 61 [.func (.func 29) #[] #[]]
    simpa using this
  have q5 := (cf_at k0).2.2.2.2.2.1
  have HB := Lib.hid b4
  have hgs4 := hgs.below b4
  obtain ⟨b, o, hbo⟩ : ∃ b o, 0 < m → A' = some ⟨b, o, none⟩ := by
    by_cases h0 : 0 < m
    · obtain ⟨b, o, e, _⟩ := grs_at hgs hgn 0 h0
      exact ⟨b, o, fun _ => e⟩
    · exact ⟨0, 0, fun h => absurd h h0⟩
  generalize hw4 : (((w.alloc (.cells #[.int .i64 c.fr, vp, vd, .int .i64 c.mj, vw, .slice A' m cap', .int .i64 c.se, .int .i64 c.qu, .int .i64 c.qt] 27)).alloc (.cells #[.int .i64 p] 3)).alloc (.cells #[.int .i64 f] 3)).alloc (.cells #[.func (.func 29) #[] #[]] 61) = w4 at *
  have hE := cf_Gr A' b o m cap' (w.heap.size + 1 + 1) (w.heap.size + 1) (w.heap.size + 1 + 1 + 1) (fun i => .int .i64 (c.gs.getD i grD).f) (fun i => .int .i64 (c.gs.getD i grD).t) (fun i => .bool (c.gs.getD i grD).wr) (fun i => cgB f p false (c.gs.getD i grD)) nos
    (fun _ W => Below w4.heap.size w4 W) w4 (by unfold maxLen; omega) hbo
    (fun i W hi hI => by
      obtain ⟨b', o', e, _, q⟩ := grs_at (hgs4.below hI) hgn i hi
      rw [hbo (by omega)] at e
      simp only [Option.some.injEq, Addr.mk.injEq, and_true] at e
      obtain ⟨rfl, rfl⟩ := e
      exact q)
    (fun i W hi _ hI => by
      refine (ig1_r (c.gs.getD i grD) f p _ _ _ W (k2.below hI k2.lt) (k1.below hI k1.lt) (k3.below hI k3.lt)).mono ?_
      rintro e w' ⟨rfl, hb⟩
      exact ⟨rfl, Below.down hI hb hI.size, Fo.of hb _⟩)
    (Below.refl _ _)
  have e9 : (List.range m).any (fun i => cgB f p false (c.gs.getD i grD)) = c.gs.any (cgB f p false) := by rw [← hgn]; exact any_range c.gs grD _
  rw [e9] at hE
  have HE := Lib.hid hE
  subst hw4
  clear hE e9 b1 b2 b3 b4 k0 k1 k2 k3 hgs4 hgs h hbo
  generalize c.gs.any (cgB f p false) = R at *
  go_enter Try.func54, Try.ntmps54
  go_wp2_with fail
  refine HE.out.mono ?_
  rintro e w5 ⟨rfl, -, hf⟩
  have HB5 := Lib.hid (Below.down HB.out hf.nos HB.out.size)
  clear hf
  go_wp2_with fail
  go_ret
  exact ⟨rfl, HB5.out⟩


theorem cnt_w (g : Gr) (w : World) : Calls Try.prog 31 #[.agg #[.int .i64 g.f, .int .i64 g.t, .bool g.wr]] w fun e w' => e = .returned (.bool (g.wr || !true)) ∧ Below w.heap.size w w' := by
  have hb : Blk (w.alloc (.cells #[.int .i64 g.f, .int .i64 g.t, .bool g.wr] 44)) w.heap.size 44 [.int .i64 g.f, .int .i64 g.t, .bool g.wr] := Blk.new _ _ _
  have k2 := hb.cell 2
  simp only [List.getElem?_cons_zero, List.getElem?_cons_succ] at k2
  clear hb
  obtain ⟨gf, gt, gw⟩ := g
  cases gw
  all_goals
    go_enter Try.func31, Try.ntmps31
    go_wp2
    go_ret
    exact ⟨rfl, (Below.refl _ _).alloc (Nat.le_refl _) _⟩

theorem ig1_w (g : Gr) (f p : Int) (a0 a1 a2 : Nat) (w : World) (h0 : Blk w a0 3 [.int .i64 f]) (h1 : Blk w a1 3 [.int .i64 p]) (h2 : Blk w a2 61 [.func (.func 31) #[] #[]]) :
    Calls Try.prog 75 #[.agg #[.int .i64 g.f, .int .i64 g.t, .bool g.wr], .pointer (some ⟨a0, 0, none⟩), .pointer (some ⟨a1, 0, none⟩), .pointer (some ⟨a2, 0, none⟩)] w fun e w' => e = .returned (.bool (cgB f p true g)) ∧ Below w.heap.size w w' := by
  have hB : Below w.heap.size w (w.alloc (.cells #[.int .i64 g.f, .int .i64 g.t, .bool g.wr] 44)) := (Below.refl _ _).alloc (Nat.le_refl _) _
  have hb : Blk (w.alloc (.cells #[.int .i64 g.f, .int .i64 g.t, .bool g.wr] 44)) w.heap.size 44 [.int .i64 g.f, .int .i64 g.t, .bool g.wr] := Blk.new _ _ _
  have k0 := hb.cell 0
  have k1 := hb.cell 1
  have k2 := hb.cell 2
  have c0 := (h0.below hB h0.lt).cell 0
  have c1 := (h1.below hB h1.lt).cell 0
  have c2 := (h2.below hB h2.lt).cell 0
  simp only [List.getElem?_cons_zero, List.getElem?_cons_succ] at k0 k1 k2 c0 c1 c2
  have HC := Lib.hid (cnt_w g (w.alloc (.cells #[.int .i64 g.f, .int .i64 g.t, .bool g.wr] 44)))
  obtain ⟨Q, hQ⟩ : ∃ Q, cgB f p true g = Q := ⟨_, rfl⟩
  rw [hQ]
  unfold cgB at hQ
  have HB := Lib.hid hB; have HQ := Lib.hid hQ
  clear hb hB h0 h1 h2 hQ
  obtain ⟨gf, gt, gw⟩ := g
  simp only at *
  by_cases hf : gf = f
  · by_cases ht : gt = p
    · have e : Q = (gw || !true) := by rw [← HQ.out, decide_eq_true ⟨hf, ht⟩, Bool.true_and]
      have HE := Lib.hid e
      subst hf ht
      clear e
      go_enter Try.func75, Try.ntmps75
      go_wp2_with fail
      refine HC.out.mono ?_
      rintro e w1 ⟨rfl, b1⟩
      rw [← HE.out]
      go_wp2_with fail
      go_ret
      exact ⟨rfl, Below.down HB.out b1 HB.out.size⟩
    · have e : Q = false := by rw [← HQ.out, decide_eq_false (fun h => ht h.2)]; rfl
      have ht2 : (gt == p) = false := by simpa using ht
      subst e hf
      clear ht
      go_enter Try.func75, Try.ntmps75
      go_wp2_with fail
      go_ret
      exact ⟨rfl, HB.out⟩
  · have e : Q = false := by rw [← HQ.out, decide_eq_false (fun h => hf h.1)]; rfl
    have hf2 : (gf == f) = false := by simpa using hf
    subst e
    clear hf
    go_enter Try.func75, Try.ntmps75
    go_wp2_with fail
    go_ret
    exact ⟨rfl, HB.out⟩

theorem granted_w {w : World} {c : Cf} {vp vd vw vg : Value} (h : CfAt w vp vd vw vg c) (p f : Int) :
    Calls Try.prog 54 #[.agg #[.int .i64 c.fr, vp, vd, .int .i64 c.mj, vw, vg, .int .i64 c.se, .int .i64 c.qu, .int .i64 c.qt], .int .i64 p, .int .i64 f, .func (.func 31) #[] #[]] w fun e w' => e = .returned (.bool (c.gs.any (cgB f p true))) ∧ Below w.heap.size w w' := by
  have hgs := h.gs
  have hz := h.gz
  obtain ⟨A', cap', rfl⟩ : ∃ A' cap', vg = .slice A' c.gs.length cap' := by obtain ⟨A', c', e, _⟩ := hgs; exact ⟨A', c', e⟩
  generalize hgn : c.gs.length = m at *
  have b1 : Below w.heap.size w (w.alloc (.cells #[.int .i64 c.fr, vp, vd, .int .i64 c.mj, vw, .slice A' m cap', .int .i64 c.se, .int .i64 c.qu, .int .i64 c.qt] 27)) := (Below.refl _ _).alloc (Nat.le_refl _) _
  have b2 := b1.alloc b1.size (.cells #[.int .i64 p] 3)
  have b3 := b2.alloc b2.size (.cells #[.int .i64 f] 3)
  have b4 := b3.alloc b3.size (.cells #[.func (.func 31) #[] #[]] 61)
  have k0 : Blk ((((w.alloc (.cells #[.int .i64 c.fr, vp, vd, .int .i64 c.mj, vw, .slice A' m cap', .int .i64 c.se, .int .i64 c.qu, .int .i64 c.qt] 27)).alloc (.cells #[.int .i64 p] 3)).alloc (.cells #[.int .i64 f] 3)).alloc (.cells #[.func (.func 31) #[] #[]] 61)) w.heap.size 27 (cfc c vp vd vw (.slice A' m cap')) := (((Blk.new w _ (cfc c vp vd vw (.slice A' m cap'))).alloc _).alloc _).alloc _
  have k1 : Blk ((((w.alloc (.cells #[.int .i64 c.fr, vp, vd, .int .i64 c.mj, vw, .slice A' m cap', .int .i64 c.se, .int .i64 c.qu, .int .i64 c.qt] 27)).alloc (.cells #[.int .i64 p] 3)).alloc (.cells #[.int .i64 f] 3)).alloc (.cells #[.func (.func 31) #[] #[]] 61)) (w.heap.size + 1) 3 [.int .i64 p] := by
    have := ((Blk.new (w.alloc (.cells #[.int .i64 c.fr, vp, vd, .int .i64 c.mj, vw, .slice A' m cap', .int .i64 c.se, .int .i64 c.qu, .int .i64 c.qt] 27)) 3 [.int .i64 p]).alloc (.cells #[.int .i64 f] 3)).alloc (.cells #[.func (.func 31) #[] #[]] 61)
    simpa using this
  have k2 : Blk ((((w.alloc (.cells #[.int .i64 c.fr, vp, vd, .int .i64 c.mj, vw, .slice A' m cap', .int .i64 c.se, .int .i64 c.qu, .int .i64 c.qt] 27)).alloc (.cells #[.int .i64 p] 3)).alloc (.cells #[.int .i64 f] 3)).alloc (.cells #[.func (.func 31) #[] #[]] 61)) (w.heap.size + 1 + 1) 3 [.int .i64 f] := by
    have := (Blk.new ((w.alloc (.cells #[.int .i64 c.fr, vp, vd, .int .i64 c.mj, vw, .slice A' m cap', .int .i64 c.se, .int .i64 c.qu, .int .i64 c.qt] 27)).alloc (.cells #[.int .i64 p] 3)) 3 [.int .i64 f]).alloc (.cells #[.func (.func 31) #[] #[]] 61)
    simpa using this
  have k3 : Blk ((((w.alloc (.cells #[.int .i64 c.fr, vp, vd, .int .i64 c.mj, vw, .slice A' m cap', .int .i64 c.se, .int .i64 c.qu, .int .i64 c.qt] 27)).alloc (.cells #[.int .i64 p] 3)).alloc (.cells #[.int .i64 f] 3)).alloc (.cells #[.func (.func 31) #[] #[]] 61)) (w.heap.size + 1 + 1 + 1) 61 [.func (.func 31) #[] #[]] := by
    have := Blk.new (((w.alloc (.cells #[.int .i64 c.fr, vp, vd, .int .i64 c.mj, vw, .slice A' m cap', .int .i64 c.se, .int .i64 c.qu, .int .i64 c.qt] 27)).alloc (.cells #[.int .i64 p] 3)).alloc (.cells #[.int .i64 f] 3)) 61 [.func (.func 31) #[] #[]]
    simpa using this
  have q5 := (cf_at k0).2.2.2.2.2.1
  have HB := Lib.hid b4
  have hgs4 := hgs.below b4
  obtain ⟨b, o, hbo⟩ : ∃ b o, 0 < m → A' = some ⟨b, o, none⟩ := by
    by_cases h0 : 0 < m
    · obtain ⟨b, o, e, _⟩ := grs_at hgs hgn 0 h0
      exact ⟨b, o, fun _ => e⟩
    · exact ⟨0, 0, fun h => absurd h h0⟩
  generalize hw4 : (((w.alloc (.cells #[.int .i64 c.fr, vp, vd, .int .i64 c.mj, vw, .slice A' m cap', .int .i64 c.se, .int .i64 c.qu, .int .i64 c.qt] 27)).alloc (.cells #[.int .i64 p] 3)).alloc (.cells #[.int .i64 f] 3)).alloc (.cells #[.func (.func 31) #[] #[]] 61) = w4 at *
  have hE := cf_Gr A' b o m cap' (w.heap.size + 1 + 1) (w.heap.size + 1) (w.heap.size + 1 + 1 + 1) (fun i => .int .i64 (c.gs.getD i grD).f) (fun i => .int .i64 (c.gs.getD i grD).t) (fun i => .bool (c.gs.getD i grD).wr) (fun i => cgB f p true (c.gs.getD i grD)) nos
    (fun _ W => Below w4.heap.size w4 W) w4 (by unfold maxLen; omega) hbo
    (fun i W hi hI => by
      obtain ⟨b', o', e, _, q⟩ := grs_at (hgs4.below hI) hgn i hi
      rw [hbo (by omega)] at e
      simp only [Option.some.injEq, Addr.mk.injEq, and_true] at e
      obtain ⟨rfl, rfl⟩ := e
      exact q)
    (fun i W hi _ hI => by
      refine (ig1_w (c.gs.getD i grD) f p _ _ _ W (k2.below hI k2.lt) (k1.below hI k1.lt) (k3.below hI k3.lt)).mono ?_
      rintro e w' ⟨rfl, hb⟩
      exact ⟨rfl, Below.down hI hb hI.size, Fo.of hb _⟩)
    (Below.refl _ _)
  have e9 : (List.range m).any (fun i => cgB f p true (c.gs.getD i grD)) = c.gs.any (cgB f p true) := by rw [← hgn]; exact any_range c.gs grD _
  rw [e9] at hE
  have HE := Lib.hid hE
  subst hw4
  clear hE e9 b1 b2 b3 b4 k0 k1 k2 k3 hgs4 hgs h hbo
  generalize c.gs.any (cgB f p true) = R at *
  go_enter Try.func54, Try.ntmps54
  go_wp2_with fail
  refine HE.out.mono ?_
  rintro e w5 ⟨rfl, -, hf⟩
  have HB5 := Lib.hid (Below.down HB.out hf.nos HB.out.size)
  clear hf
  go_wp2_with fail
  go_ret
  exact ⟨rfl, HB5.out⟩


end Go.Proofs.Ytamhnnkmjhapmaa
