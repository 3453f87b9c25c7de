/-
  A config that comes in: its nine cells, what its four slices read as.
-/
import Derived.Test.YtamhnnkmjhapmaaExArgs
import Derived.Test.YtamhnnkmjhapmaaCf1
namespace Go.Proofs.Ytamhnnkmjhapmaa
open Go.RowKit Go.ChangeShapes Go.WideShapes Go.Deep
set_option linter.unusedVariables false
set_option maxRecDepth 100000

/-- One device out of its cells. -/
theorem open_dev {H : Type} {enc : TypeId × Value → H} {W : World} {m b a : Nat} {cs : List Value} {y : DataW H × List MemPlace} (hy : DataW.trod enc Try.prog W 0 (fun _ => true) true m 42 cs = some y) (hcl : cs.length = 2)
    (hcell : ∀ j, j < 2 → W.cell? ⟨b, a + j, none⟩ = cs[j]?) (hw : ∀ q ∈ y.1.weights Try.prog 42, q ≤ 140737488351232) : ∃ p : De, DeAt W b a p ∧ p.po.length * 8 ≤ 140737488351232 := by
  obtain ⟨pt, g0, _⟩ := fld_int (P := Try.prog) Try.underlying42 hy 0 0 _ rfl rfl (by kernel_rfl) Try.underlying3
  obtain ⟨ys, m2, _, hagg, _, hyl, hfl⟩ := DataW.trod_struct Try.underlying42 hy
  have hyl4 : ys.length = 2 := hyl
  have h6 := hfl 1 _ rfl
  have e1 : Try.prog.cellsOf 38 = 1 := by kernel_rfl
  rw [List.getElem?_eq_getElem (by omega)] at h6
  obtain ⟨c, hc⟩ : ∃ c, (cs.drop 1).take 1 = [c] := by
    match cs, hcl with
    | [_, c], _ => exact ⟨c, rfl⟩
  have h7 : DataW.trod enc Try.prog W 0 (fun _ => true) true m2 38 [c] = some (ys[1]'(by omega)) := by
    rw [← hc]; exact h6
  obtain ⟨fs, A2, cap2, rfl, hs, hnil, h8⟩ := open_frs h7 (fun q hq => hw q (by
    rw [hagg]
    simp only [DataW.weights, Try.underlying42]
    exact DataW.weights_mem_each (j := 1) (t := 38) (d := (ys[1]'(by omega)).1) rfl (by rw [List.getElem?_map, List.getElem?_eq_getElem (by omega)]; rfl) q hq))
  have g2 : cs[1]? = some (.slice A2 fs.length cap2) := by
    have := congrArg (fun l => l[0]?) hc
    simpa [List.getElem?_take, List.getElem?_drop] using this
  refine ⟨⟨pt, fs⟩, ⟨A2, cap2, ?_, ?_, hs, hnil⟩, h8⟩
  · have := hcell 0 (by omega); rw [Nat.add_zero] at this; exact this.trans g0
  · exact (hcell 1 (by omega)).trans g2

theorem open_devs {H : Type} {enc : TypeId × Value → H} {W : World} {v : Value} {d : DataW H} {p : List MemPlace} (hv : ∃ A l c, v = .slice A l c) (h : DataW.Trod enc Try.prog W 0 (fun _ => true) true 23 v d p) (hw : ∀ q ∈ d.weights Try.prog 23, q ≤ 140737488351232) :
    ∃ l : List De, DeS W v l ∧ DeZ l := by
  obtain ⟨A, n, cap, rfl⟩ := hv
  obtain ⟨fuel, hf⟩ := h
  have hb := row_weightg (R := 140737488351232) Try.underlying23 hf hw
  have e32 : Try.prog.bytesOf 42 = 32 := by kernel_rfl
  have e2 : Try.prog.cellsOf 42 = 2 := by kernel_rfl
  rw [e32] at hb
  rcases DataW.trod_slice Try.underlying23 hf with ⟨h0, _⟩ | ⟨a, len, cap', elems, rest, k, _, h0, hx, _, _, _, hlen, hel, _⟩
  · simp only [Value.cells, List.cons.injEq, Value.slice.injEq, and_true] at h0
    obtain ⟨rfl, rfl, rfl⟩ := h0
    exact ⟨[], ⟨none, 0, rfl, fun h => absurd h (by simp)⟩, by simp, fun i => by simp [deD]⟩
  · simp only [Value.cells, List.cons.injEq, Value.slice.injEq, and_true] at h0
    obtain ⟨rfl, rfl, rfl⟩ := h0
    simp only [Prod.mk.injEq] at hx
    obtain ⟨rfl, _⟩ := hx
    have spot : 0 < n → a.spot = none ∧ a.block < W.heap.size := by
      intro hn
      have h1 := hel 0 hn
      rw [List.getElem?_eq_getElem (by omega), e2] at h1
      obtain ⟨cs, h2, h3⟩ := Option.bind_eq_some_iff.1 h1
      obtain ⟨_, h4, h5⟩ := World.cells?_some h2
      have h6 := h5 0 (by omega)
      rw [List.getElem?_eq_getElem (by omega)] at h6
      have h6' : W.cell? a = some cs[0] := by simpa [Addr.add] using h6
      exact ⟨World.cell?_spot h6', World.block_lt_of_cell? W _ h6'⟩
    by_cases hn : 0 < n
    · obtain ⟨hsp, hlt⟩ := spot hn
      obtain ⟨b, o, s⟩ := a
      simp only at hsp hlt
      subst hsp
      have key : ∀ i, i < n → ∃ p : De, DeAt W b (o + i * 2) p ∧ p.po.length * 8 ≤ 140737488351232 := by
        intro i hi
        have h1 := hel i hi
        rw [List.getElem?_eq_getElem (by omega), e2] at h1
        obtain ⟨cs, h2, h3⟩ := Option.bind_eq_some_iff.1 h1
        obtain ⟨_, h4, h5⟩ := World.cells?_some h2
        have hmem : (elems[i]'(by omega)).1 ∈ elems.map (·.1) := List.mem_map.2 ⟨_, List.getElem_mem _, rfl⟩
        refine open_dev h3 h4 (fun j hj => ?_) (fun q hq => hw q (by
          simp only [DataW.weights, Try.underlying23, List.mem_cons, List.mem_append]
          exact .inr (.inl (weightsAll_memg hmem q hq))))
        have := h5 j hj
        simpa [add_none, Nat.add_assoc] using this
      haveI : Inhabited De := ⟨deD⟩
      obtain ⟨F, hF⟩ := choose_lt (α := De) (p := fun i p => DeAt W b (o + i * 2) p ∧ p.po.length * 8 ≤ 140737488351232) key
      have hg : ∀ i, i < n → ((List.range n).map F).getD i deD = F i := by
        intro i hi
        simp [List.getD, hi]
      have hl : ((List.range n).map F).length = n := by simp
      refine ⟨(List.range n).map F, ⟨some ⟨b, o, none⟩, cap, by rw [hl], fun h0 => ⟨b, o, rfl, hlt, fun i hi => ?_⟩⟩, by rw [hl]; exact hb, fun i => ?_⟩
      · rw [hl] at hi
        rw [hg i hi]
        exact (hF i hi).1
      · by_cases hi : i < n
        · rw [hg i hi]; exact (hF i hi).2
        · simp [List.getD, show ¬ i < n from hi, deD]
    · obtain rfl : n = 0 := by omega
      exact ⟨[], ⟨some a, cap, rfl, fun h => absurd h (by simp)⟩, by simp, fun i => by simp [deD]⟩

theorem fld_bool0 {H : Type} {enc : TypeId × Value → H} {P : Program} {W : World} {e : TypeId} {fs : Array Field} {m : Nat} {cs : List Value} {y : DataW H × List MemPlace} (he : P.underlying e = some (.struct fs)) (hy : DataW.trod enc P W 0 (fun _ => true) true m e cs = some y)
    (k o : Nat) (f : Field) (hk : fs[k]? = some f) (ho : f.offset = o) (hc : P.cellsOf f.type = 1) (hu : P.underlying f.type = some .bool) : ∃ b : Bool, cs[o]? = some (.bool b) := by
  obtain ⟨ys, m', _, _, hlen, hyl, hf⟩ := DataW.trod_struct he hy
  have hkl : k < ys.length := by rw [hyl]; exact (Array.getElem?_eq_some_iff.1 hk).1
  have h1 := hf _ f hk
  rw [ho, hc, List.getElem?_eq_getElem hkl] at h1
  obtain ⟨b, hz, _⟩ := DataW.trod_bool hu h1
  refine ⟨b, ?_⟩
  have g : ((cs.drop o).take 1)[0]? = some (Value.bool b) := by rw [hz]; rfl
  rw [List.getElem?_take, if_pos (by omega), List.getElem?_drop] at g
  exact g
theorem grs_of : ∀ (n : Nat) (xs : List Value), xs.length = n * 3 → (∀ i, i < n → ∃ g : Gr, (xs.drop (i * 3)).take 3 = grc g) → ∃ l : List Gr, l.length = n ∧ xs = grs l := by
  intro n
  induction n with
  | zero => intro xs h _; exact ⟨[], rfl, List.length_eq_zero_iff.1 (by simpa using h)⟩
  | succ n ih =>
    intro xs h hk
    obtain ⟨g, hg⟩ := hk 0 (by omega)
    obtain ⟨l, hl, e⟩ := ih (xs.drop 3) (by rw [List.length_drop]; omega) (fun i hi => by
      obtain ⟨g, hg⟩ := hk (i + 1) (by omega)
      exact ⟨g, by rw [List.drop_drop, ← hg, show 3 + i * 3 = (i + 1) * 3 by omega]⟩)
    refine ⟨g :: l, by simp [hl], ?_⟩
    have : grs (g :: l) = grc g ++ grs l := by simp [grs]
    rw [this, ← hg, ← e]
    simp
theorem slice_form {H : Type} {enc : TypeId × Value → H} {W : World} {m : Nat} {t e : TypeId} {c : Value} {y : DataW H × List MemPlace} (ht : Try.prog.underlying t = some (.slice e)) (h : DataW.trod enc Try.prog W 0 (fun _ => true) true m t [c] = some y) : ∃ A l c0, c = .slice A l c0 ∧ (A = none → c0 = 0) := by
  rcases DataW.trod_slice ht h with ⟨h0, _⟩ | ⟨a, len, cap, elems, rest, k, _, h0, _⟩
  · simp only [List.cons.injEq, and_true] at h0
    exact ⟨none, 0, 0, h0, fun _ => rfl⟩
  · simp only [List.cons.injEq, and_true] at h0
    exact ⟨some a, len, cap, h0, fun e => by cases e⟩
theorem open_wins {H : Type} {enc : TypeId × Value → H} {W : World} {m : Nat} {c : Value} {y : DataW H × List MemPlace} (h : DataW.trod enc Try.prog W 0 (fun _ => true) true m 24 [c] = some y) (hw : ∀ q ∈ y.1.weights Try.prog 24, q ≤ 140737488351232) :
    ∃ l : List Win, Ws W c l.length l ∧ l.length * 32 ≤ 140737488351232 ∧ ∀ m k, c = .slice none m k → k = 0 := by
  obtain ⟨A, n, cap, rfl, hn⟩ := slice_form Try.underlying24 h
  have hb := row_weightg Try.underlying24 h hw
  have e32 : Try.prog.bytesOf 58 = 32 := by kernel_rfl
  rw [e32] at hb
  obtain ⟨n', zs, hs, hm, hl, hr⟩ := open_recsg (P := Try.prog) (enc := enc) (v := .slice A n cap) (d := y.1) (p := y.2) Try.underlying24 Try.underlying58 (by kernel_rfl) (by decide) (by kernel_rfl) ⟨_, _, _, rfl⟩ ⟨m, h⟩
  have en : n' = n := by
    obtain ⟨_, _, e, _⟩ := hs
    simp only [Value.slice.injEq] at e
    exact e.2.1.symm
  subst en
  obtain ⟨l, rfl, hll⟩ := wins_of n' zs hl
  subst hll
  exact ⟨l, ⟨hs, rfl, hm, w64_of l hr⟩, hb, fun m k e => by simp only [Value.slice.injEq] at e; rw [← e.2.2]; exact hn e.1⟩
theorem open_grs {H : Type} {enc : TypeId × Value → H} {W : World} {m : Nat} {c : Value} {y : DataW H × List MemPlace} (h : DataW.trod enc Try.prog W 0 (fun _ => true) true m 25 [c] = some y) (hw : ∀ q ∈ y.1.weights Try.prog 25, q ≤ 140737488351232) :
    ∃ l : List Gr, Sl W c l.length 3 (grs l) ∧ l.length * 24 ≤ 140737488351232 ∧ ∀ m k, c = .slice none m k → k = 0 := by
  obtain ⟨A, n, cap, rfl, hn⟩ := slice_form Try.underlying25 h
  have hb := row_weightg Try.underlying25 h hw
  have e24 : Try.prog.bytesOf 44 = 24 := by kernel_rfl
  rw [e24] at hb
  obtain ⟨n', xs, hs, hm, hr⟩ := open_slg (P := Try.prog) (enc := enc) (v := .slice A n cap) (d := y.1) (p := y.2) (C := 3) Try.underlying25 (by kernel_rfl) (by decide) ⟨_, _, _, rfl⟩ ⟨m, h⟩
  have en : n' = n := by
    obtain ⟨_, _, e, _⟩ := hs
    simp only [Value.slice.injEq] at e
    exact e.2.1.symm
  subst en
  have hxl : xs.length = n' * 3 := by obtain ⟨_, _, _, _, hl, _⟩ := hs; exact hl
  obtain ⟨l, hl, rfl⟩ := grs_of n' xs hxl (fun i hi => by
    obtain ⟨m2, y2, hy⟩ := hr i hi
    obtain ⟨f, g0, _⟩ := fld_int (P := Try.prog) Try.underlying44 hy 0 0 _ rfl rfl (by kernel_rfl) Try.underlying3
    obtain ⟨t, g1, _⟩ := fld_int (P := Try.prog) Try.underlying44 hy 1 1 _ rfl rfl (by kernel_rfl) Try.underlying3
    obtain ⟨b, g2⟩ := fld_bool0 (P := Try.prog) Try.underlying44 hy 2 2 _ rfl rfl (by kernel_rfl) Try.underlying4
    refine ⟨⟨f, t, b⟩, ?_⟩
    have hlen : ((xs.drop (i * 3)).take 3).length = 3 := by rw [List.length_take, List.length_drop]; omega
    generalize (xs.drop (i * 3)).take 3 = z at *
    match z, hlen with
    | [a, b', c'], _ =>
      simp only [List.getElem?_cons_zero, List.getElem?_cons_succ, Option.some.injEq] at g0 g1 g2
      rw [g0, g1, g2]; rfl)
  subst hl
  exact ⟨l, hs, hb, fun m k e => by simp only [Value.slice.injEq] at e; rw [← e.2.2]; exact hn e.1⟩

theorem open_cfg {H : Type} {enc : TypeId × Value → H} {W : World} {r : Reach} {b0 : Nat} {v : Value} {d : DataW H} {p : List MemPlace} (hv : Value.okWide Try.prog W r b0 27 v) (h : DataW.Trod enc Try.prog W 0 (fun _ => true) true 27 v d p)
    (hw : ∀ q ∈ d.weights Try.prog 27, q ≤ 140737488351232) :
    ∃ (c : Cf) (vp vd vw vg : Value), v = .agg #[.int .i64 c.fr, vp, vd, .int .i64 c.mj, vw, vg, .int .i64 c.se, .int .i64 c.qu, .int .i64 c.qt] ∧ CfAt W vp vd vw vg c := by
  obtain ⟨cs, rfl, hsz⟩ := okWide_struct Try.underlying27 hv
  obtain ⟨l, rfl⟩ : ∃ l : List Value, cs = l.toArray := ⟨cs.toList, by simp⟩
  obtain ⟨m, hy⟩ := h
  have e9 : Try.prog.cellsOf 27 = 9 := by kernel_rfl
  have hcl : l.length = 9 := by rw [e9] at hsz; simpa using hsz
  change DataW.trod enc Try.prog W 0 (fun _ => true) true m 27 l = some (d, p) at hy
  obtain ⟨fr, g0, _⟩ := fld_int (P := Try.prog) Try.underlying27 hy 0 0 _ rfl rfl (by kernel_rfl) Try.underlying3
  obtain ⟨mj, g3, _⟩ := fld_int (P := Try.prog) Try.underlying27 hy 3 3 _ rfl rfl (by kernel_rfl) Try.underlying3
  obtain ⟨se, g6, _⟩ := fld_int (P := Try.prog) Try.underlying27 hy 6 6 _ rfl rfl (by kernel_rfl) Try.underlying3
  obtain ⟨qu, g7, _⟩ := fld_int (P := Try.prog) Try.underlying27 hy 7 7 _ rfl rfl (by kernel_rfl) Try.underlying3
  obtain ⟨qt, g8, _⟩ := fld_int (P := Try.prog) Try.underlying27 hy 8 8 _ rfl rfl (by kernel_rfl) Try.underlying3
  obtain ⟨ys, m2, _, hagg, _, hyl, hfl⟩ := DataW.trod_struct Try.underlying27 hy
  have hyl9 : ys.length = 9 := hyl
  have hwk : ∀ k t (hk : k < 9), (([3, 22, 23, 3, 24, 25, 3, 3, 3] : List TypeId))[k]? = some t → ∀ q ∈ (ys[k]'(by omega)).1.weights Try.prog t, q ≤ 140737488351232 := by
    intro k t hk ht q hq
    refine hw q ?_
    have hagg' := (Prod.mk.inj hagg).1
    rw [hagg']
    simp only [DataW.weights, Try.underlying27]
    exact DataW.weights_mem_each (j := k) (t := t) (d := (ys[k]'(by omega)).1) ht (by rw [List.getElem?_map, List.getElem?_eq_getElem (by omega)]; rfl) q hq
  obtain ⟨x0, x1, x2, x3, x4, x5, x6, x7, x8, rfl⟩ : ∃ x0 x1 x2 x3 x4 x5 x6 x7 x8, l = [x0, x1, x2, x3, x4, x5, x6, x7, x8] := by
    match l, hcl with
    | [x0, x1, x2, x3, x4, x5, x6, x7, x8], _ => exact ⟨_, _, _, _, _, _, _, _, _, rfl⟩
  have i0 : x0 = .int .i64 fr := Option.some.inj g0
  have i3 : x3 = .int .i64 mj := Option.some.inj g3
  have i6 : x6 = .int .i64 se := Option.some.inj g6
  have i7 : x7 = .int .i64 qu := Option.some.inj g7
  have i8 : x8 = .int .i64 qt := Option.some.inj g8
  subst i0 i3 i6 i7 i8
  have h1 := hfl 1 _ rfl
  rw [List.getElem?_eq_getElem (by omega)] at h1
  have t1 : DataW.trod enc Try.prog W 0 (fun _ => true) true m2 22 [x1] = some (ys[1]'(by omega)) := h1
  have w1 := hwk 1 22 (by omega) rfl
  have h2 := hfl 2 _ rfl
  rw [List.getElem?_eq_getElem (by omega)] at h2
  have t2 : DataW.trod enc Try.prog W 0 (fun _ => true) true m2 23 [x2] = some (ys[2]'(by omega)) := h2
  have w2 := hwk 2 23 (by omega) rfl
  have h4 := hfl 4 _ rfl
  rw [List.getElem?_eq_getElem (by omega)] at h4
  have t4 : DataW.trod enc Try.prog W 0 (fun _ => true) true m2 24 [x4] = some (ys[4]'(by omega)) := h4
  have w4 := hwk 4 24 (by omega) rfl
  have h5 := hfl 5 _ rfl
  rw [List.getElem?_eq_getElem (by omega)] at h5
  have t5 : DataW.trod enc Try.prog W 0 (fun _ => true) true m2 25 [x5] = some (ys[5]'(by omega)) := h5
  have w5 := hwk 5 25 (by omega) rfl
  obtain ⟨A1, l1, c1, e1, _⟩ := slice_form Try.underlying22 t1
  obtain ⟨A2, l2, c2, e2, _⟩ := slice_form Try.underlying23 t2
  obtain ⟨ps, hps, hpz⟩ := open_parts (v := x1) (d := (ys[1]'(by omega)).1) (p := (ys[1]'(by omega)).2) ⟨_, _, _, e1⟩ ⟨m2, by subst e1; exact t1⟩ w1
  obtain ⟨ds, hds, hdz⟩ := open_devs (v := x2) (d := (ys[2]'(by omega)).1) (p := (ys[2]'(by omega)).2) ⟨_, _, _, e2⟩ ⟨m2, by subst e2; exact t2⟩ w2
  obtain ⟨ws, hws, hwz, hwn⟩ := open_wins t4 w4
  obtain ⟨gs, hgs, hgz, hgn⟩ := open_grs t5 w5
  refine ⟨⟨fr, ps, ds, mj, ws, gs, se, qu, qt⟩, x1, x2, x4, x5, rfl, ⟨hps, hpz, hds, hdz, hws, hwz, hwn, hgs, hgz, hgn⟩⟩

end Go.Proofs.Ytamhnnkmjhapmaa
