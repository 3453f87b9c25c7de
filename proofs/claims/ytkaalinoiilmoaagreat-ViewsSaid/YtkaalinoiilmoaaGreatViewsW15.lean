/-
  What the proofs lean on: contracts of the program's functions, plain facts.
-/
import Derived.SizedLaws
import Derived.Test.YtkaalinoiilmoaaGreatViewsW14
import Derived.Test.YtkaalinoiilmoaaGreatViewsW1
import Derived.Test.YtkaalinoiilmoaaGreatViewsW3
import Derived.BigQuiet
import Derived.Test.YtkaalinoiilmoaaGreatChecked
import Derived.Laws.AppendOwnNone
import Derived.Lib.SliceRun
import Derived.Deep.RegionHeld3
import Derived.Test.YtkaalinoiilmoaaGreatViewsW12
import Derived.Test.YtkaalinoiilmoaaGreatViewsW13
namespace Go.Proofs.YtkaalinoiilmoaaGreat
open Go.RowKit Go.ChangeShapes Go.WideShapes Go.Deep
set_option linter.unusedVariables false
set_option maxRecDepth 100000
section
variable {H : Type} {enc : TypeId × Value → H} {P : Program}
theorem open_slg {t e : TypeId} {C : Nat} {W : World} {v : Value} {d : DataW H} {p : List MemPlace} (ht : P.underlying t = some (.slice e)) (hC : P.cellsOf e = C) (hpos : 0 < C)
    (hv : ∃ A l c, v = .slice A l c) (h : DataW.Trod enc P W 0 (fun _ => true) true t v d p) :
    ∃ (n : Nat) (xs : List Value), Sl W v n C xs ∧ n ≤ maxLen ∧ ∀ i, i < n → ∃ (m : Nat) (y : DataW H × List MemPlace), DataW.trod enc P W 0 (fun _ => true) true m e ((xs.drop (i * C)).take C) = some y := by
  obtain ⟨A0, l0, c0, rfl⟩ := hv
  obtain ⟨fuel, hf⟩ := h
  rcases DataW.trod_slice ht hf with ⟨h0, _⟩ | ⟨a, len, cap, elems, rest, n, _, h0, _, _, hlc, hm, hlen, hel, _⟩
  · simp only [Value.cells, List.cons.injEq, Value.slice.injEq, and_true] at h0
    obtain ⟨rfl, rfl, rfl⟩ := h0
    exact ⟨0, [], ⟨none, 0, rfl, Nat.le_refl _, by simp, fun h => absurd h (by omega)⟩, by omega, fun i hi => absurd hi (by omega)⟩
  · simp only [Value.cells, List.cons.injEq, Value.slice.injEq, and_true] at h0
    obtain ⟨rfl, rfl, rfl⟩ := h0
    have key : ∀ i, i < l0 → ∃ cs : List Value, cs.length = C ∧ (∀ j, j < C → W.cell? ((a.add (i * C)).add j) = cs[j]?) ∧ ∃ (y : DataW H × List MemPlace), DataW.trod enc P W 0 (fun _ => true) true n e cs = some y := by
      intro i hi
      have := hel i hi
      rw [List.getElem?_eq_getElem (by omega), hC] at this
      obtain ⟨cs, h1, h2⟩ := Option.bind_eq_some_iff.1 this
      obtain ⟨_, h3, h4⟩ := World.cells?_some h1
      exact ⟨cs, h3, h4, _, h2⟩
    obtain ⟨F, hF⟩ := choose_lt (α := List Value) (p := fun i cs => cs.length = C ∧ (∀ j, j < C → W.cell? ((a.add (i * C)).add j) = cs[j]?) ∧ ∃ (y : DataW H × List MemPlace), DataW.trod enc P W 0 (fun _ => true) true n e cs = some y) key
    have all : ∀ m, m ≤ l0 → ∃ xs : List Value, xs.length = m * C ∧ (∀ j u, xs[j]? = some u → W.cell? (a.add j) = some u) ∧ ∀ i, i < m → (xs.drop (i * C)).take C = F i := by
      intro m
      induction m with
      | zero => intro _; exact ⟨[], by simp, fun j u hu => by simp at hu, fun i hi => absurd hi (by omega)⟩
      | succ m ih =>
        intro hm
        obtain ⟨xs, hx1, hx2, hx3⟩ := ih (by omega)
        obtain ⟨f1, f2, _⟩ := hF m (by omega)
        have hmC : (m + 1) * C = m * C + C := by rw [Nat.add_mul, Nat.one_mul]
        refine ⟨xs ++ F m, by rw [List.length_append, hx1, f1, hmC], fun j u hu => ?_, fun i hi => ?_⟩
        · by_cases hj : j < xs.length
          · rw [List.getElem?_append_left hj] at hu; exact hx2 j u hu
          · rw [List.getElem?_append_right (by omega)] at hu
            have hjl : j - xs.length < C := by
              have := (List.getElem?_eq_some_iff.1 hu).1
              omega
            have := f2 _ hjl
            rw [add_add, hu] at this
            rw [show j = m * C + (j - xs.length) by omega]
            exact this
        · have hiC : i * C + C ≤ m * C ∨ i = m := by
            by_cases h : i = m
            · exact .inr h
            · left
              have : (i + 1) * C ≤ m * C := Nat.mul_le_mul_right _ (by omega)
              rw [Nat.add_mul, Nat.one_mul] at this
              exact this
          rcases hiC with h | rfl
          · have hlt : i < m := by
              by_cases hh : i < m
              · exact hh
              · have : m * C ≤ i * C := Nat.mul_le_mul_right _ (by omega)
                omega
            rw [List.drop_append_of_le_length (by omega), List.take_append_of_le_length (by rw [List.length_drop]; omega)]
            exact hx3 i hlt
          · rw [← hx1, List.drop_left, ← f1, List.take_length]
    obtain ⟨xs, hx1, hx2, hx3⟩ := all l0 (Nat.le_refl _)
    refine ⟨l0, xs, ⟨some a, c0, rfl, hlc, hx1, fun hn => ?_⟩, by omega, fun i hi => ?_⟩
    · have hCn : 0 < xs.length := by rw [hx1]; exact Nat.mul_pos hn hpos
      have h0 := hx2 0 _ (List.getElem?_eq_getElem hCn)
      have h0' : W.cell? a = some xs[0] := by simpa [Addr.add] using h0
      have hs := World.cell?_spot h0'
      obtain ⟨b, o, s⟩ := a
      simp only at hs
      subst hs
      refine ⟨b, o, rfl, World.block_lt_of_cell? W _ h0', fun j u hu => ?_⟩
      have := hx2 j u hu
      rw [add_none] at this
      exact this
    · rw [hx3 i hi]
      obtain ⟨_, _, y, hy⟩ := hF i hi
      exact ⟨n, y, hy⟩
theorem open_recsg {t e : TypeId} {fs : Array Field} {W : World} {v : Value} {d : DataW H} {p : List MemPlace} (ht : P.underlying t = some (.slice e)) (he : P.underlying e = some (.struct fs)) (hC : P.cellsOf e = fs.size) (hpos : 0 < fs.size)
    (hfs : intFields P fs = true) (hv : ∃ A l c, v = .slice A l c) (h : DataW.Trod enc P W 0 (fun _ => true) true t v d p) :
    ∃ (n : Nat) (zs : List Int), Sl W v n fs.size (ints zs) ∧ n ≤ maxLen ∧ zs.length = n * fs.size ∧ ∀ z ∈ zs, In64 z := by
  obtain ⟨n, xs, hs, hn, hr⟩ := open_slg ht hC hpos hv h
  have hxl : xs.length = n * fs.size := by obtain ⟨_, _, _, _, hl, _⟩ := hs; exact hl
  have each : ∀ j, j < n * fs.size → ∃ z : Int, xs[j]? = some (.int .i64 z) ∧ In64 z := by
    intro j hj
    have hi : j / fs.size < n := Nat.div_lt_of_lt_mul (by rw [Nat.mul_comm]; exact hj)
    obtain ⟨m, y, hy⟩ := hr _ hi
    obtain ⟨ys, m', _, _, hlen, hyl, hf⟩ := DataW.trod_struct he hy
    have hk : j % fs.size < fs.size := Nat.mod_lt _ hpos
    obtain ⟨f, f0, f1, f2, f3⟩ := intFields_of hfs _ hk
    have h1 := hf _ f f0
    rw [f1, f2, List.getElem?_eq_getElem (by omega)] at h1
    obtain ⟨z, hz, _, hw⟩ := DataW.trod_int f3 h1
    refine ⟨z, ?_, wfb hw⟩
    have hj2 : j / fs.size * fs.size + j % fs.size = j := by rw [Nat.mul_comm]; exact Nat.div_add_mod j fs.size
    have g : (((xs.drop (j / fs.size * fs.size)).take fs.size).drop (j % fs.size)).take 1 = [Value.int .i64 z] := hz
    have g2 : ((((xs.drop (j / fs.size * fs.size)).take fs.size).drop (j % fs.size)).take 1)[0]? = some (Value.int .i64 z) := by rw [g]; rfl
    rw [List.getElem?_take, if_pos (by omega), List.getElem?_drop, List.getElem?_take, if_pos (by omega), List.getElem?_drop] at g2
    rw [← g2, show j / fs.size * fs.size + (j % fs.size + 0) = j by omega]
  have hzs : ∀ m, m ≤ n * fs.size → ∃ zs : List Int, zs.length = m ∧ xs.take m = ints zs ∧ ∀ z ∈ zs, In64 z := by
    intro m
    induction m with
    | zero => intro _; exact ⟨[], rfl, by simp [ints], fun z hz => by cases hz⟩
    | succ m ih =>
      intro hm
      obtain ⟨zs, z1, z2, z3⟩ := ih (by omega)
      obtain ⟨z, h1, h2⟩ := each m (by omega)
      refine ⟨zs ++ [z], by simp [z1], ?_, fun u hu => ?_⟩
      · rw [List.take_add_one, z2, h1, ints_append]; rfl
      · rcases List.mem_append.1 hu with hu | hu
        · exact z3 u hu
        · simp only [List.mem_cons, List.not_mem_nil, or_false] at hu
          subst hu; exact h2
  obtain ⟨zs, z1, z2, z3⟩ := hzs _ (Nat.le_refl _)
  rw [← hxl, List.take_length] at z2
  subst z2
  exact ⟨n, zs, hs, hn, z1, z3⟩
theorem weightsAll_memg {e : TypeId} : ∀ {ds : List (DataW H)} {d : DataW H}, d ∈ ds → ∀ n ∈ d.weights P e, n ∈ DataW.weightsAll P e ds
  | [], d, h, n, hn => by cases h
  | d0 :: ds, d, h, n, hn => by
    simp only [DataW.weightsAll, List.mem_append]
    rcases List.mem_cons.1 h with rfl | h
    · exact .inl hn
    · exact .inr (weightsAll_memg h n hn)
theorem row_weightg {W : World} {t e : TypeId} {R m n c : Nat} {A : Option Addr} {y : DataW H × List MemPlace} (ht : P.underlying t = some (.slice e)) (h : DataW.trod enc P W 0 (fun _ => true) true m t [.slice A n c] = some y) (hw : ∀ q ∈ y.1.weights P t, q ≤ R) : n * P.bytesOf e ≤ R := by
  rcases DataW.trod_slice ht h with ⟨h0, _⟩ | ⟨a, len, cap, elems, rest, k, _, h0, hx, _, _, _, hlen, _⟩
  · simp only [List.cons.injEq, Value.slice.injEq, and_true] at h0
    obtain ⟨_, rfl, _⟩ := h0
    simp
  · simp only [List.cons.injEq, Value.slice.injEq, and_true] at h0
    obtain ⟨_, rfl, _⟩ := h0
    subst hx
    have := hw ((elems.length + rest.length) * P.bytesOf e) (by simp [DataW.weights, ht])
    exact Nat.le_trans (Nat.mul_le_mul_right _ (by omega)) this
end
end Go.Proofs.YtkaalinoiilmoaaGreat
namespace Go.Proofs.YtkaalinoiilmoaaGreat
open Go.RowKit Go.ChangeShapes Go.WideShapes Go.Deep
set_option linter.unusedVariables false
set_option maxRecDepth 100000
section
variable {H : Type} {enc : TypeId × Value → H} {P : Program}
theorem open_intslg {t e : TypeId} {W : World} {v : Value} {d : DataW H} {p : List MemPlace} (ht : P.underlying t = some (.slice e)) (he : P.underlying e = some (.int .i64)) (hC : P.cellsOf e = 1)
    (hv : ∃ A l c, v = .slice A l c) (h : DataW.Trod enc P W 0 (fun _ => true) true t v d p) :
    ∃ (n : Nat) (zs : List Int), Sl W v n 1 (ints zs) ∧ n ≤ maxLen ∧ zs.length = n ∧ ∀ z ∈ zs, In64 z := by
  obtain ⟨n, xs, hs, hn, hr⟩ := open_slg ht hC (by omega) hv h
  have hxl : xs.length = n * 1 := by obtain ⟨_, _, _, _, hl, _⟩ := hs; exact hl
  have each : ∀ j, j < xs.length → ∃ z : Int, xs[j]? = some (.int .i64 z) ∧ In64 z := by
    intro j hj
    obtain ⟨m, y, hy⟩ := hr j (by omega)
    obtain ⟨z, hz, _, hw⟩ := DataW.trod_int he hy
    refine ⟨z, ?_, wfb hw⟩
    have g2 : ((xs.drop (j * 1)).take 1)[0]? = some (Value.int .i64 z) := by rw [hz]; rfl
    rw [List.getElem?_take, if_pos (by omega), List.getElem?_drop] at g2
    rw [← g2, show j * 1 + 0 = j by omega]
  obtain ⟨zs, rfl, hz⟩ := ints_of each
  exact ⟨n, zs, hs, hn, by rw [ints_len] at hxl; omega, hz⟩
end
theorem open_frs {H : Type} {enc : TypeId × Value → H} {W : World} {m : Nat} {c : Value} {y : DataW H × List MemPlace} (h : DataW.trod enc Tryz.prog W 0 (fun _ => true) true m 44 [c] = some y) (hw : ∀ q ∈ y.1.weights Tryz.prog 44, q ≤ 140737488351232) :
    ∃ (fs : List Int) (A2 : Option Addr) (cap2 : Nat), c = .slice A2 fs.length cap2 ∧ Sl W (.slice A2 fs.length cap2) fs.length 1 (ints fs) ∧ (A2 = none → cap2 = 0) ∧ fs.length * 8 ≤ 140737488351232 := by
  have hf : ∃ A l c0, c = .slice A l c0 ∧ (A = none → c0 = 0) := by
    rcases DataW.trod_slice Tryz.underlying44 h with ⟨h0, _⟩ | ⟨a, len, cap, elems, rest, k, _, h0, _⟩
    · simp only [List.cons.injEq, and_true] at h0
      exact ⟨none, 0, 0, h0, fun _ => rfl⟩
    · simp only [List.cons.injEq, and_true] at h0
      exact ⟨some a, len, cap, h0, fun e => by cases e⟩
  obtain ⟨A2, n, cap2, rfl, hn⟩ := hf
  have hb := row_weightg Tryz.underlying44 h hw
  have e8 : Tryz.prog.bytesOf 3 = 8 := by kernel_rfl
  rw [e8] at hb
  obtain ⟨n', zs, hs, _, hl, _⟩ := open_intslg (P := Tryz.prog) (enc := enc) (v := .slice A2 n cap2) (d := y.1) (p := y.2) Tryz.underlying44 Tryz.underlying3 (by kernel_rfl) ⟨_, _, _, rfl⟩ ⟨m, h⟩
  have en : n' = n := by
    obtain ⟨_, _, e, _⟩ := hs
    simp only [Value.slice.injEq] at e
    exact e.2.1.symm
  subst en
  subst hl
  exact ⟨zs, A2, cap2, rfl, hs, hn, hb⟩
theorem open_part {H : Type} {enc : TypeId × Value → H} {W : World} {m b a : Nat} {cs : List Value} {y : DataW H × List MemPlace} (hy : DataW.trod enc Tryz.prog W 0 (fun _ => true) true m 70 cs = some y) (hcl : cs.length = 5)
    (hcell : ∀ j, j < 5 → W.cell? ⟨b, a + j, none⟩ = cs[j]?) (hw : ∀ q ∈ y.1.weights Tryz.prog 70, q ≤ 140737488351232) : ∃ p : Pa, PaAt W b a p ∧ p.fr.length * 8 ≤ 140737488351232 := by
  obtain ⟨m', y', hy'⟩ := fld_sub (P := Tryz.prog) Tryz.underlying70 hy 0 0 2 _ rfl rfl (by kernel_rfl)
  obtain ⟨lv, g0, _⟩ := fld_int (P := Tryz.prog) Tryz.underlying68 hy' 0 0 _ rfl rfl (by kernel_rfl) Tryz.underlying3
  obtain ⟨ct, g1, _⟩ := fld_int (P := Tryz.prog) Tryz.underlying68 hy' 1 1 _ rfl rfl (by kernel_rfl) Tryz.underlying3
  obtain ⟨fi, g3, _⟩ := fld_int (P := Tryz.prog) Tryz.underlying70 hy 2 3 _ rfl rfl (by kernel_rfl) Tryz.underlying3
  obtain ⟨co, g4, _⟩ := fld_int (P := Tryz.prog) Tryz.underlying70 hy 3 4 _ rfl rfl (by kernel_rfl) Tryz.underlying3
  rw [List.getElem?_take, if_pos (by omega), List.getElem?_drop] at g0 g1
  obtain ⟨ys, m2, _, hagg, _, hyl, hfl⟩ := DataW.trod_struct Tryz.underlying70 hy
  have hyl4 : ys.length = 4 := hyl
  have h6 := hfl 1 _ rfl
  have e1 : Tryz.prog.cellsOf 44 = 1 := by kernel_rfl
  rw [List.getElem?_eq_getElem (by omega)] at h6
  obtain ⟨c, hc⟩ : ∃ c, (cs.drop 2).take 1 = [c] := by
    match cs, hcl with
    | [_, _, c, _, _], _ => exact ⟨c, rfl⟩
  have h7 : DataW.trod enc Tryz.prog W 0 (fun _ => true) true m2 44 [c] = some (ys[1]'(by omega)) := by
    rw [← hc]; exact h6
  obtain ⟨fs, A2, cap2, rfl, hs, hnil, h8⟩ := open_frs h7 (fun q hq => hw q (by
    rw [hagg]
    simp only [DataW.weights, Tryz.underlying70]
    exact DataW.weights_mem_each (j := 1) (t := 44) (d := (ys[1]'(by omega)).1) rfl (by rw [List.getElem?_map, List.getElem?_eq_getElem (by omega)]; rfl) q hq))
  have g2 : cs[2]? = some (.slice A2 fs.length cap2) := by
    have := congrArg (fun l => l[0]?) hc
    simpa [List.getElem?_take, List.getElem?_drop] using this
  refine ⟨⟨lv, ct, fs, fi, co⟩, ⟨A2, cap2, ?_, ?_, ?_, ?_, ?_, hs, hnil⟩, h8⟩
  · have := hcell 0 (by omega); rw [Nat.add_zero] at this; exact this.trans g0
  · exact (hcell 1 (by omega)).trans g1
  · exact (hcell 2 (by omega)).trans g2
  · exact (hcell 3 (by omega)).trans g3
  · exact (hcell 4 (by omega)).trans g4
theorem open_parts {H : Type} {enc : TypeId × Value → H} {W : World} {v : Value} {d : DataW H} {p : List MemPlace} (hv : ∃ A l c, v = .slice A l c) (h : DataW.Trod enc Tryz.prog W 0 (fun _ => true) true 22 v d p) (hw : ∀ q ∈ d.weights Tryz.prog 22, q ≤ 140737488351232) :
    ∃ l : List Pa, PaS W v l ∧ PaZ l := by
  obtain ⟨A, n, cap, rfl⟩ := hv
  obtain ⟨fuel, hf⟩ := h
  have hb := row_weightg (R := 140737488351232) Tryz.underlying22 hf hw
  have e56 : Tryz.prog.bytesOf 70 = 56 := by kernel_rfl
  have e5 : Tryz.prog.cellsOf 70 = 5 := by kernel_rfl
  rw [e56] at hb
  rcases DataW.trod_slice Tryz.underlying22 hf with ⟨h0, _⟩ | ⟨a, len, cap', elems, rest, k, _, h0, hx, _, _, _, hlen, hel, _⟩
  · simp only [Value.cells, List.cons.injEq, Value.slice.injEq, and_true] at h0
    obtain ⟨rfl, rfl, rfl⟩ := h0
    exact ⟨[], ⟨none, 0, rfl, fun h => absurd h (by simp)⟩, by simp, fun i => by simp [paD]⟩
  · simp only [Value.cells, List.cons.injEq, Value.slice.injEq, and_true] at h0
    obtain ⟨rfl, rfl, rfl⟩ := h0
    simp only [Prod.mk.injEq] at hx
    obtain ⟨rfl, _⟩ := hx
    have spot : 0 < n → a.spot = none ∧ a.block < W.heap.size := by
      intro hn
      have h1 := hel 0 hn
      rw [List.getElem?_eq_getElem (by omega), e5] at h1
      obtain ⟨cs, h2, h3⟩ := Option.bind_eq_some_iff.1 h1
      obtain ⟨_, h4, h5⟩ := World.cells?_some h2
      have h6 := h5 0 (by omega)
      rw [List.getElem?_eq_getElem (by omega)] at h6
      have h6' : W.cell? a = some cs[0] := by simpa [Addr.add] using h6
      exact ⟨World.cell?_spot h6', World.block_lt_of_cell? W _ h6'⟩
    by_cases hn : 0 < n
    · obtain ⟨hsp, hlt⟩ := spot hn
      obtain ⟨b, o, s⟩ := a
      simp only at hsp hlt
      subst hsp
      have key : ∀ i, i < n → ∃ p : Pa, PaAt W b (o + i * 5) p ∧ p.fr.length * 8 ≤ 140737488351232 := by
        intro i hi
        have h1 := hel i hi
        rw [List.getElem?_eq_getElem (by omega), e5] at h1
        obtain ⟨cs, h2, h3⟩ := Option.bind_eq_some_iff.1 h1
        obtain ⟨_, h4, h5⟩ := World.cells?_some h2
        have hmem : (elems[i]'(by omega)).1 ∈ elems.map (·.1) := List.mem_map.2 ⟨_, List.getElem_mem _, rfl⟩
        refine open_part h3 h4 (fun j hj => ?_) (fun q hq => hw q (by
          simp only [DataW.weights, Tryz.underlying22, List.mem_cons, List.mem_append]
          exact .inr (.inl (weightsAll_memg hmem q hq))))
        have := h5 j hj
        simpa [add_none, Nat.add_assoc] using this
      haveI : Inhabited Pa := ⟨paD⟩
      obtain ⟨F, hF⟩ := choose_lt (α := Pa) (p := fun i p => PaAt W b (o + i * 5) p ∧ p.fr.length * 8 ≤ 140737488351232) key
      have hg : ∀ i, i < n → ((List.range n).map F).getD i paD = F i := by
        intro i hi
        simp [List.getD, hi]
      have hl : ((List.range n).map F).length = n := by simp
      refine ⟨(List.range n).map F, ⟨some ⟨b, o, none⟩, cap, by rw [hl], fun h0 => ⟨b, o, rfl, hlt, fun i hi => ?_⟩⟩, by rw [hl]; exact hb, fun i => ?_⟩
      · rw [hl] at hi
        rw [hg i hi]
        exact (hF i hi).1
      · by_cases hi : i < n
        · rw [hg i hi]; exact (hF i hi).2
        · simp [List.getD, show ¬ i < n from hi, paD]
    · obtain rfl : n = 0 := by omega
      exact ⟨[], ⟨some a, cap, rfl, fun h => absurd h (by simp)⟩, by simp, fun i => by simp [paD]⟩
end Go.Proofs.YtkaalinoiilmoaaGreat
namespace Go.Proofs.YtkaalinoiilmoaaGreat
open Go.RowKit Go.ChangeShapes Go.WideShapes Go.Deep
set_option linter.unusedVariables false
set_option maxRecDepth 100000
theorem open_dev {H : Type} {enc : TypeId × Value → H} {W : World} {m b a : Nat} {cs : List Value} {y : DataW H × List MemPlace} (hy : DataW.trod enc Tryz.prog W 0 (fun _ => true) true m 46 cs = some y) (hcl : cs.length = 2)
    (hcell : ∀ j, j < 2 → W.cell? ⟨b, a + j, none⟩ = cs[j]?) (hw : ∀ q ∈ y.1.weights Tryz.prog 46, q ≤ 140737488351232) : ∃ p : De, DeAt W b a p ∧ p.po.length * 8 ≤ 140737488351232 := by
  obtain ⟨pt, g0, _⟩ := fld_int (P := Tryz.prog) Tryz.underlying46 hy 0 0 _ rfl rfl (by kernel_rfl) Tryz.underlying3
  obtain ⟨ys, m2, _, hagg, _, hyl, hfl⟩ := DataW.trod_struct Tryz.underlying46 hy
  have hyl4 : ys.length = 2 := hyl
  have h6 := hfl 1 _ rfl
  have e1 : Tryz.prog.cellsOf 44 = 1 := by kernel_rfl
  rw [List.getElem?_eq_getElem (by omega)] at h6
  obtain ⟨c, hc⟩ : ∃ c, (cs.drop 1).take 1 = [c] := by
    match cs, hcl with
    | [_, c], _ => exact ⟨c, rfl⟩
  have h7 : DataW.trod enc Tryz.prog W 0 (fun _ => true) true m2 44 [c] = some (ys[1]'(by omega)) := by
    rw [← hc]; exact h6
  obtain ⟨fs, A2, cap2, rfl, hs, hnil, h8⟩ := open_frs h7 (fun q hq => hw q (by
    rw [hagg]
    simp only [DataW.weights, Tryz.underlying46]
    exact DataW.weights_mem_each (j := 1) (t := 44) (d := (ys[1]'(by omega)).1) rfl (by rw [List.getElem?_map, List.getElem?_eq_getElem (by omega)]; rfl) q hq))
  have g2 : cs[1]? = some (.slice A2 fs.length cap2) := by
    have := congrArg (fun l => l[0]?) hc
    simpa [List.getElem?_take, List.getElem?_drop] using this
  refine ⟨⟨pt, fs⟩, ⟨A2, cap2, ?_, ?_, hs, hnil⟩, h8⟩
  · have := hcell 0 (by omega); rw [Nat.add_zero] at this; exact this.trans g0
  · exact (hcell 1 (by omega)).trans g2
theorem open_devs {H : Type} {enc : TypeId × Value → H} {W : World} {v : Value} {d : DataW H} {p : List MemPlace} (hv : ∃ A l c, v = .slice A l c) (h : DataW.Trod enc Tryz.prog W 0 (fun _ => true) true 23 v d p) (hw : ∀ q ∈ d.weights Tryz.prog 23, q ≤ 140737488351232) :
    ∃ l : List De, DeS W v l ∧ DeZ l := by
  obtain ⟨A, n, cap, rfl⟩ := hv
  obtain ⟨fuel, hf⟩ := h
  have hb := row_weightg (R := 140737488351232) Tryz.underlying23 hf hw
  have e32 : Tryz.prog.bytesOf 46 = 32 := by kernel_rfl
  have e2 : Tryz.prog.cellsOf 46 = 2 := by kernel_rfl
  rw [e32] at hb
  rcases DataW.trod_slice Tryz.underlying23 hf with ⟨h0, _⟩ | ⟨a, len, cap', elems, rest, k, _, h0, hx, _, _, _, hlen, hel, _⟩
  · simp only [Value.cells, List.cons.injEq, Value.slice.injEq, and_true] at h0
    obtain ⟨rfl, rfl, rfl⟩ := h0
    exact ⟨[], ⟨none, 0, rfl, fun h => absurd h (by simp)⟩, by simp, fun i => by simp [deD]⟩
  · simp only [Value.cells, List.cons.injEq, Value.slice.injEq, and_true] at h0
    obtain ⟨rfl, rfl, rfl⟩ := h0
    simp only [Prod.mk.injEq] at hx
    obtain ⟨rfl, _⟩ := hx
    have spot : 0 < n → a.spot = none ∧ a.block < W.heap.size := by
      intro hn
      have h1 := hel 0 hn
      rw [List.getElem?_eq_getElem (by omega), e2] at h1
      obtain ⟨cs, h2, h3⟩ := Option.bind_eq_some_iff.1 h1
      obtain ⟨_, h4, h5⟩ := World.cells?_some h2
      have h6 := h5 0 (by omega)
      rw [List.getElem?_eq_getElem (by omega)] at h6
      have h6' : W.cell? a = some cs[0] := by simpa [Addr.add] using h6
      exact ⟨World.cell?_spot h6', World.block_lt_of_cell? W _ h6'⟩
    by_cases hn : 0 < n
    · obtain ⟨hsp, hlt⟩ := spot hn
      obtain ⟨b, o, s⟩ := a
      simp only at hsp hlt
      subst hsp
      have key : ∀ i, i < n → ∃ p : De, DeAt W b (o + i * 2) p ∧ p.po.length * 8 ≤ 140737488351232 := by
        intro i hi
        have h1 := hel i hi
        rw [List.getElem?_eq_getElem (by omega), e2] at h1
        obtain ⟨cs, h2, h3⟩ := Option.bind_eq_some_iff.1 h1
        obtain ⟨_, h4, h5⟩ := World.cells?_some h2
        have hmem : (elems[i]'(by omega)).1 ∈ elems.map (·.1) := List.mem_map.2 ⟨_, List.getElem_mem _, rfl⟩
        refine open_dev h3 h4 (fun j hj => ?_) (fun q hq => hw q (by
          simp only [DataW.weights, Tryz.underlying23, List.mem_cons, List.mem_append]
          exact .inr (.inl (weightsAll_memg hmem q hq))))
        have := h5 j hj
        simpa [add_none, Nat.add_assoc] using this
      haveI : Inhabited De := ⟨deD⟩
      obtain ⟨F, hF⟩ := choose_lt (α := De) (p := fun i p => DeAt W b (o + i * 2) p ∧ p.po.length * 8 ≤ 140737488351232) key
      have hg : ∀ i, i < n → ((List.range n).map F).getD i deD = F i := by
        intro i hi
        simp [List.getD, hi]
      have hl : ((List.range n).map F).length = n := by simp
      refine ⟨(List.range n).map F, ⟨some ⟨b, o, none⟩, cap, by rw [hl], fun h0 => ⟨b, o, rfl, hlt, fun i hi => ?_⟩⟩, by rw [hl]; exact hb, fun i => ?_⟩
      · rw [hl] at hi
        rw [hg i hi]
        exact (hF i hi).1
      · by_cases hi : i < n
        · rw [hg i hi]; exact (hF i hi).2
        · simp [List.getD, show ¬ i < n from hi, deD]
    · obtain rfl : n = 0 := by omega
      exact ⟨[], ⟨some a, cap, rfl, fun h => absurd h (by simp)⟩, by simp, fun i => by simp [deD]⟩
theorem fld_bool0 {H : Type} {enc : TypeId × Value → H} {P : Program} {W : World} {e : TypeId} {fs : Array Field} {m : Nat} {cs : List Value} {y : DataW H × List MemPlace} (he : P.underlying e = some (.struct fs)) (hy : DataW.trod enc P W 0 (fun _ => true) true m e cs = some y)
    (k o : Nat) (f : Field) (hk : fs[k]? = some f) (ho : f.offset = o) (hc : P.cellsOf f.type = 1) (hu : P.underlying f.type = some .bool) : ∃ b : Bool, cs[o]? = some (.bool b) := by
  obtain ⟨ys, m', _, _, hlen, hyl, hf⟩ := DataW.trod_struct he hy
  have hkl : k < ys.length := by rw [hyl]; exact (Array.getElem?_eq_some_iff.1 hk).1
  have h1 := hf _ f hk
  rw [ho, hc, List.getElem?_eq_getElem hkl] at h1
  obtain ⟨b, hz, _⟩ := DataW.trod_bool hu h1
  refine ⟨b, ?_⟩
  have g : ((cs.drop o).take 1)[0]? = some (Value.bool b) := by rw [hz]; rfl
  rw [List.getElem?_take, if_pos (by omega), List.getElem?_drop] at g
  exact g
theorem grs_of : ∀ (n : Nat) (xs : List Value), xs.length = n * 3 → (∀ i, i < n → ∃ g : Gr, (xs.drop (i * 3)).take 3 = grc g) → ∃ l : List Gr, l.length = n ∧ xs = grs l := by
  intro n
  induction n with
  | zero => intro xs h _; exact ⟨[], rfl, List.length_eq_zero_iff.1 (by simpa using h)⟩
  | succ n ih =>
    intro xs h hk
    obtain ⟨g, hg⟩ := hk 0 (by omega)
    obtain ⟨l, hl, e⟩ := ih (xs.drop 3) (by rw [List.length_drop]; omega) (fun i hi => by
      obtain ⟨g, hg⟩ := hk (i + 1) (by omega)
      exact ⟨g, by rw [List.drop_drop, ← hg, show 3 + i * 3 = (i + 1) * 3 by omega]⟩)
    refine ⟨g :: l, by simp [hl], ?_⟩
    have : grs (g :: l) = grc g ++ grs l := by simp [grs]
    rw [this, ← hg, ← e]
    simp
theorem slice_form {H : Type} {enc : TypeId × Value → H} {W : World} {m : Nat} {t e : TypeId} {c : Value} {y : DataW H × List MemPlace} (ht : Tryz.prog.underlying t = some (.slice e)) (h : DataW.trod enc Tryz.prog W 0 (fun _ => true) true m t [c] = some y) : ∃ A l c0, c = .slice A l c0 ∧ (A = none → c0 = 0) := by
  rcases DataW.trod_slice ht h with ⟨h0, _⟩ | ⟨a, len, cap, elems, rest, k, _, h0, _⟩
  · simp only [List.cons.injEq, and_true] at h0
    exact ⟨none, 0, 0, h0, fun _ => rfl⟩
  · simp only [List.cons.injEq, and_true] at h0
    exact ⟨some a, len, cap, h0, fun e => by cases e⟩
theorem open_wins {H : Type} {enc : TypeId × Value → H} {W : World} {m : Nat} {c : Value} {y : DataW H × List MemPlace} (h : DataW.trod enc Tryz.prog W 0 (fun _ => true) true m 24 [c] = some y) (hw : ∀ q ∈ y.1.weights Tryz.prog 24, q ≤ 140737488351232) :
    ∃ l : List Win, Ws W c l.length l ∧ l.length * 32 ≤ 140737488351232 ∧ ∀ m k, c = .slice none m k → k = 0 := by
  obtain ⟨A, n, cap, rfl, hn⟩ := slice_form Tryz.underlying24 h
  have hb := row_weightg Tryz.underlying24 h hw
  have e32 : Tryz.prog.bytesOf 82 = 32 := by kernel_rfl
  rw [e32] at hb
  obtain ⟨n', zs, hs, hm, hl, hr⟩ := open_recsg (P := Tryz.prog) (enc := enc) (v := .slice A n cap) (d := y.1) (p := y.2) Tryz.underlying24 Tryz.underlying82 (by kernel_rfl) (by decide) (by kernel_rfl) ⟨_, _, _, rfl⟩ ⟨m, h⟩
  have en : n' = n := by
    obtain ⟨_, _, e, _⟩ := hs
    simp only [Value.slice.injEq] at e
    exact e.2.1.symm
  subst en
  obtain ⟨l, rfl, hll⟩ := wins_of n' zs hl
  subst hll
  exact ⟨l, ⟨hs, rfl, hm, w64_of l hr⟩, hb, fun m k e => by simp only [Value.slice.injEq] at e; rw [← e.2.2]; exact hn e.1⟩
theorem open_grs {H : Type} {enc : TypeId × Value → H} {W : World} {m : Nat} {c : Value} {y : DataW H × List MemPlace} (h : DataW.trod enc Tryz.prog W 0 (fun _ => true) true m 25 [c] = some y) (hw : ∀ q ∈ y.1.weights Tryz.prog 25, q ≤ 140737488351232) :
    ∃ l : List Gr, Sl W c l.length 3 (grs l) ∧ l.length * 24 ≤ 140737488351232 ∧ ∀ m k, c = .slice none m k → k = 0 := by
  obtain ⟨A, n, cap, rfl, hn⟩ := slice_form Tryz.underlying25 h
  have hb := row_weightg Tryz.underlying25 h hw
  have e24 : Tryz.prog.bytesOf 65 = 24 := by kernel_rfl
  rw [e24] at hb
  obtain ⟨n', xs, hs, hm, hr⟩ := open_slg (P := Tryz.prog) (enc := enc) (v := .slice A n cap) (d := y.1) (p := y.2) (C := 3) Tryz.underlying25 (by kernel_rfl) (by decide) ⟨_, _, _, rfl⟩ ⟨m, h⟩
  have en : n' = n := by
    obtain ⟨_, _, e, _⟩ := hs
    simp only [Value.slice.injEq] at e
    exact e.2.1.symm
  subst en
  have hxl : xs.length = n' * 3 := by obtain ⟨_, _, _, _, hl, _⟩ := hs; exact hl
  obtain ⟨l, hl, rfl⟩ := grs_of n' xs hxl (fun i hi => by
    obtain ⟨m2, y2, hy⟩ := hr i hi
    obtain ⟨f, g0, _⟩ := fld_int (P := Tryz.prog) Tryz.underlying65 hy 0 0 _ rfl rfl (by kernel_rfl) Tryz.underlying3
    obtain ⟨t, g1, _⟩ := fld_int (P := Tryz.prog) Tryz.underlying65 hy 1 1 _ rfl rfl (by kernel_rfl) Tryz.underlying3
    obtain ⟨b, g2⟩ := fld_bool0 (P := Tryz.prog) Tryz.underlying65 hy 2 2 _ rfl rfl (by kernel_rfl) Tryz.underlying4
    refine ⟨⟨f, t, b⟩, ?_⟩
    have hlen : ((xs.drop (i * 3)).take 3).length = 3 := by rw [List.length_take, List.length_drop]; omega
    generalize (xs.drop (i * 3)).take 3 = z at *
    match z, hlen with
    | [a, b', c'], _ =>
      simp only [List.getElem?_cons_zero, List.getElem?_cons_succ, Option.some.injEq] at g0 g1 g2
      rw [g0, g1, g2]; rfl)
  subst hl
  exact ⟨l, hs, hb, fun m k e => by simp only [Value.slice.injEq] at e; rw [← e.2.2]; exact hn e.1⟩
theorem open_cfg {H : Type} {enc : TypeId × Value → H} {W : World} {r : Reach} {b0 : Nat} {v : Value} {d : DataW H} {p : List MemPlace} (hv : Value.okWide Tryz.prog W r b0 27 v) (h : DataW.Trod enc Tryz.prog W 0 (fun _ => true) true 27 v d p)
    (hw : ∀ q ∈ d.weights Tryz.prog 27, q ≤ 140737488351232) :
    ∃ (c : Cf) (vp vd vw vg : Value), v = .agg #[.int .i64 c.fr, vp, vd, .int .i64 c.mj, vw, vg, .int .i64 c.se, .int .i64 c.qu, .int .i64 c.qt] ∧ CfAt W vp vd vw vg c := by
  obtain ⟨cs, rfl, hsz⟩ := okWide_struct Tryz.underlying27 hv
  obtain ⟨l, rfl⟩ : ∃ l : List Value, cs = l.toArray := ⟨cs.toList, by simp⟩
  obtain ⟨m, hy⟩ := h
  have e9 : Tryz.prog.cellsOf 27 = 9 := by kernel_rfl
  have hcl : l.length = 9 := by rw [e9] at hsz; simpa using hsz
  change DataW.trod enc Tryz.prog W 0 (fun _ => true) true m 27 l = some (d, p) at hy
  obtain ⟨fr, g0, _⟩ := fld_int (P := Tryz.prog) Tryz.underlying27 hy 0 0 _ rfl rfl (by kernel_rfl) Tryz.underlying3
  obtain ⟨mj, g3, _⟩ := fld_int (P := Tryz.prog) Tryz.underlying27 hy 3 3 _ rfl rfl (by kernel_rfl) Tryz.underlying3
  obtain ⟨se, g6, _⟩ := fld_int (P := Tryz.prog) Tryz.underlying27 hy 6 6 _ rfl rfl (by kernel_rfl) Tryz.underlying3
  obtain ⟨qu, g7, _⟩ := fld_int (P := Tryz.prog) Tryz.underlying27 hy 7 7 _ rfl rfl (by kernel_rfl) Tryz.underlying3
  obtain ⟨qt, g8, _⟩ := fld_int (P := Tryz.prog) Tryz.underlying27 hy 8 8 _ rfl rfl (by kernel_rfl) Tryz.underlying3
  obtain ⟨ys, m2, _, hagg, _, hyl, hfl⟩ := DataW.trod_struct Tryz.underlying27 hy
  have hyl9 : ys.length = 9 := hyl
  have hwk : ∀ k t (hk : k < 9), (([3, 22, 23, 3, 24, 25, 3, 3, 3] : List TypeId))[k]? = some t → ∀ q ∈ (ys[k]'(by omega)).1.weights Tryz.prog t, q ≤ 140737488351232 := by
    intro k t hk ht q hq
    refine hw q ?_
    have hagg' := (Prod.mk.inj hagg).1
    rw [hagg']
    simp only [DataW.weights, Tryz.underlying27]
    exact DataW.weights_mem_each (j := k) (t := t) (d := (ys[k]'(by omega)).1) ht (by rw [List.getElem?_map, List.getElem?_eq_getElem (by omega)]; rfl) q hq
  obtain ⟨x0, x1, x2, x3, x4, x5, x6, x7, x8, rfl⟩ : ∃ x0 x1 x2 x3 x4 x5 x6 x7 x8, l = [x0, x1, x2, x3, x4, x5, x6, x7, x8] := by
    match l, hcl with
    | [x0, x1, x2, x3, x4, x5, x6, x7, x8], _ => exact ⟨_, _, _, _, _, _, _, _, _, rfl⟩
  have i0 : x0 = .int .i64 fr := Option.some.inj g0
  have i3 : x3 = .int .i64 mj := Option.some.inj g3
  have i6 : x6 = .int .i64 se := Option.some.inj g6
  have i7 : x7 = .int .i64 qu := Option.some.inj g7
  have i8 : x8 = .int .i64 qt := Option.some.inj g8
  subst i0 i3 i6 i7 i8
  have h1 := hfl 1 _ rfl
  rw [List.getElem?_eq_getElem (by omega)] at h1
  have t1 : DataW.trod enc Tryz.prog W 0 (fun _ => true) true m2 22 [x1] = some (ys[1]'(by omega)) := h1
  have w1 := hwk 1 22 (by omega) rfl
  have h2 := hfl 2 _ rfl
  rw [List.getElem?_eq_getElem (by omega)] at h2
  have t2 : DataW.trod enc Tryz.prog W 0 (fun _ => true) true m2 23 [x2] = some (ys[2]'(by omega)) := h2
  have w2 := hwk 2 23 (by omega) rfl
  have h4 := hfl 4 _ rfl
  rw [List.getElem?_eq_getElem (by omega)] at h4
  have t4 : DataW.trod enc Tryz.prog W 0 (fun _ => true) true m2 24 [x4] = some (ys[4]'(by omega)) := h4
  have w4 := hwk 4 24 (by omega) rfl
  have h5 := hfl 5 _ rfl
  rw [List.getElem?_eq_getElem (by omega)] at h5
  have t5 : DataW.trod enc Tryz.prog W 0 (fun _ => true) true m2 25 [x5] = some (ys[5]'(by omega)) := h5
  have w5 := hwk 5 25 (by omega) rfl
  obtain ⟨A1, l1, c1, e1, _⟩ := slice_form Tryz.underlying22 t1
  obtain ⟨A2, l2, c2, e2, _⟩ := slice_form Tryz.underlying23 t2
  obtain ⟨ps, hps, hpz⟩ := open_parts (v := x1) (d := (ys[1]'(by omega)).1) (p := (ys[1]'(by omega)).2) ⟨_, _, _, e1⟩ ⟨m2, by subst e1; exact t1⟩ w1
  obtain ⟨ds, hds, hdz⟩ := open_devs (v := x2) (d := (ys[2]'(by omega)).1) (p := (ys[2]'(by omega)).2) ⟨_, _, _, e2⟩ ⟨m2, by subst e2; exact t2⟩ w2
  obtain ⟨ws, hws, hwz, hwn⟩ := open_wins t4 w4
  obtain ⟨gs, hgs, hgz, hgn⟩ := open_grs t5 w5
  refine ⟨⟨fr, ps, ds, mj, ws, gs, se, qu, qt⟩, x1, x2, x4, x5, rfl, ⟨hps, hpz, hds, hdz, hws, hwz, hwn, hgs, hgz, hgn⟩⟩
end Go.Proofs.YtkaalinoiilmoaaGreat
namespace Go.Proofs.YtkaalinoiilmoaaGreat
open Go.RowKit
set_option linter.unusedVariables false
set_option linter.unusedSimpArgs false
set_option maxRecDepth 100000
theorem same_intz (x y : Value) (n : Nat) (l : List Int) (w : World) (hx : Sl w x n 1 (ints l)) (hy : Sl w y n 1 (ints l)) (hl : l.length = n) (hn : n ≤ maxLen) :
    Calls Tryz.prog 31 #[x, y] w fun e w' => e = .returned (.bool true) ∧ ∃ k, w' = w.drewN k := by
  obtain ⟨A, c, rfl, hc, _, hA⟩ := id hx
  obtain ⟨B, d, rfl, hd, _, hB⟩ := id hy
  have HL := Lib.hid hl
  unfold maxLen at hn
  clear hx hy hl
  go_enter Tryz.func31, Tryz.ntmps31
  go_wp2
  go_loopw [5] (fun i wr => ∃ k q : Nat, k ≤ n ∧ i = .int .i64 k ∧ wr = w.drewN q) (fun i _ => n - (intOf i).toNat)
  case atStart => exact ⟨0, 0, by omega, rfl, rfl⟩
  case round =>
    obtain ⟨k, q, hk, rfl, rfl⟩ := hrel
    by_cases hlt : k < n
    · have f := ints_get l k (by rw [HL.out]; exact hlt)
      obtain ⟨b, o, rfl, _, gA⟩ := hA (by omega)
      obtain ⟨b', o', rfl, _, gB⟩ := hB (by omega)
      clear hA hB
      generalize l.getD k 0 = p at f
      have a0 := gA _ _ f
      have b0 := gB _ _ f
      clear gA gB f
      go_wp2
      go_quiet (fail)
      go_wp2
      go_roundw
      case rel => exact ⟨k + 1, _, by omega, by go_num, rfl⟩
      case measure => simp [intOf]; omega
    · go_wp2
      go_ret
      exact ⟨rfl, _, rfl⟩
end Go.Proofs.YtkaalinoiilmoaaGreat
namespace Go.Proofs.YtkaalinoiilmoaaGreat
open Go.RowKit
set_option linter.unusedVariables false
set_option linter.unusedSimpArgs false
set_option maxRecDepth 100000
theorem quiet_draws {P : Program} {f : FuncId} {args : Array Value} {w : World} {a n : Nat} {v : Value}
    (h : ∀ m, Calls P f args (w.drewN m) fun e w' => e = .returned v ∧ ∃ j, w' = (w.drewN m).drewN j) : Calls P f args (w.drewN (a + n)) fun e w'' => e = .returned v ∧ ∃ m, w'' = w.drewN (a + m) :=
  (h _).mono fun _ _ ⟨he, m, hm⟩ => ⟨he, n + m, by rw [hm, World.drewN_drewN, Nat.add_assoc]⟩
set_option maxHeartbeats 4000000 in
theorem same_parts (x y : Value) (l : List Pa) (w : World) (hx : PaS w x l) (hy : PaS w y l) (hz : PaZ l) :
    Calls Tryz.prog 29 #[x, y] w fun e w' => e = .returned (.bool true) ∧ ∃ k, w' = w.drewN k := by
  obtain ⟨A, c, rfl, hA⟩ := hx
  obtain ⟨B, d, rfl, hB⟩ := hy
  obtain ⟨n, hl⟩ : ∃ n, l.length = n := ⟨_, rfl⟩
  obtain ⟨hz1, hz2⟩ := hz
  rw [hl] at hA hB hz1 ⊢
  have HA := Lib.hid hA; have HB := Lib.hid hB; have HZ := Lib.hid hz2
  clear hA hB hl hz2
  go_enter Tryz.func29, Tryz.ntmps29
  go_wp2
  go_loopw [5] (fun i wr => ∃ k q : Nat, k ≤ n ∧ i = .int .i64 k ∧ wr = w.drewN q) (fun i _ => n - (intOf i).toNat)
  case atStart => exact ⟨0, 0, by omega, rfl, rfl⟩
  case round =>
    obtain ⟨k, q, hk, rfl, rfl⟩ := hrel
    by_cases hlt : k < n
    · obtain ⟨b, o, rfl, -, ha⟩ := HA.out (by omega)
      obtain ⟨b', o', rfl, -, hb⟩ := HB.out (by omega)
      obtain ⟨A2, c2, p0, p1, p2, p3, p4, ps, -⟩ := ha k hlt
      obtain ⟨B2, d2, q0, q1, q2, q3, q4, qs, -⟩ := hb k hlt
      have hf := HZ.out k
      clear ha hb HA HB HZ
      generalize l.getD k paD = p at *
      obtain ⟨lv, ct, fr, fi, co⟩ := p
      simp only at p0 p1 p2 p3 p4 ps q0 q1 q2 q3 q4 qs hf
      have HS : Hid (∀ m, Calls Tryz.prog 31 #[.slice A2 fr.length c2, .slice B2 fr.length d2] (w.drewN m) fun e w' => e = .returned (.bool true) ∧ ∃ j, w' = (w.drewN m).drewN j) :=
        Lib.hid fun m => same_intz _ _ fr.length fr (w.drewN m) (ps.drewN m) (qs.drewN m) rfl (by unfold maxLen; omega)
      clear ps qs
      go_wp2
      go_quiet ((go_at_call 31; first | exact Calls.quiet_of (HS.out _) | exact quiet_draws HS.out))
      go_wp2
      go_roundw
      case rel => exact ⟨k + 1, _, by omega, by go_num, rfl⟩
      case measure => simp [intOf]; omega
    · go_wp2
      go_ret
      exact ⟨rfl, _, rfl⟩
end Go.Proofs.YtkaalinoiilmoaaGreat
namespace Go.Proofs.YtkaalinoiilmoaaGreat
open Go.RowKit
set_option linter.unusedVariables false
set_option linter.unusedSimpArgs false
set_option maxRecDepth 100000
theorem same_wins (x y : Value) (n : Nat) (l : List Win) (w : World) (hx : Sl w x n 4 (ints (wins l))) (hy : Sl w y n 4 (ints (wins l))) (hl : l.length = n) (hn : n ≤ maxLen) :
    Calls Tryz.prog 30 #[x, y] w fun e w' => e = .returned (.bool true) ∧ ∃ k, w' = w.drewN k := by
  obtain ⟨A, c, rfl, hc, _, _⟩ := id hx
  obtain ⟨B, d, rfl, hd, _, _⟩ := id hy
  have HX := Lib.hid hx; have HY := Lib.hid hy; have HL := Lib.hid hl
  unfold maxLen at hn
  clear hx hy hl
  go_enter Tryz.func30, Tryz.ntmps30
  go_wp2
  go_loopw [5] (fun i wr => ∃ k q : Nat, k ≤ n ∧ i = .int .i64 k ∧ wr = w.drewN q) (fun i _ => n - (intOf i).toNat)
  case atStart => exact ⟨0, 0, by omega, rfl, rfl⟩
  case round =>
    obtain ⟨k, q, hk, rfl, rfl⟩ := hrel
    by_cases hlt : k < n
    · have hkl : k < l.length := by rw [HL.out]; exact hlt
      obtain ⟨b, o, rfl, -, c0, c1, c2, c3⟩ := wd_at HX.out HL.out k hkl
      obtain ⟨b', o', rfl, -, d0, d1, d2, d3⟩ := wd_at HY.out HL.out k hkl
      generalize l[k] = x at *
      obtain ⟨xp, xs, xl, xd⟩ := x
      simp only at c0 c1 c2 c3 d0 d1 d2 d3
      go_wp2
      go_quiet (fail)
      go_wp2
      go_roundw
      case rel => exact ⟨k + 1, _, by omega, by go_num, rfl⟩
      case measure => simp [intOf]; omega
    · go_wp2
      go_ret
      exact ⟨rfl, _, rfl⟩
end Go.Proofs.YtkaalinoiilmoaaGreat
namespace Go.Proofs.YtkaalinoiilmoaaGreat
open Go.RowKit
set_option linter.unusedVariables false
set_option linter.unusedSimpArgs false
set_option maxRecDepth 100000
section
variable {w : World} {c : Cf} {vp vd vw vg vp' vd' vw' vg' : Value}
set_option maxHeartbeats 4000000 in
theorem same_cfg (h : CfAt w vp vd vw vg c) (h' : CfAt w vp' vd' vw' vg' c) : Calls Tryz.prog 13 #[.agg #[.int .i64 c.fr, vp, vd, .int .i64 c.mj, vw, vg, .int .i64 c.se, .int .i64 c.qu, .int .i64 c.qt], .agg #[.int .i64 c.fr, vp', vd', .int .i64 c.mj, vw', vg', .int .i64 c.se, .int .i64 c.qu, .int .i64 c.qt]] w fun e w' => e = .returned (.bool true) ∧ Below w.heap.size w w' := by
  obtain ⟨hb, hB⟩ := cf_box w c vp vd vw vg
  obtain ⟨hb2, hB2⟩ := cf_box (w.alloc (.cells #[.int .i64 c.fr, vp, vd, .int .i64 c.mj, vw, vg, .int .i64 c.se, .int .i64 c.qu, .int .i64 c.qt] 27)) c vp' vd' vw' vg'
  have hb1 := hb.alloc (.cells #[.int .i64 c.fr, vp', vd', .int .i64 c.mj, vw', vg', .int .i64 c.se, .int .i64 c.qu, .int .i64 c.qt] 27)
  have hBB := Below.down hB hB2 hB.size
  have hsz : (w.alloc (.cells #[.int .i64 c.fr, vp, vd, .int .i64 c.mj, vw, vg, .int .i64 c.se, .int .i64 c.qu, .int .i64 c.qt] 27)).heap.size = w.heap.size + 1 := by simp
  rw [hsz] at hb2
  have H1 := Lib.hid (h.below hBB); have H2 := Lib.hid (h'.below hBB)
  obtain ⟨A, cap, hA, -⟩ := h.ps
  obtain ⟨A', cap', hA', -⟩ := h'.ps
  obtain ⟨D, capd, hD, -⟩ := h.ds
  obtain ⟨D', capd', hD', -⟩ := h'.ds
  obtain ⟨W, capw, hW⟩ := h.ws.form
  obtain ⟨W', capw', hW'⟩ := h'.ws.form
  obtain ⟨G, capg, hG, -⟩ := h.gs
  obtain ⟨G', capg', hG', -⟩ := h'.gs
  subst hA hA' hD hD' hW hW' hG hG'
  have HB := Lib.hid hBB; have HC1 := Lib.hid hb1; have HC2 := Lib.hid hb2
  have hdz := h.dz; have hgz := h.gz
  have HDZ := Lib.hid hdz.2
  have hdz1 := hdz.1
  clear h h' hb hB hb2 hB2 hb1 hBB hsz hdz
  obtain ⟨f0, f1, f2, f3, f4, f5, f6, f7, f8⟩ := cf_at HC1.out
  obtain ⟨g0, g1, g2, g3, g4, g5, g6, g7, g8⟩ := cf_at HC2.out
  go_enter Tryz.func13, Tryz.ntmps13
  go_wp2_with fail
  generalize (w.alloc (.cells #[.int .i64 c.fr, .slice A c.ps.length cap, .slice D c.ds.length capd, .int .i64 c.mj, .slice W c.ws.length capw, .slice G c.gs.length capg, .int .i64 c.se, .int .i64 c.qu, .int .i64 c.qt] 27)).alloc (.cells #[.int .i64 c.fr, .slice A' c.ps.length cap', .slice D' c.ds.length capd', .int .i64 c.mj, .slice W' c.ws.length capw', .slice G' c.gs.length capg', .int .i64 c.se, .int .i64 c.qu, .int .i64 c.qt] 27) = w1 at *
  refine (same_parts _ _ c.ps w1 H1.out.ps H2.out.ps H1.out.pz).mono ?_
  rintro e w2 ⟨rfl, q, rfl⟩
  have f2 := (cf_at (HC1.out.drewN q)).2.2.1
  have f3 := (cf_at (HC1.out.drewN q)).2.2.2.1
  have f4 := (cf_at (HC1.out.drewN q)).2.2.2.2.1
  have g2 := (cf_at (HC2.out.drewN q)).2.2.1
  have g3 := (cf_at (HC2.out.drewN q)).2.2.2.1
  have g4 := (cf_at (HC2.out.drewN q)).2.2.2.2.1
  go_wp2_with fail
  refine (same_wins _ _ c.ws.length c.ws (w1.drewN q) (H1.out.ws.sl.drewN q) (H2.out.ws.sl.drewN q) rfl H1.out.ws.big).mono ?_
  rintro e w2 ⟨rfl, q2, rfl⟩
  rw [World.drewN_drewN]
  generalize q + q2 = q3
  obtain ⟨r0, r1, r2, r3, r4, r5, r6, r7, r8⟩ := cf_at (HC1.out.drewN q3)
  obtain ⟨s0, s1, s2, s3, s4, s5, s6, s7, s8⟩ := cf_at (HC2.out.drewN q3)
  clear f0 f1 f2 f3 f4 f5 f6 f7 f8 g0 g1 g2 g3 g4 g5 g6 g7 g8
  go_wp2_with fail
  clear r0 r1 r2 r3 r4 r5 r6 r7 r8 s0 s1 s2 s3 s4 s5 s6 s7 s8
  have hds := H1.out.ds; have hds' := H2.out.ds
  obtain ⟨D1, d1, e1, hA⟩ := hds
  obtain ⟨D2, d2, e2, hB⟩ := hds'
  simp only [Value.slice.injEq] at e1 e2
  obtain ⟨rfl, -, rfl⟩ := e1
  obtain ⟨rfl, -, rfl⟩ := e2
  have HA := Lib.hid hA; have HBD := Lib.hid hB
  clear hA hB
  generalize hdn : c.ds.length = n at *
  have HDN := Lib.hid hdn
  generalize hgn : c.gs.length = m at *
  have HGN := Lib.hid hgn
  have hm63 : m ≤ 9223372036854775807 := by omega
  clear hdn hgn
  go_loopw [5] (fun i wr => ∃ k q : Nat, k ≤ n ∧ i = .int .i64 k ∧ wr = w1.drewN q) (fun i _ => n - (intOf i).toNat)
  case atStart => exact ⟨0, _, by omega, rfl, rfl⟩
  case round =>
    obtain ⟨k, q, hk, rfl, rfl⟩ := hrel
    by_cases hlt : k < n
    · obtain ⟨b, o, rfl, -, ha⟩ := HA.out (by omega)
      obtain ⟨b', o', rfl, -, hb⟩ := HBD.out (by omega)
      obtain ⟨A2, c2, p0, p1, ps, -⟩ := ha k hlt
      obtain ⟨B2, d2, q0, q1, qs, -⟩ := hb k hlt
      have hf := HDZ.out k
      have r2 := (cf_at HC1.out).2.2.1
      have s2 := (cf_at HC2.out).2.2.1
      clear ha hb
      generalize c.ds.getD k deD = p at *
      obtain ⟨pt, po⟩ := p
      simp only at p0 p1 ps q0 q1 qs hf
      have HS : Hid (∀ m, Calls Tryz.prog 31 #[.slice A2 po.length c2, .slice B2 po.length d2] (w1.drewN m) fun e w' => e = .returned (.bool true) ∧ ∃ j, w' = (w1.drewN m).drewN j) :=
        Lib.hid fun m => same_intz _ _ po.length po (w1.drewN m) (ps.drewN m) (qs.drewN m) rfl (by unfold maxLen; omega)
      clear ps qs
      have r2' := (cf_at (HC1.out.drewN q)).2.2.1
      go_wp2_with fail
      go_quiet ((go_at_call 31; first | exact Calls.quiet_of (HS.out _) | exact quiet_draws HS.out))
      go_wp2_with fail
      go_roundw
      case rel => exact ⟨k + 1, _, by omega, by go_num, rfl⟩
      case measure => simp [intOf]; omega
    · have r2' := (cf_at (HC1.out.drewN q)).2.2.1
      obtain rfl : k = n := by omega
      go_wp2_with fail
      clear r2'
      go_loopw [6] (fun i wr => ∃ k q : Nat, k ≤ m ∧ i = .int .i64 k ∧ wr = w1.drewN q) (fun i _ => m - (intOf i).toNat)
      case atStart => exact ⟨0, _, by omega, rfl, rfl⟩
      case round =>
        obtain ⟨j, q, hj, rfl, rfl⟩ := hrel
        have r5' := (cf_at (HC1.out.drewN q)).2.2.2.2.2.1
        by_cases hlt : j < m
        · have hg1 := H1.out.gs; have hg2 := H2.out.gs
          rw [HGN.out] at hg1 hg2
          obtain ⟨b, o, rfl, -, p0, p1, p2⟩ := grs_at hg1 HGN.out j hlt
          obtain ⟨b', o', rfl, -, q0, q1, q2⟩ := grs_at hg2 HGN.out j hlt
          have r5 := (cf_at HC1.out).2.2.2.2.2.1
          have s5 := (cf_at HC2.out).2.2.2.2.2.1
          clear hg1 hg2
          generalize c.gs.getD j grD = g at *
          obtain ⟨gf, gt, gw⟩ := g
          simp only at p0 p1 p2 q0 q1 q2
          go_wp2_with fail
          go_quiet (fail)
          go_wp2_with fail
          go_roundw
          case rel => exact ⟨j + 1, _, by omega, by go_num, rfl⟩
          case measure => simp [intOf]; omega
        · go_wp2_with fail
          go_ret
          exact ⟨rfl, bdrewN HB.out _⟩
end
end Go.Proofs.YtkaalinoiilmoaaGreat
namespace Go.Proofs.YtkaalinoiilmoaaGreat
open Go.RowKit
set_option linter.unusedVariables false
set_option linter.unusedSimpArgs false
set_option maxRecDepth 100000
noncomputable def pvL (c : Cf) (p : Int) (l : List Stp) : List Stp := if cfMay c = true ∧ inP c.ps.length p = true then pgL c p.toNat (hsNew c) l else []
def pvE (c : Cf) (p : Int) : Int := if cfMay c = true ∧ inP c.ps.length p = true then 0 else 2300
theorem pvL_len (c : Cf) (p : Int) (l : List Stp) : (pvL c p l).length ≤ l.length := by
  unfold pvL; split
  · rw [pgL_len]; exact Nat.le_refl _
  · exact Nat.zero_le _
theorem obS_nil {S : Nat → Prop} {W0 w : World} {os : List Ob} (h : Tk S W0 os w) : Tk S W0 (obS (.slice none 0 0) [] :: os) w := h.addR (Below.refl _ _) (World.ownsRow_nil _ _ _ _)
theorem vpurge_all {w : World} {c : Cf} {vp vd vw vg : Value} (hc : CfAt w vp vd vw vg c) (p : Int) (v : Value) (n : Nat) (l : List Stp) (hv : Sl w v n 7 (stcs l)) (hl : l.length = n) (hn : n * 64 ≤ 140737488351232) :
    Calls Tryz.prog 6 #[.agg #[.int .i64 c.fr, vp, vd, .int .i64 c.mj, vw, vg, .int .i64 c.se, .int .i64 c.qu, .int .i64 c.qt], v, .int .i64 p] w fun e w' => ∃ v', e = .returned (.tuple #[v', .int .i64 (pvE c p)]) ∧ Tk nos w [obS v' (pvL c p l)] w' := by
  unfold pvL pvE
  by_cases h : cfMay c = true ∧ inP c.ps.length p = true
  · obtain ⟨k, rfl, hk⟩ := (inP_iff _ _).1 h.2
    rw [if_pos h, if_pos h]
    subst hl
    refine (vpurge_yes hc h.1 k hk v l hv hn).mono ?_
    rintro e w' ⟨g, rfl, t⟩
    have e9 : (pgL c k (hsNew c) l).length = l.length := pgL_len c k l _
    refine ⟨_, rfl, t.wrap1 (fun q => ?_)⟩
    have q := obs_one.1 q
    have own := own_whole (B := 0) q.1 l.length 7 (by rw [stcs_len, e9]) (Nat.zero_le _) (by unfold maxLen; omega)
    refine ⟨?_, fun b => (q.2 b).trans ⟨fun e => by rw [e]; rfl, fun e => by simpa [Value.ownBlock] using e.symm⟩⟩
    rw [show (pgL c ((k : Int)).toNat (hsNew c) l).length = l.length from e9]
    exact own
  · rw [if_neg h, if_neg h]
    exact (vpurge_no hc v p h).mono fun e w' ⟨he, hb⟩ => ⟨_, he, obS_nil ((Tk.empty w).next hb)⟩
theorem rpurge_all {w : World} {c : Cf} {vp vd vw vg : Value} (hc : CfAt w vp vd vw vg c) (p : Int) (v : Value) (n : Nat) (l : List Stp) (hv : Sl w v n 7 (stcs l)) (hl : l.length = n) (hn : n * 64 ≤ 140737488351232) :
    Calls Tryz.prog 7 #[.agg #[.int .i64 c.fr, vp, vd, .int .i64 c.mj, vw, vg, .int .i64 c.se, .int .i64 c.qu, .int .i64 c.qt], v, .int .i64 p] w fun e w' => ∃ v', e = .returned (.tuple #[v', .int .i64 (pvE c p)]) ∧ Tk nos w [obS v' (pvL c p l)] w' := by
  unfold pvL pvE
  by_cases h : cfMay c = true ∧ inP c.ps.length p = true
  · obtain ⟨k, rfl, hk⟩ := (inP_iff _ _).1 h.2
    rw [if_pos h, if_pos h]
    exact rpurge_yes hc h.1 k hk v n l hv hl hn
  · rw [if_neg h, if_neg h]
    exact (rpurge_no hc v p h).mono fun e w' ⟨he, hb⟩ => ⟨_, he, obS_nil ((Tk.empty w).next hb)⟩
theorem CfAt.formsV {w : World} {vp vd vw vg : Value} {c : Cf} (h : CfAt w vp vd vw vg c) : ∃ A1 n1 k1 A2 n2 k2 A3 n3 k3 A4 n4 k4, vp = .slice A1 n1 k1 ∧ vd = .slice A2 n2 k2 ∧ vw = .slice A3 n3 k3 ∧ vg = .slice A4 n4 k4 := by
  obtain ⟨A1, k1, e1, _⟩ := h.ps
  obtain ⟨A2, k2, e2, _⟩ := h.ds
  obtain ⟨A3, k3, e3⟩ := h.ws.form
  obtain ⟨A4, k4, e4, _⟩ := h.gs
  exact ⟨A1, _, k1, A2, _, k2, A3, _, k3, A4, _, k4, e1, e2, e3, e4⟩
structure VlS (w4 : World) (c : Cf) (vp vd vw vg : Value) (y y2 : Nat) (xp xd xw xg : Value) (os : List Ob) (w' : World) : Prop where
  cb : Blk w' y 27 (cfc c vp vd vw vg)
  cx : Blk w' y2 27 (cfc c xp xd xw xg)
  tk : Tk nos w4 os w'
section
variable {w4 w' w2 : World} {c : Cf} {vp vd vw vg xp xd xw xg : Value} {y y2 : Nat} {os : List Ob}
theorem VlS.next (h : VlS w4 c vp vd vw vg y y2 xp xd xw xg os w') (hb : Below w'.heap.size w' w2) : VlS w4 c vp vd vw vg y y2 xp xd xw xg os w2 := ⟨h.cb.below hb h.cb.lt, h.cx.below hb h.cx.lt, h.tk.next hb⟩
theorem VlS.drewN (h : VlS w4 c vp vd vw vg y y2 xp xd xw xg os w') (n : Nat) : VlS w4 c vp vd vw vg y y2 xp xd xw xg os (w'.drewN n) := h.next (bdrewN (Below.refl _ _) n)
theorem VlS.drew (h : VlS w4 c vp vd vw vg y y2 xp xd xw xg os w') : VlS w4 c vp vd vw vg y y2 xp xd xw xg os w'.drew := h.drewN 1
theorem VlS.all (h : VlS w4 c vp vd vw vg y y2 xp xd xw xg os w') : ((w'.cell? ⟨y, 0, none⟩ = some (.int .i64 c.fr) ∧ w'.cell? ⟨y, 1, none⟩ = some vp ∧ w'.cell? ⟨y, 2, none⟩ = some vd ∧ w'.cell? ⟨y, 3, none⟩ = some (.int .i64 c.mj) ∧ w'.cell? ⟨y, 4, none⟩ = some vw ∧ w'.cell? ⟨y, 5, none⟩ = some vg ∧ w'.cell? ⟨y, 6, none⟩ = some (.int .i64 c.se) ∧ w'.cell? ⟨y, 7, none⟩ = some (.int .i64 c.qu) ∧ w'.cell? ⟨y, 8, none⟩ = some (.int .i64 c.qt)) ∧ w'.cell? ⟨y2, 0, none⟩ = some (.int .i64 c.fr) ∧ w'.cell? ⟨y2, 1, none⟩ = some xp ∧ w'.cell? ⟨y2, 2, none⟩ = some xd ∧ w'.cell? ⟨y2, 3, none⟩ = some (.int .i64 c.mj) ∧ w'.cell? ⟨y2, 4, none⟩ = some xw ∧ w'.cell? ⟨y2, 5, none⟩ = some xg ∧ w'.cell? ⟨y2, 6, none⟩ = some (.int .i64 c.se) ∧ w'.cell? ⟨y2, 7, none⟩ = some (.int .i64 c.qu) ∧ w'.cell? ⟨y2, 8, none⟩ = some (.int .i64 c.qt)) ∧ VlS w4 c vp vd vw vg y y2 xp xd xw xg os w' := ⟨⟨cf_at h.cb, cf_at h.cx⟩, h⟩
end
theorem Tk.sA {S : Nat → Prop} {W0 w : World} {os : List Ob} {a : Ob} {v : Value} {L : List Stp} (h : Tk S W0 (a :: obS v L :: os) w) : Sl w v L.length 7 (stcs L) := h.sl (i := 1) rfl
theorem Tk.sB {S : Nat → Prop} {W0 w : World} {os : List Ob} {v : Value} {L : List Stp} (h : Tk S W0 (obS v L :: os) w) : Sl w v L.length 7 (stcs L) := h.sl (i := 0) rfl
theorem lent_sl {w : World} {g cap n : Nat} {l : List Stp} {B : Nat} (h : w.ownsRow B 48 7 (.slice (some ⟨g, 0, none⟩) (n + 2) cap) (n + 2) (stcs l ++ roomT)) (hl : l.length = n) : LentT B w (.slice (some ⟨g, 0, none⟩) n cap) n l := by
  refine ⟨g, cap, rfl, ?_, h⟩
  rcases h.2 with ⟨e, _⟩ | ⟨_, _, _, e, _, _, h2, _⟩
  · cases e
  · simp only [Value.slice.injEq] at e
    obtain ⟨_, _, rfl⟩ := e
    exact h2
set_option maxHeartbeats 8000000 in
theorem law_Views (c : Cf) (vp vd vw vg : Value) (v1 : Value) (n : Nat) (x1 : List Value) (a2 a3 : Int) (w : World) (h : CfAt w vp vd vw vg c) (hs1 : Sl w v1 n 7 x1) (hx1 : ∃ l : List Stp, l.length = n ∧ x1 = stcs l) (hz : n * 64 ≤ 140737488351232) (hnil : ∀ m k, v1 = .slice none m k → k = 0) :
    Calls Tryz.prog 3 #[.agg #[.int .i64 c.fr, vp, vd, .int .i64 c.mj, vw, vg, .int .i64 c.se, .int .i64 c.qu, .int .i64 c.qt], v1, .int .i64 a2, .int .i64 a3] w fun e w' => e = .returned (.bool true) ∧ Below w.heap.size w w' := by
  obtain ⟨l, hl, rfl⟩ := hx1
  obtain ⟨hb, hB⟩ := cf_box w c vp vd vw vg
  have HB := Lib.hid hB; have HV := Lib.hid hb; have HA := Lib.hid (h.below hB); have HS := Lib.hid (hs1.below hB); have HL := Lib.hid hl; have HNIL := Lib.hid hnil
  obtain ⟨q0, q1, q2, q3, q4, q5, q6, q7, q8⟩ := cf_at hb
  obtain ⟨PA, hPA⟩ : ∃ P, pvL c a3 l = P := ⟨_, rfl⟩
  obtain ⟨E, hE⟩ : ∃ E, pvE c a3 = E := ⟨_, rfl⟩
  have HPA := Lib.hid hPA; have HE := Lib.hid hE
  have HPL := Lib.hid (show PA.length ≤ n by rw [← hPA, ← hl]; exact pvL_len c a3 l)
  obtain ⟨F, hF⟩ : ∃ F, flB c a2 a3 = F := ⟨_, rfl⟩
  have HF := Lib.hid hF
  clear h hb hB hs1 hl hnil hPA hE hF
  go_enter Tryz.func3, Tryz.ntmps3
  go_wp2_with fail
  generalize w.alloc (.cells #[.int .i64 c.fr, vp, vd, .int .i64 c.mj, vw, vg, .int .i64 c.se, .int .i64 c.qu, .int .i64 c.qt] 27) = w1 at *
  generalize hy : w.heap.size = y at *
  have HY := Lib.hid hy
  clear hy
  refine (copy_cfg HA.out).mono ?_
  rintro e w2 ⟨xp, xd, xw, xg, rfl, hx, b2⟩
  obtain ⟨A1, n1, k1, A2, n2, k2, A3, n3, k3, A4, n4, k4, ep, ed, ew, eg⟩ := hx.formsV
  subst ep ed ew eg
  have HXA := Lib.hid hx; have HB2 := Lib.hid b2
  clear hx b2 q0 q1 q2 q3 q4 q5 q6 q7 q8
  go_wp2_with fail
  refine (lend_steps v1 n l w2 (HS.out.below HB2.out) HL.out hz HNIL.out).mono ?_
  rintro e w3 ⟨ul, rfl, ⟨gl, capl, rfl, hcl, ho⟩, b3⟩
  have T3 := Lib.hid (((Tk.empty w1).next HB2.out).addR b3 ho)
  have t4 := T3.out.alloc 27 (cfc c (.slice A1 n1 k1) (.slice A2 n2 k2) (.slice A3 n3 k3) (.slice A4 n4 k4))
  have HXB := Lib.hid (show CfAt (w3.alloc (.cells #[.int .i64 c.fr, .slice A1 n1 k1, .slice A2 n2 k2, .int .i64 c.mj, .slice A3 n3 k3, .slice A4 n4 k4, .int .i64 c.se, .int .i64 c.qu, .int .i64 c.qt] 27)) (.slice A1 n1 k1) (.slice A2 n2 k2) (.slice A3 n3 k3) (.slice A4 n4 k4) c from HXA.out.below (b3.alloc b3.size (.cells (cfc c (.slice A1 n1 k1) (.slice A2 n2 k2) (.slice A3 n3 k3) (.slice A4 n4 k4)).toArray 27)))
  obtain ⟨q0, q1, q2, q3, q4, q5, q6, q7, q8⟩ := cf_at (t4.blk (i := 0) rfl)
  have T4 := Lib.hid (show Tk nos w1 [obB w3.heap.size 27 (cfc c (.slice A1 n1 k1) (.slice A2 n2 k2) (.slice A3 n3 k3) (.slice A4 n4 k4)), obR 48 7 (.slice (some ⟨gl, 0, none⟩) (n + 2) capl) (n + 2) (stcs l ++ roomT)] (w3.alloc (.cells #[.int .i64 c.fr, .slice A1 n1 k1, .slice A2 n2 k2, .int .i64 c.mj, .slice A3 n3 k3, .slice A4 n4 k4, .int .i64 c.se, .int .i64 c.qu, .int .i64 c.qt] 27)) from t4)
  clear t4 T3 ho b3 HXA
  go_wp2_with fail
  generalize hw4 : w3.alloc (.cells #[.int .i64 c.fr, .slice A1 n1 k1, .slice A2 n2 k2, .int .i64 c.mj, .slice A3 n3 k3, .slice A4 n4 k4, .int .i64 c.se, .int .i64 c.qu, .int .i64 c.qt] 27) = w4 at *
  generalize w3.heap.size = y2 at *
  have HCA := Lib.hid (HA.out.below T4.out.below)
  have HSA := Lib.hid (HS.out.below T4.out.below)
  have HV1 := Lib.hid (HV.out.below T4.out.below HV.out.lt)
  have HV2 := Lib.hid (T4.out.blk (i := 0) rfl)
  have HLT := Lib.hid (lent_sl (T4.out.row (i := 1) rfl) HL.out)
  have HB4 := Lib.hid (Below.down HB.out T4.out.below (by have := HB.out.size; have := HY.out; omega))
  clear T4 HV HA HS HB HB2
  refine (vpurge_all (HXB.out) a3 _ n l (HLT.out.sl HL.out) HL.out hz).mono ?_
  rintro e w5 ⟨va, rfl, t5⟩
  rw [HPA.out] at t5
  rw [HE.out]
  have T5 := Lib.hid t5
  clear t5 q0 q1 q2 q3 q4 q5 q6 q7 q8
  obtain ⟨q0, q1, q2, q3, q4, q5, q6, q7, q8⟩ := cf_at (HV1.out.below T5.out.below HV1.out.lt)
  go_wp2_with fail
  refine (rpurge_all (HCA.out.below T5.out.below) a3 v1 n l (HSA.out.below T5.out.below) HL.out hz).mono ?_
  rintro e w6 ⟨vb, rfl, t6⟩
  rw [HPA.out] at t6
  rw [HE.out]
  have T6 := Lib.hid (show Tk nos w4 [obS vb PA, obS va PA] w6 from T5.out.add t6)
  have hS : VlS w4 c vp vd vw vg y y2 (.slice A1 n1 k1) (.slice A2 n2 k2) (.slice A3 n3 k3) (.slice A4 n4 k4) [obS vb PA, obS va PA] w6 := ⟨HV1.out.below T6.out.below HV1.out.lt, HV2.out.below T6.out.below HV2.out.lt, T6.out⟩
  have HX := Lib.hid (fun (W : World) (hW : Below w4.heap.size w4 W) => vflows_any (HXB.out.below hW) a2 a3)
  have HC := Lib.hid (fun (W : World) (hW : Below w4.heap.size w4 W) => rflows_any (HCA.out.below hW) a2 a3)
  rw [HF.out] at HX HC
  clear t6 T5 q0 q1 q2 q3 q4 q5 q6 q7 q8
  have eE : (E == E) = true := by simp
  go_wp2_with fail
  refine wp_region_held_drew (S := (fun w' => ((w'.cell? ⟨y, 0, none⟩ = some (.int .i64 c.fr) ∧ w'.cell? ⟨y, 1, none⟩ = some vp ∧ w'.cell? ⟨y, 2, none⟩ = some vd ∧ w'.cell? ⟨y, 3, none⟩ = some (.int .i64 c.mj) ∧ w'.cell? ⟨y, 4, none⟩ = some vw ∧ w'.cell? ⟨y, 5, none⟩ = some vg ∧ w'.cell? ⟨y, 6, none⟩ = some (.int .i64 c.se) ∧ w'.cell? ⟨y, 7, none⟩ = some (.int .i64 c.qu) ∧ w'.cell? ⟨y, 8, none⟩ = some (.int .i64 c.qt)) ∧ w'.cell? ⟨y2, 0, none⟩ = some (.int .i64 c.fr) ∧ w'.cell? ⟨y2, 1, none⟩ = some (.slice A1 n1 k1) ∧ w'.cell? ⟨y2, 2, none⟩ = some (.slice A2 n2 k2) ∧ w'.cell? ⟨y2, 3, none⟩ = some (.int .i64 c.mj) ∧ w'.cell? ⟨y2, 4, none⟩ = some (.slice A3 n3 k3) ∧ w'.cell? ⟨y2, 5, none⟩ = some (.slice A4 n4 k4) ∧ w'.cell? ⟨y2, 6, none⟩ = some (.int .i64 c.se) ∧ w'.cell? ⟨y2, 7, none⟩ = some (.int .i64 c.qu) ∧ w'.cell? ⟨y2, 8, none⟩ = some (.int .i64 c.qt)) ∧ VlS w4 c vp vd vw vg y y2 (.slice A1 n1 k1) (.slice A2 n2 k2) (.slice A3 n3 k3) (.slice A4 n4 k4) [obS vb PA, obS va PA] w')) (by kernel_rfl) ?_ (fun hHeld => ?_)
  · try dsimp only
    (refine VlS.all ?_; (first | with_reducible assumption | exact hHeld.2 | exact VlS.drewN hHeld.2 _ | exact VlS.drewN hS _ | exact VlS.next hHeld.2 (by assumption) | with_reducible exact VlS.drew (by assumption) | with_reducible exact VlS.drew (And.right (by assumption)) | with_reducible exact VlS.next (by assumption) (by assumption) | with_reducible exact VlS.next (And.right (by assumption)) (by assumption) | with_reducible exact VlS.drewN (And.right (by assumption)) _))
  refine wpAnyH_take (i := 0) (v := ?v0zV) rfl (by kernel_rfl) (by kernel_rfl) (by kernel_rfl) (fun _ _ _ h => h) (Or.inl ⟨by rfl, ?hy0zV⟩) (by assumption) ?rest0zV
  case hy0zV => intro w hSw; (try dsimp only at hSw); first | (go_simp; done) | (go_simp; with_reducible rfl)
  try simp only [Act.put, List.getElem_toArray, List.getElem_cons_succ, List.getElem_cons_zero, List.setIfInBounds_toArray, List.set_cons_zero, List.set_cons_succ]
  refine wpAnyH_take (i := 1) (v := ?v1zV) rfl (by kernel_rfl) (by kernel_rfl) (by kernel_rfl) (fun _ _ _ h => h) (Or.inl ⟨by rfl, ?hy1zV⟩) (by assumption) ?rest1zV
  case hy1zV => intro w hSw; (try dsimp only at hSw); first | (go_simp; done) | (go_simp; with_reducible rfl)
  try simp only [Act.put, List.getElem_toArray, List.getElem_cons_succ, List.getElem_cons_zero, List.setIfInBounds_toArray, List.set_cons_zero, List.set_cons_succ]
  refine wpAnyH_ready (rs := [2]) (by kernel_rfl) (by simp) ?_
  refine AllReadyH.cons rfl (fun K hK => ?_) AllReadyH.nil
  go_simp
  refine (same_steps _ _ PA.length PA _ hHeld.2.tk.sA hHeld.2.tk.sB rfl (by have := HPL.out; unfold maxLen; omega)).mono ?_
  rintro e w7 ⟨rfl, kk, rfl⟩
  go_wp2_with fail
  refine hK.out _ _ ?_ (fun hHeld2 => ?_)
  · try dsimp only
    (refine VlS.all ?_; (first | with_reducible assumption | exact hHeld.2 | exact VlS.drewN hHeld.2 _ | exact VlS.drewN hS _ | exact VlS.next hHeld.2 (by assumption) | with_reducible exact VlS.drew (by assumption) | with_reducible exact VlS.drew (And.right (by assumption)) | with_reducible exact VlS.next (by assumption) (by assumption) | with_reducible exact VlS.next (And.right (by assumption)) (by assumption) | with_reducible exact VlS.drewN (And.right (by assumption)) _))
  clear hK K hHeld
  have hHeld := hHeld2; clear hHeld2
  try simp only [Act.put, List.getElem_toArray, List.getElem_cons_succ, List.getElem_cons_zero, List.setIfInBounds_toArray, List.set_cons_zero, List.set_cons_succ]
  refine wpAnyH_take (i := 3) (v := ?v3zV) rfl (by kernel_rfl) (by kernel_rfl) (by kernel_rfl) (fun _ _ _ h => h) (Or.inl ⟨by rfl, ?hy3zV⟩) (by assumption) ?rest3zV
  case hy3zV => intro w hSw; (try dsimp only at hSw); first | (go_simp; done) | (go_simp; with_reducible rfl)
  try simp only [Act.put, List.getElem_toArray, List.getElem_cons_succ, List.getElem_cons_zero, List.setIfInBounds_toArray, List.set_cons_zero, List.set_cons_succ]
  refine wpAnyH_take (i := 4) (v := ?v4zV) rfl (by kernel_rfl) (by kernel_rfl) (by kernel_rfl) (fun _ _ _ h => h) (Or.inl ⟨by rfl, ?hy4zV⟩) (by assumption) ?rest4zV
  case hy4zV => intro w hSw; (try dsimp only at hSw); first | (go_simp; done) | (go_simp; with_reducible rfl)
  try simp only [Act.put, List.getElem_toArray, List.getElem_cons_succ, List.getElem_cons_zero, List.setIfInBounds_toArray, List.set_cons_zero, List.set_cons_succ]
  refine wpAnyH_take (i := 5) (v := ?v5zV) rfl (by kernel_rfl) (by kernel_rfl) (by kernel_rfl) (fun _ _ _ h => h) (Or.inl ⟨by rfl, ?hy5zV⟩) (by assumption) ?rest5zV
  case hy5zV => intro w hSw; (try dsimp only at hSw); first | (go_simp; done) | (go_simp; with_reducible rfl)
  try simp only [Act.put, List.getElem_toArray, List.getElem_cons_succ, List.getElem_cons_zero, List.setIfInBounds_toArray, List.set_cons_zero, List.set_cons_succ]
  refine wpAnyH_take (i := 7) (v := ?v7zV) rfl (by kernel_rfl) (by kernel_rfl) (by kernel_rfl) (fun _ _ _ h => h) (Or.inl ⟨by rfl, ?hy7zV⟩) (by assumption) ?rest7zV
  case hy7zV => intro w hSw; (try dsimp only at hSw); first | (go_simp; done) | (go_simp; with_reducible rfl)
  try simp only [Act.put, List.getElem_toArray, List.getElem_cons_succ, List.getElem_cons_zero, List.setIfInBounds_toArray, List.set_cons_zero, List.set_cons_succ]
  refine wpAnyH_ready (rs := [6]) (by kernel_rfl) (by simp) ?_
  refine AllReadyH.cons rfl (fun K hK => ?_) AllReadyH.nil
  go_simp
  refine (num_any _ _).mono ?_
  rintro e w8 ⟨rfl, rfl⟩
  go_wp2_with fail
  refine hK.out _ _ ?_ (fun hHeld2 => ?_)
  · try dsimp only
    (refine VlS.all ?_; (first | with_reducible assumption | exact hHeld.2 | exact VlS.drewN hHeld.2 _ | exact VlS.drewN hS _ | exact VlS.next hHeld.2 (by assumption) | with_reducible exact VlS.drew (by assumption) | with_reducible exact VlS.drew (And.right (by assumption)) | with_reducible exact VlS.next (by assumption) (by assumption) | with_reducible exact VlS.next (And.right (by assumption)) (by assumption) | with_reducible exact VlS.drewN (And.right (by assumption)) _))
  clear hK K hHeld
  have hHeld := hHeld2; clear hHeld2
  try simp only [Act.put, List.getElem_toArray, List.getElem_cons_succ, List.getElem_cons_zero, List.setIfInBounds_toArray, List.set_cons_zero, List.set_cons_succ]
  refine wpAnyH_take (i := 8) (v := ?v8zV) rfl (by kernel_rfl) (by kernel_rfl) (by kernel_rfl) (fun _ _ _ h => h) (Or.inl ⟨by rfl, ?hy8zV⟩) (by assumption) ?rest8zV
  case hy8zV => intro w hSw; (try dsimp only at hSw); first | (go_simp; done) | (go_simp; with_reducible rfl)
  try simp only [Act.put, List.getElem_toArray, List.getElem_cons_succ, List.getElem_cons_zero, List.setIfInBounds_toArray, List.set_cons_zero, List.set_cons_succ]
  refine wpAnyH_take (i := 9) (v := ?v9zV) rfl (by kernel_rfl) (by kernel_rfl) (by kernel_rfl) (fun _ _ _ h => h) (Or.inl ⟨by rfl, ?hy9zV⟩) (by assumption) ?rest9zV
  case hy9zV => intro w hSw; (try dsimp only at hSw); first | (go_simp; done) | (go_simp; with_reducible rfl)
  try simp only [Act.put, List.getElem_toArray, List.getElem_cons_succ, List.getElem_cons_zero, List.setIfInBounds_toArray, List.set_cons_zero, List.set_cons_succ]
  refine wpAnyH_take (i := 10) (v := ?v10zV) rfl (by kernel_rfl) (by kernel_rfl) (by kernel_rfl) (fun _ _ _ h => h) (Or.inl ⟨by rfl, ?hy10zV⟩) (by assumption) ?rest10zV
  case hy10zV => intro w hSw; (try dsimp only at hSw); first | (go_simp; done) | (go_simp; with_reducible rfl)
  try simp only [Act.put, List.getElem_toArray, List.getElem_cons_succ, List.getElem_cons_zero, List.setIfInBounds_toArray, List.set_cons_zero, List.set_cons_succ]
  refine wpAnyH_take (i := 11) (v := ?v11zV) rfl (by kernel_rfl) (by kernel_rfl) (by kernel_rfl) (fun _ _ _ h => h) (Or.inl ⟨by rfl, ?hy11zV⟩) (by assumption) ?rest11zV
  case hy11zV => intro w hSw; (try dsimp only at hSw); first | (go_simp; done) | (go_simp; with_reducible rfl)
  try simp only [Act.put, List.getElem_toArray, List.getElem_cons_succ, List.getElem_cons_zero, List.setIfInBounds_toArray, List.set_cons_zero, List.set_cons_succ]
  refine wpAnyH_take (i := 12) (v := ?v12zV) rfl (by kernel_rfl) (by kernel_rfl) (by kernel_rfl) (fun _ _ _ h => h) (Or.inl ⟨by rfl, ?hy12zV⟩) (by assumption) ?rest12zV
  case hy12zV => intro w hSw; (try dsimp only at hSw); first | (go_simp; done) | (go_simp; with_reducible rfl)
  try simp only [Act.put, List.getElem_toArray, List.getElem_cons_succ, List.getElem_cons_zero, List.setIfInBounds_toArray, List.set_cons_zero, List.set_cons_succ]
  refine wpAnyH_take (i := 13) (v := ?v13zV) rfl (by kernel_rfl) (by kernel_rfl) (by kernel_rfl) (fun _ _ _ h => h) (Or.inl ⟨by rfl, ?hy13zV⟩) (by assumption) ?rest13zV
  case hy13zV => intro w hSw; (try dsimp only at hSw); first | (go_simp; done) | (go_simp; with_reducible rfl)
  try simp only [Act.put, List.getElem_toArray, List.getElem_cons_succ, List.getElem_cons_zero, List.setIfInBounds_toArray, List.set_cons_zero, List.set_cons_succ]
  refine wpAnyH_take (i := 15) (v := ?v15zV) rfl (by kernel_rfl) (by kernel_rfl) (by kernel_rfl) (fun _ _ _ h => h) (Or.inl ⟨by rfl, ?hy15zV⟩) (by assumption) ?rest15zV
  case hy15zV => intro w hSw; (try dsimp only at hSw); first | (go_simp; done) | (go_simp; with_reducible rfl)
  try simp only [Act.put, List.getElem_toArray, List.getElem_cons_succ, List.getElem_cons_zero, List.setIfInBounds_toArray, List.set_cons_zero, List.set_cons_succ]
  refine wpAnyH_take (i := 16) (v := ?v16zV) rfl (by kernel_rfl) (by kernel_rfl) (by kernel_rfl) (fun _ _ _ h => h) (Or.inl ⟨by rfl, ?hy16zV⟩) (by assumption) ?rest16zV
  case hy16zV => intro w hSw; (try dsimp only at hSw); first | (go_simp; done) | (go_simp; with_reducible rfl)
  try simp only [Act.put, List.getElem_toArray, List.getElem_cons_succ, List.getElem_cons_zero, List.setIfInBounds_toArray, List.set_cons_zero, List.set_cons_succ]
  refine wpAnyH_take (i := 17) (v := ?v17zV) rfl (by kernel_rfl) (by kernel_rfl) (by kernel_rfl) (fun _ _ _ h => h) (Or.inl ⟨by rfl, ?hy17zV⟩) (by assumption) ?rest17zV
  case hy17zV => intro w hSw; (try dsimp only at hSw); first | (go_simp; done) | (go_simp; with_reducible rfl)
  try simp only [Act.put, List.getElem_toArray, List.getElem_cons_succ, List.getElem_cons_zero, List.setIfInBounds_toArray, List.set_cons_zero, List.set_cons_succ]
  refine wpAnyH_ready (rs := [14]) (by kernel_rfl) (by simp) ?_
  refine AllReadyH.cons rfl (fun K hK => ?_) AllReadyH.nil
  go_simp
  refine (HX.out _ hHeld.2.tk.below).mono ?_
  rintro e w9 ⟨rfl, b9⟩
  go_wp2_with fail
  refine hK.out _ _ ?_ (fun hHeld2 => ?_)
  · try dsimp only
    (refine VlS.all ?_; (first | with_reducible assumption | exact hHeld.2 | exact VlS.drewN hHeld.2 _ | exact VlS.drewN hS _ | exact VlS.next hHeld.2 (by assumption) | with_reducible exact VlS.drew (by assumption) | with_reducible exact VlS.drew (And.right (by assumption)) | with_reducible exact VlS.next (by assumption) (by assumption) | with_reducible exact VlS.next (And.right (by assumption)) (by assumption) | with_reducible exact VlS.drewN (And.right (by assumption)) _))
  clear hK K hHeld
  have hHeld := hHeld2; clear hHeld2
  try simp only [Act.put, List.getElem_toArray, List.getElem_cons_succ, List.getElem_cons_zero, List.setIfInBounds_toArray, List.set_cons_zero, List.set_cons_succ]
  refine wpAnyH_ready (rs := [18]) (by kernel_rfl) (by simp) ?_
  refine AllReadyH.cons rfl (fun K hK => ?_) AllReadyH.nil
  go_simp
  refine (HC.out _ hHeld.2.tk.below).mono ?_
  rintro e wA ⟨rfl, bA⟩
  go_wp2_with fail
  refine hK.out _ _ ?_ (fun hHeld2 => ?_)
  · try dsimp only
    (refine VlS.all ?_; (first | with_reducible assumption | exact hHeld.2 | exact VlS.drewN hHeld.2 _ | exact VlS.drewN hS _ | exact VlS.next hHeld.2 (by assumption) | with_reducible exact VlS.drew (by assumption) | with_reducible exact VlS.drew (And.right (by assumption)) | with_reducible exact VlS.next (by assumption) (by assumption) | with_reducible exact VlS.next (And.right (by assumption)) (by assumption) | with_reducible exact VlS.drewN (And.right (by assumption)) _))
  clear hK K hHeld
  have hHeld := hHeld2; clear hHeld2
  try simp only [Act.put, List.getElem_toArray, List.getElem_cons_succ, List.getElem_cons_zero, List.setIfInBounds_toArray, List.set_cons_zero, List.set_cons_succ]
  refine wpAnyH_take (i := 19) (v := ?v19zV) rfl (by kernel_rfl) (by kernel_rfl) (by kernel_rfl) (fun _ _ _ h => h) (Or.inl ⟨by rfl, ?hy19zV⟩) (by assumption) ?rest19zV
  case hy19zV => intro w hSw; (try dsimp only at hSw); first | (go_simp; done) | (go_simp; with_reducible rfl)
  try simp only [Act.put, List.getElem_toArray, List.getElem_cons_succ, List.getElem_cons_zero, List.setIfInBounds_toArray, List.set_cons_zero, List.set_cons_succ]
  refine wpAnyH_take (i := 20) (v := ?v20zV) rfl (by kernel_rfl) (by kernel_rfl) (by kernel_rfl) (fun _ _ _ h => h) (Or.inl ⟨by rfl, ?hy20zV⟩) (by assumption) ?rest20zV
  case hy20zV => intro w hSw; (try dsimp only at hSw); first | (go_simp; done) | (go_simp; with_reducible rfl)
  try simp only [Act.put, List.getElem_toArray, List.getElem_cons_succ, List.getElem_cons_zero, List.setIfInBounds_toArray, List.set_cons_zero, List.set_cons_succ]
  refine wpAnyH_done (by kernel_rfl) ?_ _
  have T9 := Lib.hid hHeld.2.tk
  clear hHeld hS
  go_wp2_with fail
  refine (spoil_steps va 0 PA.length (stcs PA) _ (T9.out.row (i := 1) rfl) (Tck.stcs PA) (by have := HPL.out; omega)).mono ?_
  rintro e wB ⟨rfl, hg⟩
  have TB := Lib.hid (T9.out.spoilR (i := 1) rfl hg)
  clear hg T9
  obtain ⟨q0, q1, q2, q3, q4, q5, q6, q7, q8⟩ := cf_at (HV1.out.below TB.out.below HV1.out.lt)
  obtain ⟨p0, p1, p2, p3, p4, p5, p6, p7, p8⟩ := cf_at (HV2.out.below TB.out.below HV2.out.lt)
  go_wp2_with fail
  refine (same_cfg (HXB.out.below TB.out.below) (HCA.out.below TB.out.below)).mono ?_
  rintro e wC ⟨rfl, bC⟩
  have BC := Lib.hid (Below.down TB.out.below bC TB.out.below.size)
  clear bC q0 q1 q2 q3 q4 q5 q6 q7 q8 p0 p1 p2 p3 p4 p5 p6 p7 p8
  go_wp2_with fail
  refine (kept_steps 0 _ v1 n l _ (HLT.out.below BC.out) (HSA.out.below BC.out) HL.out hz).mono ?_
  rintro e wD ⟨rfl, bD⟩
  have BD := Lib.hid (Below.down BC.out bD BC.out.size)
  clear bD BC
  go_wp2_with fail
  refine (vawake_any _).mono ?_
  rintro e wE ⟨rfl, bE⟩
  have BE := Lib.hid (Below.down BD.out bE BD.out.size)
  clear bE BD
  go_wp2_with fail
  go_ret
  exact ⟨rfl, by rw [HY.out]; exact Below.down HB4.out BE.out (by have := HB4.out.size; have := HY.out; omega)⟩
end Go.Proofs.YtkaalinoiilmoaaGreat
namespace Go.Proofs.YtkaalinoiilmoaaGreat
open Go.RowKit Go.ChangeShapes Go.WideShapes Go.Deep
set_option linter.unusedVariables false
set_option maxRecDepth 100000
section
variable {H : Type} {enc : TypeId × Value → H} {P : Program}
theorem sized_sl {t e : TypeId} {B R : Nat} {W : World} {v : Value} {d : DataW H} {p : List MemPlace} (ht : P.underlying t = some (.slice e)) (hB : P.bytesOf e = B)
    (h : DataW.Trod enc P W 0 (fun _ => true) true t v d p) (hw : ∀ q ∈ d.weights P t, q ≤ R) : ∀ A n c, v = .slice A n c → n * B ≤ R ∧ (A = none → c = 0) := by
  rintro A n c rfl
  obtain ⟨fuel, hf⟩ := h
  rcases DataW.trod_slice ht hf with ⟨h0, _⟩ | ⟨a, len, cap, elems, rest, k, _, h0, hx, _, _, _, hlen, _⟩
  · simp only [Value.cells, List.cons.injEq, Value.slice.injEq, and_true] at h0
    obtain ⟨rfl, rfl, rfl⟩ := h0
    exact ⟨by simp, fun _ => rfl⟩
  · simp only [Value.cells, List.cons.injEq, Value.slice.injEq, and_true] at h0
    obtain ⟨rfl, rfl, rfl⟩ := h0
    obtain ⟨rfl, rfl⟩ := Prod.mk.inj hx
    have := hw ((elems.length + rest.length) * P.bytesOf e) (by simp [DataW.weights, ht])
    rw [hB] at this
    exact ⟨Nat.le_trans (Nat.mul_le_mul_right _ (by omega)) this, fun e => by cases e⟩
end
end Go.Proofs.YtkaalinoiilmoaaGreat
