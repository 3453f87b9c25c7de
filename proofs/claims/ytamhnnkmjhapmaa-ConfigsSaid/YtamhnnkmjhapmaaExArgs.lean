/-
  Slices of parts that come in, each with a slice of frames of its own.
-/
import Derived.Test.YtamhnnkmjhapmaaArgs2
import Derived.Test.YtamhnnkmjhapmaaEx3
namespace Go.Proofs.Ytamhnnkmjhapmaa
open Go.RowKit Go.ChangeShapes Go.WideShapes Go.Deep
set_option linter.unusedVariables false
set_option maxRecDepth 100000

section
variable {H : Type} {enc : TypeId × Value → H} {P : Program}
/-- A slice of ints within another datum. -/
theorem open_intslg {t e : TypeId} {W : World} {v : Value} {d : DataW H} {p : List MemPlace} (ht : P.underlying t = some (.slice e)) (he : P.underlying e = some (.int .i64)) (hC : P.cellsOf e = 1)
    (hv : ∃ A l c, v = .slice A l c) (h : DataW.Trod enc P W 0 (fun _ => true) true t v d p) :
    ∃ (n : Nat) (zs : List Int), Sl W v n 1 (ints zs) ∧ n ≤ maxLen ∧ zs.length = n ∧ ∀ z ∈ zs, In64 z := by
  obtain ⟨n, xs, hs, hn, hr⟩ := open_slg ht hC (by omega) hv h
  have hxl : xs.length = n * 1 := by obtain ⟨_, _, _, _, hl, _⟩ := hs; exact hl
  have each : ∀ j, j < xs.length → ∃ z : Int, xs[j]? = some (.int .i64 z) ∧ In64 z := by
    intro j hj
    obtain ⟨m, y, hy⟩ := hr j (by omega)
    obtain ⟨z, hz, _, hw⟩ := DataW.trod_int he hy
    refine ⟨z, ?_, wfb hw⟩
    have g2 : ((xs.drop (j * 1)).take 1)[0]? = some (Value.int .i64 z) := by rw [hz]; rfl
    rw [List.getElem?_take, if_pos (by omega), List.getElem?_drop] at g2
    rw [← g2, show j * 1 + 0 = j by omega]
  obtain ⟨zs, rfl, hz⟩ := ints_of each
  exact ⟨n, zs, hs, hn, by rw [ints_len] at hxl; omega, hz⟩
end

/-- A slice of frames. -/
theorem open_frs {H : Type} {enc : TypeId × Value → H} {W : World} {m : Nat} {c : Value} {y : DataW H × List MemPlace} (h : DataW.trod enc Try.prog W 0 (fun _ => true) true m 38 [c] = some y) (hw : ∀ q ∈ y.1.weights Try.prog 38, q ≤ 140737488351232) :
    ∃ (fs : List Int) (A2 : Option Addr) (cap2 : Nat), c = .slice A2 fs.length cap2 ∧ Sl W (.slice A2 fs.length cap2) fs.length 1 (ints fs) ∧ (A2 = none → cap2 = 0) ∧ fs.length * 8 ≤ 140737488351232 := by
  have hf : ∃ A l c0, c = .slice A l c0 ∧ (A = none → c0 = 0) := by
    rcases DataW.trod_slice Try.underlying38 h with ⟨h0, _⟩ | ⟨a, len, cap, elems, rest, k, _, h0, _⟩
    · simp only [List.cons.injEq, and_true] at h0
      exact ⟨none, 0, 0, h0, fun _ => rfl⟩
    · simp only [List.cons.injEq, and_true] at h0
      exact ⟨some a, len, cap, h0, fun e => by cases e⟩
  obtain ⟨A2, n, cap2, rfl, hn⟩ := hf
  have hb := row_weightg Try.underlying38 h hw
  have e8 : Try.prog.bytesOf 3 = 8 := by kernel_rfl
  rw [e8] at hb
  obtain ⟨n', zs, hs, _, hl, _⟩ := open_intslg (P := Try.prog) (enc := enc) (v := .slice A2 n cap2) (d := y.1) (p := y.2) Try.underlying38 Try.underlying3 (by kernel_rfl) ⟨_, _, _, rfl⟩ ⟨m, h⟩
  have en : n' = n := by
    obtain ⟨_, _, e, _⟩ := hs
    simp only [Value.slice.injEq] at e
    exact e.2.1.symm
  subst en
  subst hl
  exact ⟨zs, A2, cap2, rfl, hs, hn, hb⟩

/-- One part out of its cells. -/
theorem open_part {H : Type} {enc : TypeId × Value → H} {W : World} {m b a : Nat} {cs : List Value} {y : DataW H × List MemPlace} (hy : DataW.trod enc Try.prog W 0 (fun _ => true) true m 40 cs = some y) (hcl : cs.length = 5)
    (hcell : ∀ j, j < 5 → W.cell? ⟨b, a + j, none⟩ = cs[j]?) (hw : ∀ q ∈ y.1.weights Try.prog 40, q ≤ 140737488351232) : ∃ p : Pa, PaAt W b a p ∧ p.fr.length * 8 ≤ 140737488351232 := by
  obtain ⟨m', y', hy'⟩ := fld_sub (P := Try.prog) Try.underlying40 hy 0 0 2 _ rfl rfl (by kernel_rfl)
  obtain ⟨lv, g0, _⟩ := fld_int (P := Try.prog) Try.underlying37 hy' 0 0 _ rfl rfl (by kernel_rfl) Try.underlying3
  obtain ⟨ct, g1, _⟩ := fld_int (P := Try.prog) Try.underlying37 hy' 1 1 _ rfl rfl (by kernel_rfl) Try.underlying3
  obtain ⟨fi, g3, _⟩ := fld_int (P := Try.prog) Try.underlying40 hy 2 3 _ rfl rfl (by kernel_rfl) Try.underlying3
  obtain ⟨co, g4, _⟩ := fld_int (P := Try.prog) Try.underlying40 hy 3 4 _ rfl rfl (by kernel_rfl) Try.underlying3
  rw [List.getElem?_take, if_pos (by omega), List.getElem?_drop] at g0 g1
  obtain ⟨ys, m2, _, hagg, _, hyl, hfl⟩ := DataW.trod_struct Try.underlying40 hy
  have hyl4 : ys.length = 4 := hyl
  have h6 := hfl 1 _ rfl
  have e1 : Try.prog.cellsOf 38 = 1 := by kernel_rfl
  rw [List.getElem?_eq_getElem (by omega)] at h6
  obtain ⟨c, hc⟩ : ∃ c, (cs.drop 2).take 1 = [c] := by
    match cs, hcl with
    | [_, _, c, _, _], _ => exact ⟨c, rfl⟩
  have h7 : DataW.trod enc Try.prog W 0 (fun _ => true) true m2 38 [c] = some (ys[1]'(by omega)) := by
    rw [← hc]; exact h6
  obtain ⟨fs, A2, cap2, rfl, hs, hnil, h8⟩ := open_frs h7 (fun q hq => hw q (by
    rw [hagg]
    simp only [DataW.weights, Try.underlying40]
    exact DataW.weights_mem_each (j := 1) (t := 38) (d := (ys[1]'(by omega)).1) rfl (by rw [List.getElem?_map, List.getElem?_eq_getElem (by omega)]; rfl) q hq))
  have g2 : cs[2]? = some (.slice A2 fs.length cap2) := by
    have := congrArg (fun l => l[0]?) hc
    simpa [List.getElem?_take, List.getElem?_drop] using this
  refine ⟨⟨lv, ct, fs, fi, co⟩, ⟨A2, cap2, ?_, ?_, ?_, ?_, ?_, hs, hnil⟩, h8⟩
  · have := hcell 0 (by omega); rw [Nat.add_zero] at this; exact this.trans g0
  · exact (hcell 1 (by omega)).trans g1
  · exact (hcell 2 (by omega)).trans g2
  · exact (hcell 3 (by omega)).trans g3
  · exact (hcell 4 (by omega)).trans g4

theorem open_parts {H : Type} {enc : TypeId × Value → H} {W : World} {v : Value} {d : DataW H} {p : List MemPlace} (hv : ∃ A l c, v = .slice A l c) (h : DataW.Trod enc Try.prog W 0 (fun _ => true) true 22 v d p) (hw : ∀ q ∈ d.weights Try.prog 22, q ≤ 140737488351232) :
    ∃ l : List Pa, PaS W v l ∧ PaZ l := by
  obtain ⟨A, n, cap, rfl⟩ := hv
  obtain ⟨fuel, hf⟩ := h
  have hb := row_weightg (R := 140737488351232) Try.underlying22 hf hw
  have e56 : Try.prog.bytesOf 40 = 56 := by kernel_rfl
  have e5 : Try.prog.cellsOf 40 = 5 := by kernel_rfl
  rw [e56] at hb
  rcases DataW.trod_slice Try.underlying22 hf with ⟨h0, _⟩ | ⟨a, len, cap', elems, rest, k, _, h0, hx, _, _, _, hlen, hel, _⟩
  · simp only [Value.cells, List.cons.injEq, Value.slice.injEq, and_true] at h0
    obtain ⟨rfl, rfl, rfl⟩ := h0
    exact ⟨[], ⟨none, 0, rfl, fun h => absurd h (by simp)⟩, by simp, fun i => by simp [paD]⟩
  · simp only [Value.cells, List.cons.injEq, Value.slice.injEq, and_true] at h0
    obtain ⟨rfl, rfl, rfl⟩ := h0
    simp only [Prod.mk.injEq] at hx
    obtain ⟨rfl, _⟩ := hx
    have spot : 0 < n → a.spot = none ∧ a.block < W.heap.size := by
      intro hn
      have h1 := hel 0 hn
      rw [List.getElem?_eq_getElem (by omega), e5] at h1
      obtain ⟨cs, h2, h3⟩ := Option.bind_eq_some_iff.1 h1
      obtain ⟨_, h4, h5⟩ := World.cells?_some h2
      have h6 := h5 0 (by omega)
      rw [List.getElem?_eq_getElem (by omega)] at h6
      have h6' : W.cell? a = some cs[0] := by simpa [Addr.add] using h6
      exact ⟨World.cell?_spot h6', World.block_lt_of_cell? W _ h6'⟩
    by_cases hn : 0 < n
    · obtain ⟨hsp, hlt⟩ := spot hn
      obtain ⟨b, o, s⟩ := a
      simp only at hsp hlt
      subst hsp
      have key : ∀ i, i < n → ∃ p : Pa, PaAt W b (o + i * 5) p ∧ p.fr.length * 8 ≤ 140737488351232 := by
        intro i hi
        have h1 := hel i hi
        rw [List.getElem?_eq_getElem (by omega), e5] at h1
        obtain ⟨cs, h2, h3⟩ := Option.bind_eq_some_iff.1 h1
        obtain ⟨_, h4, h5⟩ := World.cells?_some h2
        have hmem : (elems[i]'(by omega)).1 ∈ elems.map (·.1) := List.mem_map.2 ⟨_, List.getElem_mem _, rfl⟩
        refine open_part h3 h4 (fun j hj => ?_) (fun q hq => hw q (by
          simp only [DataW.weights, Try.underlying22, List.mem_cons, List.mem_append]
          exact .inr (.inl (weightsAll_memg hmem q hq))))
        have := h5 j hj
        simpa [add_none, Nat.add_assoc] using this
      haveI : Inhabited Pa := ⟨paD⟩
      obtain ⟨F, hF⟩ := choose_lt (α := Pa) (p := fun i p => PaAt W b (o + i * 5) p ∧ p.fr.length * 8 ≤ 140737488351232) key
      have hg : ∀ i, i < n → ((List.range n).map F).getD i paD = F i := by
        intro i hi
        simp [List.getD, hi]
      have hl : ((List.range n).map F).length = n := by simp
      refine ⟨(List.range n).map F, ⟨some ⟨b, o, none⟩, cap, by rw [hl], fun h0 => ⟨b, o, rfl, hlt, fun i hi => ?_⟩⟩, by rw [hl]; exact hb, fun i => ?_⟩
      · rw [hl] at hi
        rw [hg i hi]
        exact (hF i hi).1
      · by_cases hi : i < n
        · rw [hg i hi]; exact (hF i hi).2
        · simp [List.getD, show ¬ i < n from hi, paD]
    · obtain rfl : n = 0 := by omega
      exact ⟨[], ⟨some a, cap, rfl, fun h => absurd h (by simp)⟩, by simp, fun i => by simp [paD]⟩

end Go.Proofs.Ytamhnnkmjhapmaa
