/-
  Layer 7's law Iommus: its arguments: pools (a slice of slices of ints, with what is told of their sizes), acts.
-/
import Derived.Test.YtggdbiniklchoaaIoLaw0
import Derived.Test.YtggdbiniklchoaaArgs
import Derived.SizedLaws
namespace Go.Proofs.Ytggdbiniklchoaa
open Go.RowKit Go.ChangeShapes Go.WideShapes Go.Deep
set_option linter.unusedVariables false
set_option maxRecDepth 100000

section
variable {H : Type} {enc : TypeId × Value → H} {P : Program}

/-- A slice that came in, as a list of cells; each element's own reading beside it. -/
theorem open_slf {t e : TypeId} {C : Nat} {W : World} {v : Value} {d : DataW H} {p : List MemPlace} (ht : P.underlying t = some (.slice e)) (hC : P.cellsOf e = C) (hpos : 0 < C)
    (hv : ∃ A l c, v = .slice A l c) (h : DataW.Trod enc P W 0 (fun _ => true) true t v d p) :
    ∃ (n : Nat) (xs : List Value), Sl W v n C xs ∧ n ≤ maxLen ∧ ∀ i, i < n → ∃ (m : Nat) (y : DataW H × List MemPlace), DataW.trod enc P W 0 (fun _ => true) true m e ((xs.drop (i * C)).take C) = some y := by
  obtain ⟨A0, l0, c0, rfl⟩ := hv
  obtain ⟨fuel, hf⟩ := h
  rcases DataW.trod_slice ht hf with ⟨h0, _⟩ | ⟨a, len, cap, elems, rest, n, _, h0, _, _, hlc, hm, hlen, hel, _⟩
  · simp only [Value.cells, List.cons.injEq, Value.slice.injEq, and_true] at h0
    obtain ⟨rfl, rfl, rfl⟩ := h0
    exact ⟨0, [], ⟨none, 0, rfl, Nat.le_refl _, by simp, fun h => absurd h (by omega)⟩, by omega, fun i hi => absurd hi (by omega)⟩
  · simp only [Value.cells, List.cons.injEq, Value.slice.injEq, and_true] at h0
    obtain ⟨rfl, rfl, rfl⟩ := h0
    have key : ∀ i, i < l0 → ∃ cs : List Value, cs.length = C ∧ (∀ j, j < C → W.cell? ((a.add (i * C)).add j) = cs[j]?) ∧ ∃ (y : DataW H × List MemPlace), DataW.trod enc P W 0 (fun _ => true) true n e cs = some y := by
      intro i hi
      have := hel i hi
      rw [List.getElem?_eq_getElem (by omega), hC] at this
      obtain ⟨cs, h1, h2⟩ := Option.bind_eq_some_iff.1 this
      obtain ⟨_, h3, h4⟩ := World.cells?_some h1
      exact ⟨cs, h3, h4, _, h2⟩
    obtain ⟨F, hF⟩ := choose_lt (α := List Value) (p := fun i cs => cs.length = C ∧ (∀ j, j < C → W.cell? ((a.add (i * C)).add j) = cs[j]?) ∧ ∃ (y : DataW H × List MemPlace), DataW.trod enc P W 0 (fun _ => true) true n e cs = some y) key
    -- the list of all cells
    have all : ∀ m, m ≤ l0 → ∃ xs : List Value, xs.length = m * C ∧ (∀ j u, xs[j]? = some u → W.cell? (a.add j) = some u) ∧ ∀ i, i < m → (xs.drop (i * C)).take C = F i := by
      intro m
      induction m with
      | zero => intro _; exact ⟨[], by simp, fun j u hu => by simp at hu, fun i hi => absurd hi (by omega)⟩
      | succ m ih =>
        intro hm
        obtain ⟨xs, hx1, hx2, hx3⟩ := ih (by omega)
        obtain ⟨f1, f2, _⟩ := hF m (by omega)
        have hmC : (m + 1) * C = m * C + C := by rw [Nat.add_mul, Nat.one_mul]
        refine ⟨xs ++ F m, by rw [List.length_append, hx1, f1, hmC], fun j u hu => ?_, fun i hi => ?_⟩
        · by_cases hj : j < xs.length
          · rw [List.getElem?_append_left hj] at hu; exact hx2 j u hu
          · rw [List.getElem?_append_right (by omega)] at hu
            have hjl : j - xs.length < C := by
              have := (List.getElem?_eq_some_iff.1 hu).1
              omega
            have := f2 _ hjl
            rw [add_add, hu] at this
            rw [show j = m * C + (j - xs.length) by omega]
            exact this
        · have hiC : i * C + C ≤ m * C ∨ i = m := by
            by_cases h : i = m
            · exact .inr h
            · left
              have : (i + 1) * C ≤ m * C := Nat.mul_le_mul_right _ (by omega)
              rw [Nat.add_mul, Nat.one_mul] at this
              exact this
          rcases hiC with h | rfl
          · have hlt : i < m := by
              by_cases hh : i < m
              · exact hh
              · have : m * C ≤ i * C := Nat.mul_le_mul_right _ (by omega)
                omega
            rw [List.drop_append_of_le_length (by omega), List.take_append_of_le_length (by rw [List.length_drop]; omega)]
            exact hx3 i hlt
          · rw [← hx1, List.drop_left, ← f1, List.take_length]
    obtain ⟨xs, hx1, hx2, hx3⟩ := all l0 (Nat.le_refl _)
    refine ⟨l0, xs, ⟨some a, c0, rfl, hlc, hx1, fun hn => ?_⟩, by omega, fun i hi => ?_⟩
    · have hCn : 0 < xs.length := by rw [hx1]; exact Nat.mul_pos hn hpos
      have h0 := hx2 0 _ (List.getElem?_eq_getElem hCn)
      have h0' : W.cell? a = some xs[0] := by simpa [Addr.add] using h0
      have hs := World.cell?_spot h0'
      obtain ⟨b, o, s⟩ := a
      simp only at hs
      subst hs
      refine ⟨b, o, rfl, World.block_lt_of_cell? W _ h0', fun j u hu => ?_⟩
      have := hx2 j u hu
      rw [add_none] at this
      exact this
    · rw [hx3 i hi]
      obtain ⟨_, _, y, hy⟩ := hF i hi
      exact ⟨n, y, hy⟩

/-- A slice of ints that came in. -/
theorem open_intslf {t e : TypeId} {W : World} {v : Value} {d : DataW H} {p : List MemPlace} (ht : P.underlying t = some (.slice e)) (he : P.underlying e = some (.int .i64)) (hC : P.cellsOf e = 1)
    (hv : ∃ A l c, v = .slice A l c) (h : DataW.Trod enc P W 0 (fun _ => true) true t v d p) :
    ∃ (n : Nat) (zs : List Int), Sl W v n 1 (ints zs) ∧ n ≤ maxLen ∧ zs.length = n ∧ ∀ z ∈ zs, In64 z := by
  obtain ⟨n, xs, hs, hn, hr⟩ := open_slf ht hC (by omega) hv h
  have hxl : xs.length = n * 1 := by obtain ⟨_, _, _, _, hl, _⟩ := hs; exact hl
  have each : ∀ j, j < n → ∃ z : Int, xs[j]? = some (.int .i64 z) ∧ In64 z := by
    intro j hj
    obtain ⟨m, y, hy⟩ := hr _ hj
    obtain ⟨z, hz, _, hw⟩ := DataW.trod_int he hy
    refine ⟨z, ?_, wfb hw⟩
    have g2 : ((xs.drop (j * 1)).take 1)[0]? = some (Value.int .i64 z) := by rw [hz]; rfl
    rw [List.getElem?_take, if_pos (by omega), List.getElem?_drop] at g2
    rw [← g2, show j * 1 + 0 = j by omega]
  have hzs : ∀ m, m ≤ n → ∃ zs : List Int, zs.length = m ∧ xs.take m = ints zs ∧ ∀ z ∈ zs, In64 z := by
    intro m
    induction m with
    | zero => intro _; exact ⟨[], rfl, by simp [ints], fun z hz => by cases hz⟩
    | succ m ih =>
      intro hm
      obtain ⟨zs, z1, z2, z3⟩ := ih (by omega)
      obtain ⟨z, h1, h2⟩ := each m (by omega)
      refine ⟨zs ++ [z], by simp [z1], ?_, fun u hu => ?_⟩
      · rw [List.take_add_one, z2, h1, ints_append]; rfl
      · rcases List.mem_append.1 hu with hu | hu
        · exact z3 u hu
        · simp only [List.mem_cons, List.not_mem_nil, or_false] at hu
          subst hu; exact h2
  obtain ⟨zs, z1, z2, z3⟩ := hzs _ (Nat.le_refl _)
  rw [show n = xs.length by omega, List.take_length] at z2
  subst z2
  exact ⟨n, zs, hs, hn, z1, z3⟩

theorem weightsAll_mem {e : TypeId} : ∀ {ds : List (DataW H)} {d : DataW H}, d ∈ ds → ∀ n ∈ d.weights P e, n ∈ DataW.weightsAll P e ds
  | [], d, h, n, hn => by cases h
  | d0 :: ds, d, h, n, hn => by
    simp only [DataW.weightsAll, List.mem_append]
    rcases List.mem_cons.1 h with rfl | h
    · exact .inl hn
    · exact .inr (weightsAll_mem h n hn)
/-- A slice's reach is told of its length. -/
theorem row_weight {W : World} {t e : TypeId} {R m n c : Nat} {A : Option Addr} {y : DataW H × List MemPlace} (ht : P.underlying t = some (.slice e)) (h : DataW.trod enc P W 0 (fun _ => true) true m t [.slice A n c] = some y) (hw : ∀ q ∈ y.1.weights P t, q ≤ R) : n * P.bytesOf e ≤ R := by
  rcases DataW.trod_slice ht h with ⟨h0, _⟩ | ⟨a, len, cap, elems, rest, k, _, h0, hx, _, _, _, hlen, _⟩
  · simp only [List.cons.injEq, Value.slice.injEq, and_true] at h0
    obtain ⟨_, rfl, _⟩ := h0
    simp
  · simp only [List.cons.injEq, Value.slice.injEq, and_true] at h0
    obtain ⟨_, rfl, _⟩ := h0
    subst hx
    have := hw ((elems.length + rest.length) * P.bytesOf e) (by simp [DataW.weights, ht])
    exact Nat.le_trans (Nat.mul_le_mul_right _ (by omega)) this
end

/-- A pool. -/
theorem open_row {H : Type} {enc : TypeId × Value → H} {W : World} {m : Nat} {c : Value} {y : DataW H × List MemPlace} (h : DataW.trod enc Try.prog W 0 (fun _ => true) true m 35 [c] = some y) (hw : ∀ q ∈ y.1.weights Try.prog 35, q ≤ 140737488351232) :
    ∃ (fs : List Int) (A2 : Option Addr) (cap2 : Nat), c = .slice A2 fs.length cap2 ∧ Sl W (.slice A2 fs.length cap2) fs.length 1 (ints fs) ∧ (A2 = none → cap2 = 0) ∧ fs.length * 8 ≤ 140737488351232 := by
  have hf : ∃ A l c0, c = .slice A l c0 ∧ (A = none → c0 = 0) := by
    rcases DataW.trod_slice Try.underlying35 h with ⟨h0, _⟩ | ⟨a, len, cap, elems, rest, k, _, h0, _⟩
    · simp only [List.cons.injEq, and_true] at h0
      exact ⟨none, 0, 0, h0, fun _ => rfl⟩
    · simp only [List.cons.injEq, and_true] at h0
      exact ⟨some a, len, cap, h0, fun e => by cases e⟩
  obtain ⟨A2, n, cap2, rfl, hn⟩ := hf
  have hb := row_weight Try.underlying35 h hw
  have e8 : Try.prog.bytesOf 3 = 8 := by kernel_rfl
  rw [e8] at hb
  obtain ⟨n', zs, hs, _, hl, _⟩ := open_intslf (P := Try.prog) (enc := enc) (v := .slice A2 n cap2) (d := y.1) (p := y.2) Try.underlying35 Try.underlying3 (by kernel_rfl) ⟨_, _, _, rfl⟩ ⟨m, h⟩
  have en : n' = n := by
    obtain ⟨_, _, e, _⟩ := hs
    simp only [Value.slice.injEq] at e
    exact e.2.1.symm
  subst en
  subst hl
  exact ⟨zs, A2, cap2, rfl, hs, hn, hb⟩

/-- The pools. -/
theorem open_pools {H : Type} {enc : TypeId × Value → H} {W : World} {v : Value} {d : DataW H} {p : List MemPlace} (hv : ∃ A l c, v = .slice A l c) (h : DataW.Trod enc Try.prog W 0 (fun _ => true) true 22 v d p) (hw : ∀ q ∈ d.weights Try.prog 22, q ≤ 140737488351232) :
    ∃ ps : List (List Int), AP W v ps ∧ ps.length * 24 ≤ 140737488351232 ∧ ∀ i, i < ps.length → (ps.getD i []).length * 8 ≤ 140737488351232 := by
  obtain ⟨A, n, cap, rfl⟩ := hv
  obtain ⟨fuel, hf⟩ := h
  have hb := row_weight (R := 140737488351232) Try.underlying22 hf hw
  have e24 : Try.prog.bytesOf 35 = 24 := by kernel_rfl
  have e1 : Try.prog.cellsOf 35 = 1 := by kernel_rfl
  rw [e24] at hb
  rcases DataW.trod_slice Try.underlying22 hf with ⟨h0, _⟩ | ⟨a, len, cap', elems, rest, k, _, h0, hx, _, _, _, hlen, hel, _⟩
  · simp only [Value.cells, List.cons.injEq, Value.slice.injEq, and_true] at h0
    obtain ⟨rfl, rfl, rfl⟩ := h0
    exact ⟨[], ⟨none, 0, rfl, fun h => absurd h (by simp)⟩, by simp, fun i hi => absurd hi (by simp)⟩
  · simp only [Value.cells, List.cons.injEq, Value.slice.injEq, and_true] at h0
    obtain ⟨rfl, rfl, rfl⟩ := h0
    simp only [Prod.mk.injEq] at hx
    obtain ⟨rfl, _⟩ := hx
    have key : ∀ i, i < n → ∃ fs : List Int, (∃ A2 cap2, W.cell? (a.add i) = some (.slice A2 fs.length cap2) ∧ Sl W (.slice A2 fs.length cap2) fs.length 1 (ints fs) ∧ (A2 = none → cap2 = 0)) ∧ fs.length * 8 ≤ 140737488351232 := by
      intro i hi
      have h1 := hel i hi
      rw [List.getElem?_eq_getElem (by omega), e1, Nat.mul_one] at h1
      obtain ⟨cs, h2, h3⟩ := Option.bind_eq_some_iff.1 h1
      obtain ⟨_, h4, h5⟩ := World.cells?_some h2
      obtain ⟨c, rfl⟩ : ∃ c, cs = [c] := by
        match cs, h4 with
        | [c], _ => exact ⟨c, rfl⟩
      have h6 := h5 0 (by omega)
      have hmem : (elems[i]'(by omega)).1 ∈ elems.map (·.1) := List.mem_map.2 ⟨_, List.getElem_mem _, rfl⟩
      obtain ⟨fs, A2, cap2, rfl, hs, hn, h8⟩ := open_row h3 (fun q hq => hw q (by
        simp only [DataW.weights, Try.underlying22, List.mem_cons, List.mem_append]
        exact .inr (.inl (weightsAll_mem hmem q hq))))
      refine ⟨fs, ⟨A2, cap2, ?_, hs, hn⟩, h8⟩
      simpa [add_add] using h6
    obtain ⟨F, hF⟩ := choose_lt (α := List Int) (p := fun i fs => (∃ A2 cap2, W.cell? (a.add i) = some (.slice A2 fs.length cap2) ∧ Sl W (.slice A2 fs.length cap2) fs.length 1 (ints fs) ∧ (A2 = none → cap2 = 0)) ∧ fs.length * 8 ≤ 140737488351232) key
    have hg : ∀ i, i < n → ((List.range n).map F).getD i [] = F i := by
      intro i hi
      simp [List.getD, hi]
    have hl : ((List.range n).map F).length = n := by simp
    refine ⟨(List.range n).map F, ⟨some a, cap, by rw [hl], fun h0 => ?_⟩, by rw [hl]; exact hb, fun i hi => ?_⟩
    · rw [hl] at h0
      obtain ⟨⟨A2, c2, h1, _⟩, _⟩ := hF 0 h0
      have h1' : W.cell? a = some (.slice A2 (F 0).length c2) := by simpa [Addr.add] using h1
      have hs := World.cell?_spot h1'
      obtain ⟨b, o, s⟩ := a
      simp only at hs
      subst hs
      refine ⟨b, o, rfl, World.block_lt_of_cell? W _ h1', fun i hi => ?_⟩
      rw [hl] at hi
      rw [hg i hi]
      obtain ⟨⟨A3, c3, h2, h3, h4⟩, _⟩ := hF i hi
      rw [add_none] at h2
      exact ⟨A3, c3, h2, h3, h4⟩
    · rw [hl] at hi
      rw [hg i hi]
      exact (hF i hi).2

/-- A field of one cell that is a bool, out of a struct's cells. -/
theorem fld_bool {H : Type} {enc : TypeId × Value → H} {P : Program} {W : World} {e : TypeId} {fs : Array Field} {m : Nat} {cs : List Value} {y : DataW H × List MemPlace} (he : P.underlying e = some (.struct fs)) (hy : DataW.trod enc P W 0 (fun _ => true) true m e cs = some y)
    (k o : Nat) (f : Field) (hk : fs[k]? = some f) (ho : f.offset = o) (hc : P.cellsOf f.type = 1) (hu : P.underlying f.type = some .bool) : ∃ b : Bool, cs[o]? = some (.bool b) := by
  obtain ⟨ys, m', _, _, hlen, hyl, hf⟩ := DataW.trod_struct he hy
  have hkl : k < ys.length := by rw [hyl]; exact (Array.getElem?_eq_some_iff.1 hk).1
  have h1 := hf _ f hk
  rw [ho, hc, List.getElem?_eq_getElem hkl] at h1
  obtain ⟨b, hz, _⟩ := DataW.trod_bool hu h1
  refine ⟨b, ?_⟩
  have g : ((cs.drop o).take 1)[0]? = some (Value.bool b) := by rw [hz]; rfl
  rw [List.getElem?_take, if_pos (by omega), List.getElem?_drop] at g
  exact g

/-- The k-th act of a row. -/
def Act7 (xs : List Value) (i : Nat) : Prop := ∃ (K D P F M A N : Int) (Wr : Bool) (X : Int), xs[i * 9]? = some (.int .i64 K) ∧ xs[i * 9 + 1]? = some (.int .i64 D) ∧ xs[i * 9 + 2]? = some (.int .i64 P) ∧ xs[i * 9 + 3]? = some (.int .i64 F) ∧ xs[i * 9 + 4]? = some (.int .i64 M) ∧ xs[i * 9 + 5]? = some (.int .i64 A) ∧ xs[i * 9 + 6]? = some (.int .i64 N) ∧ xs[i * 9 + 7]? = some (.bool Wr) ∧ xs[i * 9 + 8]? = some (.int .i64 X)
theorem acts7_of {H : Type} {enc : TypeId × Value → H} {W : World} {n : Nat} {xs : List Value}
    (hr : ∀ i, i < n → ∃ (m : Nat) (y : DataW H × List MemPlace), DataW.trod enc Try.prog W 0 (fun _ => true) true m 48 ((xs.drop (i * 9)).take 9) = some y) : ∀ i, i < n → Act7 xs i := by
  intro i hi
  obtain ⟨m, y, hy⟩ := hr i hi
  obtain ⟨K, h0, _⟩ := fld_int (P := Try.prog) Try.underlying48 hy 0 0 _ rfl rfl (by kernel_rfl) Try.underlying3
  obtain ⟨D, h1, _⟩ := fld_int (P := Try.prog) Try.underlying48 hy 1 1 _ rfl rfl (by kernel_rfl) Try.underlying3
  obtain ⟨P, h2, _⟩ := fld_int (P := Try.prog) Try.underlying48 hy 2 2 _ rfl rfl (by kernel_rfl) Try.underlying3
  obtain ⟨m', y', hy'⟩ := fld_sub (P := Try.prog) Try.underlying48 hy 3 3 2 _ rfl rfl (by kernel_rfl)
  obtain ⟨F, h3, _⟩ := fld_int (P := Try.prog) Try.underlying46 hy' 0 0 _ rfl rfl (by kernel_rfl) Try.underlying3
  obtain ⟨M, h4, _⟩ := fld_int (P := Try.prog) Try.underlying46 hy' 1 1 _ rfl rfl (by kernel_rfl) Try.underlying3
  obtain ⟨A, h5, _⟩ := fld_int (P := Try.prog) Try.underlying48 hy 4 5 _ rfl rfl (by kernel_rfl) Try.underlying3
  obtain ⟨N, h6, _⟩ := fld_int (P := Try.prog) Try.underlying48 hy 5 6 _ rfl rfl (by kernel_rfl) Try.underlying3
  obtain ⟨Wr, h7⟩ := fld_bool (P := Try.prog) Try.underlying48 hy 6 7 _ rfl rfl (by kernel_rfl) Try.underlying4
  obtain ⟨X, h8, _⟩ := fld_int (P := Try.prog) Try.underlying48 hy 7 8 _ rfl rfl (by kernel_rfl) Try.underlying3
  rw [List.getElem?_take, if_pos (by omega), List.getElem?_drop, elem_at _ _ _ _ (by omega)] at h3 h4
  rw [elem_at _ _ _ _ (by omega)] at h0 h1 h2 h5 h6 h7 h8
  exact ⟨K, D, P, F, M, A, N, Wr, X, h0, h1, h2, h3, h4, h5, h6, h7, h8⟩

end Go.Proofs.Ytggdbiniklchoaa
