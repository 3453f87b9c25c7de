/-
  From a row's reading of its arguments to plain facts, where a slice lies within another datum: its form is known otherwise; what its reach is told by. No Go function here.
-/
import Derived.Test.YtamhnnkmjhapmaaArgs
import Derived.SizedLaws
namespace Go.Proofs.Ytamhnnkmjhapmaa
open Go.RowKit Go.ChangeShapes Go.WideShapes Go.Deep
set_option linter.unusedVariables false
set_option maxRecDepth 100000

section
variable {H : Type} {enc : TypeId × Value → H} {P : Program}

/-- A slice that came in, as a list of cells; each element's own reading beside it. -/
theorem open_slg {t e : TypeId} {C : Nat} {W : World} {v : Value} {d : DataW H} {p : List MemPlace} (ht : P.underlying t = some (.slice e)) (hC : P.cellsOf e = C) (hpos : 0 < C)
    (hv : ∃ A l c, v = .slice A l c) (h : DataW.Trod enc P W 0 (fun _ => true) true t v d p) :
    ∃ (n : Nat) (xs : List Value), Sl W v n C xs ∧ n ≤ maxLen ∧ ∀ i, i < n → ∃ (m : Nat) (y : DataW H × List MemPlace), DataW.trod enc P W 0 (fun _ => true) true m e ((xs.drop (i * C)).take C) = some y := by
  obtain ⟨A0, l0, c0, rfl⟩ := hv
  obtain ⟨fuel, hf⟩ := h
  rcases DataW.trod_slice ht hf with ⟨h0, _⟩ | ⟨a, len, cap, elems, rest, n, _, h0, _, _, hlc, hm, hlen, hel, _⟩
  · simp only [Value.cells, List.cons.injEq, Value.slice.injEq, and_true] at h0
    obtain ⟨rfl, rfl, rfl⟩ := h0
    exact ⟨0, [], ⟨none, 0, rfl, Nat.le_refl _, by simp, fun h => absurd h (by omega)⟩, by omega, fun i hi => absurd hi (by omega)⟩
  · simp only [Value.cells, List.cons.injEq, Value.slice.injEq, and_true] at h0
    obtain ⟨rfl, rfl, rfl⟩ := h0
    have key : ∀ i, i < l0 → ∃ cs : List Value, cs.length = C ∧ (∀ j, j < C → W.cell? ((a.add (i * C)).add j) = cs[j]?) ∧ ∃ (y : DataW H × List MemPlace), DataW.trod enc P W 0 (fun _ => true) true n e cs = some y := by
      intro i hi
      have := hel i hi
      rw [List.getElem?_eq_getElem (by omega), hC] at this
      obtain ⟨cs, h1, h2⟩ := Option.bind_eq_some_iff.1 this
      obtain ⟨_, h3, h4⟩ := World.cells?_some h1
      exact ⟨cs, h3, h4, _, h2⟩
    obtain ⟨F, hF⟩ := choose_lt (α := List Value) (p := fun i cs => cs.length = C ∧ (∀ j, j < C → W.cell? ((a.add (i * C)).add j) = cs[j]?) ∧ ∃ (y : DataW H × List MemPlace), DataW.trod enc P W 0 (fun _ => true) true n e cs = some y) key
    -- the list of all cells
    have all : ∀ m, m ≤ l0 → ∃ xs : List Value, xs.length = m * C ∧ (∀ j u, xs[j]? = some u → W.cell? (a.add j) = some u) ∧ ∀ i, i < m → (xs.drop (i * C)).take C = F i := by
      intro m
      induction m with
      | zero => intro _; exact ⟨[], by simp, fun j u hu => by simp at hu, fun i hi => absurd hi (by omega)⟩
      | succ m ih =>
        intro hm
        obtain ⟨xs, hx1, hx2, hx3⟩ := ih (by omega)
        obtain ⟨f1, f2, _⟩ := hF m (by omega)
        have hmC : (m + 1) * C = m * C + C := by rw [Nat.add_mul, Nat.one_mul]
        refine ⟨xs ++ F m, by rw [List.length_append, hx1, f1, hmC], fun j u hu => ?_, fun i hi => ?_⟩
        · by_cases hj : j < xs.length
          · rw [List.getElem?_append_left hj] at hu; exact hx2 j u hu
          · rw [List.getElem?_append_right (by omega)] at hu
            have hjl : j - xs.length < C := by
              have := (List.getElem?_eq_some_iff.1 hu).1
              omega
            have := f2 _ hjl
            rw [add_add, hu] at this
            rw [show j = m * C + (j - xs.length) by omega]
            exact this
        · have hiC : i * C + C ≤ m * C ∨ i = m := by
            by_cases h : i = m
            · exact .inr h
            · left
              have : (i + 1) * C ≤ m * C := Nat.mul_le_mul_right _ (by omega)
              rw [Nat.add_mul, Nat.one_mul] at this
              exact this
          rcases hiC with h | rfl
          · have hlt : i < m := by
              by_cases hh : i < m
              · exact hh
              · have : m * C ≤ i * C := Nat.mul_le_mul_right _ (by omega)
                omega
            rw [List.drop_append_of_le_length (by omega), List.take_append_of_le_length (by rw [List.length_drop]; omega)]
            exact hx3 i hlt
          · rw [← hx1, List.drop_left, ← f1, List.take_length]
    obtain ⟨xs, hx1, hx2, hx3⟩ := all l0 (Nat.le_refl _)
    refine ⟨l0, xs, ⟨some a, c0, rfl, hlc, hx1, fun hn => ?_⟩, by omega, fun i hi => ?_⟩
    · have hCn : 0 < xs.length := by rw [hx1]; exact Nat.mul_pos hn hpos
      have h0 := hx2 0 _ (List.getElem?_eq_getElem hCn)
      have h0' : W.cell? a = some xs[0] := by simpa [Addr.add] using h0
      have hs := World.cell?_spot h0'
      obtain ⟨b, o, s⟩ := a
      simp only at hs
      subst hs
      refine ⟨b, o, rfl, World.block_lt_of_cell? W _ h0', fun j u hu => ?_⟩
      have := hx2 j u hu
      rw [add_none] at this
      exact this
    · rw [hx3 i hi]
      obtain ⟨_, _, y, hy⟩ := hF i hi
      exact ⟨n, y, hy⟩

/-- A slice of records of ints that came in: a list of numbers. -/
theorem open_recsg {t e : TypeId} {fs : Array Field} {W : World} {v : Value} {d : DataW H} {p : List MemPlace} (ht : P.underlying t = some (.slice e)) (he : P.underlying e = some (.struct fs)) (hC : P.cellsOf e = fs.size) (hpos : 0 < fs.size)
    (hfs : intFields P fs = true) (hv : ∃ A l c, v = .slice A l c) (h : DataW.Trod enc P W 0 (fun _ => true) true t v d p) :
    ∃ (n : Nat) (zs : List Int), Sl W v n fs.size (ints zs) ∧ n ≤ maxLen ∧ zs.length = n * fs.size ∧ ∀ z ∈ zs, In64 z := by
  obtain ⟨n, xs, hs, hn, hr⟩ := open_slg ht hC hpos hv h
  have hxl : xs.length = n * fs.size := by obtain ⟨_, _, _, _, hl, _⟩ := hs; exact hl
  have each : ∀ j, j < n * fs.size → ∃ z : Int, xs[j]? = some (.int .i64 z) ∧ In64 z := by
    intro j hj
    have hi : j / fs.size < n := Nat.div_lt_of_lt_mul (by rw [Nat.mul_comm]; exact hj)
    obtain ⟨m, y, hy⟩ := hr _ hi
    obtain ⟨ys, m', _, _, hlen, hyl, hf⟩ := DataW.trod_struct he hy
    have hk : j % fs.size < fs.size := Nat.mod_lt _ hpos
    obtain ⟨f, f0, f1, f2, f3⟩ := intFields_of hfs _ hk
    have h1 := hf _ f f0
    rw [f1, f2, List.getElem?_eq_getElem (by omega)] at h1
    obtain ⟨z, hz, _, hw⟩ := DataW.trod_int f3 h1
    refine ⟨z, ?_, wfb hw⟩
    have hj2 : j / fs.size * fs.size + j % fs.size = j := by rw [Nat.mul_comm]; exact Nat.div_add_mod j fs.size
    have g : (((xs.drop (j / fs.size * fs.size)).take fs.size).drop (j % fs.size)).take 1 = [Value.int .i64 z] := hz
    have g2 : ((((xs.drop (j / fs.size * fs.size)).take fs.size).drop (j % fs.size)).take 1)[0]? = some (Value.int .i64 z) := by rw [g]; rfl
    rw [List.getElem?_take, if_pos (by omega), List.getElem?_drop, List.getElem?_take, if_pos (by omega), List.getElem?_drop] at g2
    rw [← g2, show j / fs.size * fs.size + (j % fs.size + 0) = j by omega]
  have hzs : ∀ m, m ≤ n * fs.size → ∃ zs : List Int, zs.length = m ∧ xs.take m = ints zs ∧ ∀ z ∈ zs, In64 z := by
    intro m
    induction m with
    | zero => intro _; exact ⟨[], rfl, by simp [ints], fun z hz => by cases hz⟩
    | succ m ih =>
      intro hm
      obtain ⟨zs, z1, z2, z3⟩ := ih (by omega)
      obtain ⟨z, h1, h2⟩ := each m (by omega)
      refine ⟨zs ++ [z], by simp [z1], ?_, fun u hu => ?_⟩
      · rw [List.take_add_one, z2, h1, ints_append]; rfl
      · rcases List.mem_append.1 hu with hu | hu
        · exact z3 u hu
        · simp only [List.mem_cons, List.not_mem_nil, or_false] at hu
          subst hu; exact h2
  obtain ⟨zs, z1, z2, z3⟩ := hzs _ (Nat.le_refl _)
  rw [← hxl, List.take_length] at z2
  subst z2
  exact ⟨n, zs, hs, hn, z1, z3⟩

theorem weightsAll_memg {e : TypeId} : ∀ {ds : List (DataW H)} {d : DataW H}, d ∈ ds → ∀ n ∈ d.weights P e, n ∈ DataW.weightsAll P e ds
  | [], d, h, n, hn => by cases h
  | d0 :: ds, d, h, n, hn => by
    simp only [DataW.weightsAll, List.mem_append]
    rcases List.mem_cons.1 h with rfl | h
    · exact .inl hn
    · exact .inr (weightsAll_memg h n hn)
/-- A slice's reach is told of its length. -/
theorem row_weightg {W : World} {t e : TypeId} {R m n c : Nat} {A : Option Addr} {y : DataW H × List MemPlace} (ht : P.underlying t = some (.slice e)) (h : DataW.trod enc P W 0 (fun _ => true) true m t [.slice A n c] = some y) (hw : ∀ q ∈ y.1.weights P t, q ≤ R) : n * P.bytesOf e ≤ R := by
  rcases DataW.trod_slice ht h with ⟨h0, _⟩ | ⟨a, len, cap, elems, rest, k, _, h0, hx, _, _, _, hlen, _⟩
  · simp only [List.cons.injEq, Value.slice.injEq, and_true] at h0
    obtain ⟨_, rfl, _⟩ := h0
    simp
  · simp only [List.cons.injEq, Value.slice.injEq, and_true] at h0
    obtain ⟨_, rfl, _⟩ := h0
    subst hx
    have := hw ((elems.length + rest.length) * P.bytesOf e) (by simp [DataW.weights, ht])
    exact Nat.le_trans (Nat.mul_le_mul_right _ (by omega)) this
end

end Go.Proofs.Ytamhnnkmjhapmaa
