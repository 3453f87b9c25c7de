/-
  From a row's reading of its arguments to plain facts, and back: slices of flat records opened to lists of cells; arguments that read behind the call as they read before, where nothing that was there has turned. No Go function here.
-/
import Derived.Test.YtobpggpjboonfaaDoorMem
import Derived.Deep.Slices
import Derived.Deep.Fields
import Derived.ChangeSame
import Derived.WideKeyArgs
import Derived.OpenShut
namespace Go.Proofs.YtobpggpjboonfaaDoor
open Go.RowKit Go.ChangeShapes Go.WideShapes Go.Deep
set_option linter.unusedVariables false
set_option maxRecDepth 100000

section
variable {H : Type} {enc : TypeId × Value → H} {P : Program}

/-- Arguments that read so before read so behind, where what was there is as it was. -/
theorem args_stay (hl : laidOutB P = true) {W W' : World} (hb : Below W.heap.size W W') {sp : Nat → Bool} : ∀ (ts : List TypeId) (vs : List Value) (ds : List (DataW H)) (ps : List MemPlace),
    DataW.TrodAll enc P W 0 (fun _ => true) true ts vs ds ps → (∀ t ∈ ts, P.readableRec t = true ∧ t < P.types.size) → (∀ p ∈ ps, p.block < W.heap.size) → (∀ p ∈ ps, sp p.block = true) →
    DataW.TrodAll enc P W' 0 sp true ts vs ds ps := by
  intro ts
  induction ts with
  | nil =>
    intro vs ds ps h _ _ _
    obtain ⟨rfl, rfl, rfl⟩ := trodAll_nil h
    rfl
  | cons t ts ih =>
    intro vs ds ps h ht hp hs
    obtain ⟨v, vs', d, ds', p, q, rfl, rfl, rfl, h0, hr⟩ := trodAll_cons h
    obtain ⟨r1, r2⟩ := ht t (by simp)
    refine ⟨p, q, WideElems.Trod_stays hl r1 r2 h0 (fun x hx => hb.same (hp x (List.mem_append_left _ hx))) (fun x hx => hs x (List.mem_append_left _ hx)), ?_, rfl⟩
    exact ih vs' ds' q hr (fun t' h' => ht t' (List.mem_cons_of_mem _ h')) (fun x hx => hp x (List.mem_append_right _ hx)) (fun x hx => hs x (List.mem_append_right _ hx))

/-- A slice that came in, as a list of cells; each element's own reading beside it. -/
theorem open_sl {t e : TypeId} {C : Nat} {W : World} {r : Reach} {b0 : Nat} {v : Value} {d : DataW H} {p : List MemPlace} (ht : P.underlying t = some (.slice e)) (hC : P.cellsOf e = C) (hpos : 0 < C)
    (hv : Value.okWide P W r b0 t v) (h : DataW.Trod enc P W 0 (fun _ => true) true t v d p) :
    ∃ (n : Nat) (xs : List Value), Sl W v n C xs ∧ n ≤ maxLen ∧ ∀ i, i < n → ∃ (m : Nat) (y : DataW H × List MemPlace), DataW.trod enc P W 0 (fun _ => true) true m e ((xs.drop (i * C)).take C) = some y := by
  obtain ⟨A0, l0, c0, rfl⟩ := okWide_slice ht hv
  obtain ⟨fuel, hf⟩ := h
  rcases DataW.trod_slice ht hf with ⟨h0, _⟩ | ⟨a, len, cap, elems, rest, n, _, h0, _, _, hlc, hm, hlen, hel, _⟩
  · simp only [Value.cells, List.cons.injEq, Value.slice.injEq, and_true] at h0
    obtain ⟨rfl, rfl, rfl⟩ := h0
    exact ⟨0, [], ⟨none, 0, rfl, Nat.le_refl _, by simp, fun h => absurd h (by omega)⟩, by omega, fun i hi => absurd hi (by omega)⟩
  · simp only [Value.cells, List.cons.injEq, Value.slice.injEq, and_true] at h0
    obtain ⟨rfl, rfl, rfl⟩ := h0
    have key : ∀ i, i < l0 → ∃ cs : List Value, cs.length = C ∧ (∀ j, j < C → W.cell? ((a.add (i * C)).add j) = cs[j]?) ∧ ∃ (y : DataW H × List MemPlace), DataW.trod enc P W 0 (fun _ => true) true n e cs = some y := by
      intro i hi
      have := hel i hi
      rw [List.getElem?_eq_getElem (by omega), hC] at this
      obtain ⟨cs, h1, h2⟩ := Option.bind_eq_some_iff.1 this
      obtain ⟨_, h3, h4⟩ := World.cells?_some h1
      exact ⟨cs, h3, h4, _, h2⟩
    obtain ⟨F, hF⟩ := choose_lt (α := List Value) (p := fun i cs => cs.length = C ∧ (∀ j, j < C → W.cell? ((a.add (i * C)).add j) = cs[j]?) ∧ ∃ (y : DataW H × List MemPlace), DataW.trod enc P W 0 (fun _ => true) true n e cs = some y) key
    -- the list of all cells
    have all : ∀ m, m ≤ l0 → ∃ xs : List Value, xs.length = m * C ∧ (∀ j u, xs[j]? = some u → W.cell? (a.add j) = some u) ∧ ∀ i, i < m → (xs.drop (i * C)).take C = F i := by
      intro m
      induction m with
      | zero => intro _; exact ⟨[], by simp, fun j u hu => by simp at hu, fun i hi => absurd hi (by omega)⟩
      | succ m ih =>
        intro hm
        obtain ⟨xs, hx1, hx2, hx3⟩ := ih (by omega)
        obtain ⟨f1, f2, _⟩ := hF m (by omega)
        have hmC : (m + 1) * C = m * C + C := by rw [Nat.add_mul, Nat.one_mul]
        refine ⟨xs ++ F m, by rw [List.length_append, hx1, f1, hmC], fun j u hu => ?_, fun i hi => ?_⟩
        · by_cases hj : j < xs.length
          · rw [List.getElem?_append_left hj] at hu; exact hx2 j u hu
          · rw [List.getElem?_append_right (by omega)] at hu
            have hjl : j - xs.length < C := by
              have := (List.getElem?_eq_some_iff.1 hu).1
              omega
            have := f2 _ hjl
            rw [add_add, hu] at this
            rw [show j = m * C + (j - xs.length) by omega]
            exact this
        · have hiC : i * C + C ≤ m * C ∨ i = m := by
            by_cases h : i = m
            · exact .inr h
            · left
              have : (i + 1) * C ≤ m * C := Nat.mul_le_mul_right _ (by omega)
              rw [Nat.add_mul, Nat.one_mul] at this
              exact this
          rcases hiC with h | rfl
          · have hlt : i < m := by
              by_cases hh : i < m
              · exact hh
              · have : m * C ≤ i * C := Nat.mul_le_mul_right _ (by omega)
                omega
            rw [List.drop_append_of_le_length (by omega), List.take_append_of_le_length (by rw [List.length_drop]; omega)]
            exact hx3 i hlt
          · rw [← hx1, List.drop_left, ← f1, List.take_length]
    obtain ⟨xs, hx1, hx2, hx3⟩ := all l0 (Nat.le_refl _)
    refine ⟨l0, xs, ⟨some a, c0, rfl, hlc, hx1, fun hn => ?_⟩, by omega, fun i hi => ?_⟩
    · have hCn : 0 < xs.length := by rw [hx1]; exact Nat.mul_pos hn hpos
      have h0 := hx2 0 _ (List.getElem?_eq_getElem hCn)
      have h0' : W.cell? a = some xs[0] := by simpa [Addr.add] using h0
      have hs := World.cell?_spot h0'
      obtain ⟨b, o, s⟩ := a
      simp only at hs
      subst hs
      refine ⟨b, o, rfl, World.block_lt_of_cell? W _ h0', fun j u hu => ?_⟩
      have := hx2 j u hu
      rw [add_none] at this
      exact this
    · rw [hx3 i hi]
      obtain ⟨_, _, y, hy⟩ := hF i hi
      exact ⟨n, y, hy⟩

/-- All fields are ints of one cell each, in a row. -/
def intFields (P : Program) (fs : Array Field) : Bool := (List.range fs.size).all fun i => match fs[i]? with
  | some f => f.offset == i && P.cellsOf f.type == 1 && (match P.underlying f.type with | some (.int .i64) => true | _ => false)
  | none => false
theorem intFields_of {fs : Array Field} (h : intFields P fs = true) (i : Nat) (hi : i < fs.size) : ∃ f, fs[i]? = some f ∧ f.offset = i ∧ P.cellsOf f.type = 1 ∧ P.underlying f.type = some (.int .i64) := by
  have h0 := List.all_eq_true.1 h i (by simpa using hi)
  rw [Array.getElem?_eq_getElem hi] at h0 ⊢
  simp only [Bool.and_eq_true, beq_iff_eq] at h0
  refine ⟨_, rfl, h0.1.1, h0.1.2, ?_⟩
  have h2 := h0.2
  split at h2
  · assumption
  · cases h2

/-- What is said of an int's range. -/
def In64 (z : Int) : Prop := -9223372036854775808 ≤ z ∧ z ≤ 9223372036854775807

/-- A slice of records of ints that came in: a list of numbers. -/
theorem open_recs {t e : TypeId} {fs : Array Field} {W : World} {r : Reach} {b0 : Nat} {v : Value} {d : DataW H} {p : List MemPlace} (ht : P.underlying t = some (.slice e)) (he : P.underlying e = some (.struct fs)) (hC : P.cellsOf e = fs.size) (hpos : 0 < fs.size)
    (hfs : intFields P fs = true) (hv : Value.okWide P W r b0 t v) (h : DataW.Trod enc P W 0 (fun _ => true) true t v d p) :
    ∃ (n : Nat) (zs : List Int), Sl W v n fs.size (ints zs) ∧ n ≤ maxLen ∧ zs.length = n * fs.size ∧ ∀ z ∈ zs, In64 z := by
  obtain ⟨n, xs, hs, hn, hr⟩ := open_sl ht hC hpos hv h
  have hxl : xs.length = n * fs.size := by obtain ⟨_, _, _, _, hl, _⟩ := hs; exact hl
  have each : ∀ j, j < n * fs.size → ∃ z : Int, xs[j]? = some (.int .i64 z) ∧ In64 z := by
    intro j hj
    have hi : j / fs.size < n := Nat.div_lt_of_lt_mul (by rw [Nat.mul_comm]; exact hj)
    obtain ⟨m, y, hy⟩ := hr _ hi
    obtain ⟨ys, m', _, _, hlen, hyl, hf⟩ := DataW.trod_struct he hy
    have hk : j % fs.size < fs.size := Nat.mod_lt _ hpos
    obtain ⟨f, f0, f1, f2, f3⟩ := intFields_of hfs _ hk
    have h1 := hf _ f f0
    rw [f1, f2, List.getElem?_eq_getElem (by omega)] at h1
    obtain ⟨z, hz, _, hw⟩ := DataW.trod_int f3 h1
    refine ⟨z, ?_, wfb hw⟩
    have hj2 : j / fs.size * fs.size + j % fs.size = j := by rw [Nat.mul_comm]; exact Nat.div_add_mod j fs.size
    have g : (((xs.drop (j / fs.size * fs.size)).take fs.size).drop (j % fs.size)).take 1 = [Value.int .i64 z] := hz
    have g2 : ((((xs.drop (j / fs.size * fs.size)).take fs.size).drop (j % fs.size)).take 1)[0]? = some (Value.int .i64 z) := by rw [g]; rfl
    rw [List.getElem?_take, if_pos (by omega), List.getElem?_drop, List.getElem?_take, if_pos (by omega), List.getElem?_drop] at g2
    rw [← g2, show j / fs.size * fs.size + (j % fs.size + 0) = j by omega]
  have hzs : ∀ m, m ≤ n * fs.size → ∃ zs : List Int, zs.length = m ∧ xs.take m = ints zs ∧ ∀ z ∈ zs, In64 z := by
    intro m
    induction m with
    | zero => intro _; exact ⟨[], rfl, by simp [ints], fun z hz => by cases hz⟩
    | succ m ih =>
      intro hm
      obtain ⟨zs, z1, z2, z3⟩ := ih (by omega)
      obtain ⟨z, h1, h2⟩ := each m (by omega)
      refine ⟨zs ++ [z], by simp [z1], ?_, fun u hu => ?_⟩
      · rw [List.take_add_one, z2, h1, ints_append]; rfl
      · rcases List.mem_append.1 hu with hu | hu
        · exact z3 u hu
        · simp only [List.mem_cons, List.not_mem_nil, or_false] at hu
          subst hu; exact h2
  obtain ⟨zs, z1, z2, z3⟩ := hzs _ (Nat.le_refl _)
  rw [← hxl, List.take_length] at z2
  subst z2
  exact ⟨n, zs, hs, hn, z1, z3⟩

/-- A slice of ints that came in. -/
theorem open_intsl {t e : TypeId} {W : World} {r : Reach} {b0 : Nat} {v : Value} {d : DataW H} {p : List MemPlace} (ht : P.underlying t = some (.slice e)) (he : P.underlying e = some (.int .i64)) (hC : P.cellsOf e = 1)
    (hv : Value.okWide P W r b0 t v) (h : DataW.Trod enc P W 0 (fun _ => true) true t v d p) :
    ∃ (n : Nat) (zs : List Int), Sl W v n 1 (ints zs) ∧ n ≤ maxLen ∧ zs.length = n ∧ ∀ z ∈ zs, In64 z := by
  obtain ⟨n, xs, hs, hn, hr⟩ := open_sl ht hC (by omega) hv h
  have hxl : xs.length = n * 1 := by obtain ⟨_, _, _, _, hl, _⟩ := hs; exact hl
  have each : ∀ j, j < n → ∃ z : Int, xs[j]? = some (.int .i64 z) ∧ In64 z := by
    intro j hj
    obtain ⟨m, y, hy⟩ := hr _ hj
    obtain ⟨z, hz, _, hw⟩ := DataW.trod_int he hy
    refine ⟨z, ?_, wfb hw⟩
    have g2 : ((xs.drop (j * 1)).take 1)[0]? = some (Value.int .i64 z) := by rw [hz]; rfl
    rw [List.getElem?_take, if_pos (by omega), List.getElem?_drop] at g2
    rw [← g2, show j * 1 + 0 = j by omega]
  have hzs : ∀ m, m ≤ n → ∃ zs : List Int, zs.length = m ∧ xs.take m = ints zs ∧ ∀ z ∈ zs, In64 z := by
    intro m
    induction m with
    | zero => intro _; exact ⟨[], rfl, by simp [ints], fun z hz => by cases hz⟩
    | succ m ih =>
      intro hm
      obtain ⟨zs, z1, z2, z3⟩ := ih (by omega)
      obtain ⟨z, h1, h2⟩ := each m (by omega)
      refine ⟨zs ++ [z], by simp [z1], ?_, fun u hu => ?_⟩
      · rw [List.take_add_one, z2, h1, ints_append]; rfl
      · rcases List.mem_append.1 hu with hu | hu
        · exact z3 u hu
        · simp only [List.mem_cons, List.not_mem_nil, or_false] at hu
          subst hu; exact h2
  obtain ⟨zs, z1, z2, z3⟩ := hzs _ (Nat.le_refl _)
  rw [show n = xs.length by omega, List.take_length] at z2
  subst z2
  exact ⟨n, zs, hs, hn, z1, z3⟩
/-- A field of one cell that is an int, out of a struct's cells. -/
theorem fld_int {W : World} {e : TypeId} {fs : Array Field} {m : Nat} {cs : List Value} {y : DataW H × List MemPlace} (he : P.underlying e = some (.struct fs)) (hy : DataW.trod enc P W 0 (fun _ => true) true m e cs = some y)
    (k o : Nat) (f : Field) (hk : fs[k]? = some f) (ho : f.offset = o) (hc : P.cellsOf f.type = 1) (hu : P.underlying f.type = some (.int .i64)) : ∃ z : Int, cs[o]? = some (.int .i64 z) ∧ In64 z := by
  obtain ⟨ys, m', _, _, hlen, hyl, hf⟩ := DataW.trod_struct he hy
  have hkl : k < ys.length := by rw [hyl]; exact (Array.getElem?_eq_some_iff.1 hk).1
  have h1 := hf _ f hk
  rw [ho, hc, List.getElem?_eq_getElem hkl] at h1
  obtain ⟨z, hz, _, hw⟩ := DataW.trod_int hu h1
  refine ⟨z, ?_, wfb hw⟩
  have g : ((cs.drop o).take 1)[0]? = some (Value.int .i64 z) := by rw [hz]; rfl
  rw [List.getElem?_take, if_pos (by omega), List.getElem?_drop] at g
  exact g
/-- .. a string. -/
theorem fld_str {W : World} {e : TypeId} {fs : Array Field} {m : Nat} {cs : List Value} {y : DataW H × List MemPlace} (he : P.underlying e = some (.struct fs)) (hy : DataW.trod enc P W 0 (fun _ => true) true m e cs = some y)
    (k o : Nat) (f : Field) (hk : fs[k]? = some f) (ho : f.offset = o) (hc : P.cellsOf f.type = 1) (hu : P.underlying f.type = some .string) : ∃ s : ByteArray, cs[o]? = some (.string s) ∧ s.size ≤ maxLen := by
  obtain ⟨ys, m', _, _, hlen, hyl, hf⟩ := DataW.trod_struct he hy
  have hkl : k < ys.length := by rw [hyl]; exact (Array.getElem?_eq_some_iff.1 hk).1
  have h1 := hf _ f hk
  rw [ho, hc, List.getElem?_eq_getElem hkl] at h1
  obtain ⟨s, hz, _, hw⟩ := DataW.trod_string hu h1
  refine ⟨s, ?_, hw⟩
  have g : ((cs.drop o).take 1)[0]? = some (Value.string s) := by rw [hz]; rfl
  rw [List.getElem?_take, if_pos (by omega), List.getElem?_drop] at g
  exact g
/-- .. a struct: its own cells read. -/
theorem fld_sub {W : World} {e : TypeId} {fs : Array Field} {m : Nat} {cs : List Value} {y : DataW H × List MemPlace} (he : P.underlying e = some (.struct fs)) (hy : DataW.trod enc P W 0 (fun _ => true) true m e cs = some y)
    (k o C : Nat) (f : Field) (hk : fs[k]? = some f) (ho : f.offset = o) (hc : P.cellsOf f.type = C) : ∃ m' y', DataW.trod enc P W 0 (fun _ => true) true m' f.type ((cs.drop o).take C) = some y' := by
  obtain ⟨ys, m', _, _, hlen, hyl, hf⟩ := DataW.trod_struct he hy
  have hkl : k < ys.length := by rw [hyl]; exact (Array.getElem?_eq_some_iff.1 hk).1
  have h1 := hf _ f hk
  rw [ho, hc, List.getElem?_eq_getElem hkl] at h1
  exact ⟨_, _, h1⟩
/-- A list of cells that are all ints. -/
theorem ints_of {cs : List Value} (each : ∀ j, j < cs.length → ∃ z : Int, cs[j]? = some (.int .i64 z) ∧ In64 z) : ∃ zs : List Int, cs = ints zs ∧ ∀ z ∈ zs, In64 z := by
  have hzs : ∀ m, m ≤ cs.length → ∃ zs : List Int, zs.length = m ∧ cs.take m = ints zs ∧ ∀ z ∈ zs, In64 z := by
    intro m
    induction m with
    | zero => intro _; exact ⟨[], rfl, by simp [ints], fun z hz => by cases hz⟩
    | succ m ih =>
      intro hm
      obtain ⟨zs, z1, z2, z3⟩ := ih (by omega)
      obtain ⟨z, h1, h2⟩ := each m (by omega)
      refine ⟨zs ++ [z], by simp [z1], ?_, fun u hu => ?_⟩
      · rw [List.take_add_one, z2, h1, ints_append]; rfl
      · rcases List.mem_append.1 hu with hu | hu
        · exact z3 u hu
        · simp only [List.mem_cons, List.not_mem_nil, or_false] at hu
          subst hu; exact h2
  obtain ⟨zs, z1, z2, z3⟩ := hzs _ (Nat.le_refl _)
  rw [List.take_length] at z2
  exact ⟨zs, z2, z3⟩

/-- A record of ints by value. -/
theorem open_rec {t : TypeId} {fs : Array Field} {W : World} {r : Reach} {b0 : Nat} {v : Value} {d : DataW H} {p : List MemPlace} (he : P.underlying t = some (.struct fs)) (hC : P.cellsOf t = fs.size)
    (hfs : intFields P fs = true) (hv : Value.okWide P W r b0 t v) (h : DataW.Trod enc P W 0 (fun _ => true) true t v d p) :
    ∃ zs : List Int, v = .agg (ints zs).toArray ∧ zs.length = fs.size ∧ ∀ z ∈ zs, In64 z := by
  obtain ⟨cs, rfl, hsz⟩ := okWide_struct he hv
  obtain ⟨fuel, hf⟩ := h
  have hl : cs.toList.length = fs.size := by rw [Array.length_toList, hsz, hC]
  obtain ⟨zs, h1, h2⟩ := ints_of (cs := cs.toList) (fun j hj => by
    obtain ⟨f, f0, f1, f2, f3⟩ := intFields_of hfs j (by omega)
    exact fld_int he hf j j f f0 f1 f2 f3)
  refine ⟨zs, ?_, ?_, h2⟩
  · rw [← h1]
  · rw [← hl, h1, ints_len]
theorem list2 {zs : List Int} (h : zs.length = 2) : ∃ x y, zs = [x, y] := by
  match zs, h with
  | [x, y], _ => exact ⟨x, y, rfl⟩
theorem list3 {zs : List Int} (h : zs.length = 3) : ∃ x y z, zs = [x, y, z] := by
  match zs, h with
  | [x, y, z], _ => exact ⟨x, y, z, rfl⟩
theorem list4 {zs : List Int} (h : zs.length = 4) : ∃ x y z u, zs = [x, y, z, u] := by
  match zs, h with
  | [x, y, z, u], _ => exact ⟨x, y, z, u, rfl⟩
theorem list5 {zs : List Int} (h : zs.length = 5) : ∃ x y z u v, zs = [x, y, z, u, v] := by
  match zs, h with
  | [x, y, z, u, v], _ => exact ⟨x, y, z, u, v, rfl⟩
end

/-- The k-th number of a list of ranges. -/
theorem in64_getD (zs : List Int) (h : ∀ z ∈ zs, In64 z) (k : Nat) (hk : k < zs.length) : -9223372036854775808 ≤ zs.getD k 0 ∧ zs.getD k 0 ≤ 9223372036854775807 := by
  simp only [List.getD, List.getElem?_eq_getElem hk, Option.getD_some]
  exact h _ (List.getElem_mem hk)

/-- A cell of the i-th element. -/
theorem elem_at (xs : List Value) (i C o : Nat) (h : o < C) : ((xs.drop (i * C)).take C)[o]? = xs[i * C + o]? := by
  rw [List.getElem?_take, if_pos h, List.getElem?_drop]

end Go.Proofs.YtobpggpjboonfaaDoor
