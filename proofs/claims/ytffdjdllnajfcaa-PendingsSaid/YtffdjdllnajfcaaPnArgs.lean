/-
  Layer 12's law Pendings: its acts, each with a slice of Irqs of its own.
-/
import Derived.Test.YtffdjdllnajfcaaArgs2
import Derived.Test.YtffdjdllnajfcaaPn5
namespace Go.Proofs.Ytffdjdllnajfcaa
open Go.RowKit Go.ChangeShapes Go.WideShapes Go.Deep
set_option linter.unusedVariables false
set_option maxRecDepth 100000

theorem iqs_of (n : Nat) : ∀ zs : List Int, zs.length = n * 3 → ∃ M : List Iq, ints zs = iqs M ∧ M.length = n := by
  induction n with
  | zero =>
    intro zs h
    have e : zs = [] := List.length_eq_zero_iff.1 (by simpa using h)
    subst e
    exact ⟨[], rfl, rfl⟩
  | succ n ih =>
    intro zs h
    match zs, h with
    | a :: b :: c :: zs, h =>
      obtain ⟨M, e, hl⟩ := ih zs (by simp at h; omega)
      refine ⟨⟨a, b, c⟩ :: M, ?_, by simp [hl]⟩
      rw [show iqs (⟨a, b, c⟩ :: M) = iq3 ⟨a, b, c⟩ ++ iqs M from by simp [iqs], ← e]
      rfl
    | [], h => simp at h
    | [_], h => simp at h; omega
    | [_, _], h => simp at h; omega

/-- A slice of Irqs within another datum. -/
theorem open_irqs {H : Type} {enc : TypeId × Value → H} {W : World} {m : Nat} {c : Value} {y : DataW H × List MemPlace} (h : DataW.trod enc Try.prog W 0 (fun _ => true) true m 32 [c] = some y) (hw : ∀ q ∈ y.1.weights Try.prog 32, q ≤ 140737488351232) :
    ∃ (M : List Iq) (A2 : Option Addr) (cap2 : Nat), c = .slice A2 M.length cap2 ∧ Sl W (.slice A2 M.length cap2) M.length 3 (iqs M) ∧ (A2 = none → cap2 = 0) ∧ M.length * 24 ≤ 140737488351232 := by
  have hf : ∃ A l c0, c = .slice A l c0 ∧ (A = none → c0 = 0) := by
    rcases DataW.trod_slice Try.underlying32 h with ⟨h0, _⟩ | ⟨a, len, cap, elems, rest, k, _, h0, _⟩
    · simp only [List.cons.injEq, and_true] at h0
      exact ⟨none, 0, 0, h0, fun _ => rfl⟩
    · simp only [List.cons.injEq, and_true] at h0
      exact ⟨some a, len, cap, h0, fun e => by cases e⟩
  obtain ⟨A2, n, cap2, rfl, hn⟩ := hf
  have hb := row_weightg Try.underlying32 h hw
  have e8 : Try.prog.bytesOf 50 = 24 := by kernel_rfl
  rw [e8] at hb
  obtain ⟨n', zs, hs, _, hl, _⟩ := open_recsg (P := Try.prog) (enc := enc) (v := .slice A2 n cap2) (d := y.1) (p := y.2) Try.underlying32 Try.underlying50 (by kernel_rfl) (by decide) (by kernel_rfl) ⟨_, _, _, rfl⟩ ⟨m, h⟩
  have en : n' = n := by
    obtain ⟨_, _, e, _⟩ := hs
    simp only [Value.slice.injEq] at e
    exact e.2.1.symm
  subst en
  obtain ⟨M, e, hM⟩ := iqs_of n' zs hl
  have hs3 : Sl W (.slice A2 n' cap2) n' 3 (ints zs) := hs
  rw [e] at hs3
  rw [← hM] at hs3 hb
  exact ⟨M, A2, cap2, by rw [hM], hs3, hn, hb⟩

/-- The act at place a of the slice: its five numbers, its mask. -/
def ActAt (W : World) (b o i : Nat) : Prop := ∃ (K P D V T : Int) (A2 : Option Addr) (cap2 : Nat) (M : List Iq), W.cell? ⟨b, o + i * 6, none⟩ = some (.int .i64 K) ∧ W.cell? ⟨b, o + i * 6 + 1, none⟩ = some (.int .i64 P) ∧ W.cell? ⟨b, o + i * 6 + 2, none⟩ = some (.int .i64 D) ∧ W.cell? ⟨b, o + i * 6 + 3, none⟩ = some (.int .i64 V) ∧ W.cell? ⟨b, o + i * 6 + 4, none⟩ = some (.int .i64 T) ∧ W.cell? ⟨b, o + i * 6 + 5, none⟩ = some (.slice A2 M.length cap2) ∧
  Sl W (.slice A2 M.length cap2) M.length 3 (iqs M) ∧ (A2 = none → cap2 = 0) ∧ M.length * 24 ≤ 140737488351232
/-- The acts. -/
def AL (W : World) (v : Value) : Prop := ∃ A n cap, v = .slice A n cap ∧ n ≤ maxLen ∧ (0 < n → ∃ b o, A = some ⟨b, o, none⟩ ∧ b < W.heap.size ∧ ∀ i, i < n → ActAt W b o i)

theorem open_acts12 {H : Type} {enc : TypeId × Value → H} {W : World} {v : Value} {d : DataW H} {p : List MemPlace} (hv : ∃ A l c, v = .slice A l c) (h : DataW.Trod enc Try.prog W 0 (fun _ => true) true 22 v d p) (hw : ∀ q ∈ d.weights Try.prog 22, q ≤ 140737488351232) : AL W v := by
  obtain ⟨A, n, cap, rfl⟩ := hv
  obtain ⟨fuel, hf⟩ := h
  have e1 : Try.prog.cellsOf 34 = 6 := by kernel_rfl
  rcases DataW.trod_slice Try.underlying22 hf with ⟨h0, _⟩ | ⟨a, len, cap', elems, rest, k, _, h0, hx, _, hlc, hcm, hlen, hel, _⟩
  · simp only [Value.cells, List.cons.injEq, Value.slice.injEq, and_true] at h0
    obtain ⟨rfl, rfl, rfl⟩ := h0
    exact ⟨none, 0, 0, rfl, Nat.zero_le _, fun h => absurd h (by omega)⟩
  · simp only [Value.cells, List.cons.injEq, Value.slice.injEq, and_true] at h0
    obtain ⟨rfl, rfl, rfl⟩ := h0
    simp only [Prod.mk.injEq] at hx
    obtain ⟨rfl, _⟩ := hx
    refine ⟨some a, n, cap, rfl, by omega, fun hn => ?_⟩
    have key : ∀ i, i < n → ∃ (K P D V T : Int) (A2 : Option Addr) (cap2 : Nat) (M : List Iq), W.cell? (a.add (i * 6)) = some (.int .i64 K) ∧ W.cell? ((a.add (i * 6)).add 1) = some (.int .i64 P) ∧ W.cell? ((a.add (i * 6)).add 2) = some (.int .i64 D) ∧ W.cell? ((a.add (i * 6)).add 3) = some (.int .i64 V) ∧ W.cell? ((a.add (i * 6)).add 4) = some (.int .i64 T) ∧ W.cell? ((a.add (i * 6)).add 5) = some (.slice A2 M.length cap2) ∧
        Sl W (.slice A2 M.length cap2) M.length 3 (iqs M) ∧ (A2 = none → cap2 = 0) ∧ M.length * 24 ≤ 140737488351232 := by
      intro i hi
      have h1 := hel i hi
      rw [List.getElem?_eq_getElem (by omega), e1] at h1
      obtain ⟨cs, h2, hy⟩ := Option.bind_eq_some_iff.1 h1
      obtain ⟨_, h4, h5⟩ := World.cells?_some h2
      have hmem : (elems[i]'(by omega)).1 ∈ elems.map (·.1) := List.mem_map.2 ⟨_, List.getElem_mem _, rfl⟩
      obtain ⟨K, g0, _⟩ := fld_int (P := Try.prog) Try.underlying34 hy 0 0 _ rfl rfl (by kernel_rfl) Try.underlying3
      obtain ⟨P, g1, _⟩ := fld_int (P := Try.prog) Try.underlying34 hy 1 1 _ rfl rfl (by kernel_rfl) Try.underlying3
      obtain ⟨D, g2, _⟩ := fld_int (P := Try.prog) Try.underlying34 hy 2 2 _ rfl rfl (by kernel_rfl) Try.underlying3
      obtain ⟨V, g3, _⟩ := fld_int (P := Try.prog) Try.underlying34 hy 3 3 _ rfl rfl (by kernel_rfl) Try.underlying3
      obtain ⟨T, g4, _⟩ := fld_int (P := Try.prog) Try.underlying34 hy 4 4 _ rfl rfl (by kernel_rfl) Try.underlying3
      obtain ⟨ys, m', _, hagg, _, hyl, hfl⟩ := DataW.trod_struct Try.underlying34 hy
      have hyl6 : ys.length = 6 := hyl
      have h6 := hfl 5 _ rfl
      have e32 : Try.prog.cellsOf 32 = 1 := by kernel_rfl
      rw [List.getElem?_eq_getElem (by omega)] at h6
      obtain ⟨c, hc⟩ : ∃ c, (cs.drop 5).take 1 = [c] := by
        match cs, h4 with
        | [_, _, _, _, _, c], _ => exact ⟨c, rfl⟩
      have h7 : DataW.trod enc Try.prog W 0 (fun _ => true) true m' 32 [c] = some (ys[5]'(by omega)) := by
        rw [← hc]; exact h6
      obtain ⟨M, A2, cap2, rfl, hs, hnil, h24⟩ := open_irqs h7 (fun q hq => hw q (by
        simp only [DataW.weights, Try.underlying22, List.mem_cons, List.mem_append]
        refine .inr (.inl (weightsAll_memg hmem q ?_))
        rw [hagg]
        simp only [DataW.weights, Try.underlying34]
        exact DataW.weights_mem_each (j := 5) (t := 32) (d := (ys[5]'(by omega)).1) rfl (by rw [List.getElem?_map, List.getElem?_eq_getElem (by omega)]; rfl) q hq))
      have g5 : cs[5]? = some (.slice A2 M.length cap2) := by
        have := congrArg (fun l => l[0]?) hc
        simpa [List.getElem?_take, List.getElem?_drop] using this
      refine ⟨K, P, D, V, T, A2, cap2, M, ?_, ?_, ?_, ?_, ?_, ?_, hs, hnil, h24⟩
      · have := h5 0 (by omega); rw [g0] at this; simpa [add_add] using this
      · rw [h5 1 (by omega)]; exact g1
      · rw [h5 2 (by omega)]; exact g2
      · rw [h5 3 (by omega)]; exact g3
      · rw [h5 4 (by omega)]; exact g4
      · rw [h5 5 (by omega)]; exact g5
    obtain ⟨K, P, D, V, T, A2, cap2, M, k0, _⟩ := key 0 hn
    have k0' : W.cell? a = some (.int .i64 K) := by simpa [Addr.add] using k0
    have hs := World.cell?_spot k0'
    obtain ⟨b, o, s⟩ := a
    simp only at hs
    subst hs
    refine ⟨b, o, rfl, World.block_lt_of_cell? W _ k0', fun i hi => ?_⟩
    obtain ⟨K, P, D, V, T, A2, cap2, M, q0, q1, q2, q3, q4, q5, q6⟩ := key i hi
    simp only [add_none] at q0 q1 q2 q3 q4 q5
    exact ⟨K, P, D, V, T, A2, cap2, M, q0, q1, q2, q3, q4, q5, q6⟩

end Go.Proofs.Ytffdjdllnajfcaa
