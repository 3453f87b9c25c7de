/-
  Plain words on memory for layer 7: what a call of two blocks turns (Tn), a slice of slices of ints (PL). No Go function here.
-/
import Derived.Test.YtggdbiniklchoaaMem
namespace Go.Proofs.Ytggdbiniklchoaa
open Go.RowKit
set_option linter.unusedVariables false
set_option maxRecDepth 100000

/-- Nothing has turned but blocks g and t, and what is new. -/
structure Tn (g t : Nat) (w w' : World) : Prop where
  os : w'.os = w.os
  tape : w'.tape = w.tape
  output : w'.output = w.output
  size : w.heap.size ≤ w'.heap.size
  block : ∀ k, k < w.heap.size → k ≠ g → k ≠ t → w'.heap[k]? = w.heap[k]?

section
variable {g t : Nat} {a b c : World}
theorem Tn.refl (g t : Nat) (w : World) : Tn g t w w := ⟨rfl, rfl, rfl, Nat.le_refl _, fun _ _ _ _ => rfl⟩
theorem Tn.of (h : Below a.heap.size a b) (g t : Nat) : Tn g t a b := ⟨h.os, h.tape, h.output, h.size, fun i hi _ _ => h.block i hi⟩
theorem Tn.trans (h : Tn g t a b) (k : Tn g t b c) : Tn g t a c :=
  ⟨k.os.trans h.os, k.tape.trans h.tape, k.output.trans h.output, Nat.le_trans h.size k.size, fun i hi hn hw => (k.block i (Nat.lt_of_lt_of_le hi h.size) hn hw).trans (h.block i hi hn hw)⟩
theorem Tn.far (h : Tn g t a b) (k : Below b.heap.size b c) : Tn g t a c := h.trans (Tn.of k g t)
theorem Tn.fst (h : Tn g t a b) (k : b.grownBy c (some g)) : Tn g t a c :=
  ⟨k.os.trans h.os, k.tape.trans h.tape, k.output.trans h.output, Nat.le_trans h.size k.size, fun i hi hn hw => (k.block i (Nat.lt_of_lt_of_le hi h.size) (fun e => hn (by injection e))).trans (h.block i hi hn hw)⟩
theorem Tn.snd (h : Tn g t a b) (k : b.grownBy c (some t)) : Tn g t a c :=
  ⟨k.os.trans h.os, k.tape.trans h.tape, k.output.trans h.output, Nat.le_trans h.size k.size, fun i hi hn hw => (k.block i (Nat.lt_of_lt_of_le hi h.size) (fun e => hw (by injection e))).trans (h.block i hi hn hw)⟩
theorem Tn.blk {i : Nat} {T : TypeId} {cs : List Value} (h : Tn g t a b) (hg : Blk a i T cs) (h2 : i ≠ g) (h3 : i ≠ t) : Blk b i T cs := (h.block i hg.lt h2 h3).trans hg
theorem Tn.below {N : Nat} (h : Tn g t b c) (hb : Below N a b) (hN : N ≤ b.heap.size) (h2 : N ≤ g) (h3 : N ≤ t) : Below N a c :=
  ⟨h.os.trans hb.os, h.tape.trans hb.tape, h.output.trans hb.output, Nat.le_trans hb.size h.size, fun k hk => (h.block k (by omega) (by omega) (by omega)).trans (hb.block k hk)⟩
theorem Tn.drewN (h : Tn g t a b) (n : Nat) : Tn g t a (b.drewN n) := ⟨h.os, h.tape, h.output, h.size, h.block⟩
end

/-- A row's cells stay where its block stays. -/
theorem own_stay {w w' : World} {base : Nat} {e : TypeId} {size : Nat} {v : Value} {n : Nat} {xs : List Value} (h : w.ownsRow base e size v n xs) (hk : ∀ k cs, Blk w k e cs → w'.heap[k]? = w.heap[k]?) : w'.ownsRow base e size v n xs := by
  refine ⟨h.1, ?_⟩
  rcases h.2 with h2 | ⟨g, cap, cur, hv, hb, hg, h3⟩
  · exact .inl h2
  · exact .inr ⟨g, cap, cur, hv, hb, (hk g cur.toList (by unfold Blk; rw [hg])).trans hg, h3⟩

/-- A slice of slices of ints, all among the blocks from B on. -/
def PL (w : World) (B : Nat) (v : Value) (ps : List (List Int)) : Prop :=
  ∃ vs : List Value, w.ownsRow B 35 1 v ps.length vs ∧ ∀ i, i < ps.length → ∃ u, vs[i]? = some u ∧ w.ownsRow B 3 1 u (ps.getD i []).length (ints (ps.getD i []))

section
variable {w w' : World} {B : Nat} {v : Value} {ps : List (List Int)}
theorem PL.stay (h : PL w B v ps) (hk : ∀ k T cs, (T = 35 ∨ T = 3) → Blk w k T cs → w'.heap[k]? = w.heap[k]?) : PL w' B v ps := by
  obtain ⟨vs, h1, h2⟩ := h
  refine ⟨vs, own_stay h1 (fun k cs => hk k _ cs (.inl rfl)), fun i hi => ?_⟩
  obtain ⟨u, e, hu⟩ := h2 i hi
  exact ⟨u, e, own_stay hu (fun k cs => hk k _ cs (.inr rfl))⟩
theorem PL.drewN (h : PL w B v ps) (n : Nat) : PL (w.drewN n) B v ps := h
theorem PL.below {N : Nat} (h : PL w B v ps) (hb : Below N w w') (hN : w.heap.size ≤ N) : PL w' B v ps := h.stay (fun k T cs _ hc => hb.block k (Nat.lt_of_lt_of_le hc.lt hN))
theorem PL.alloc (h : PL w B v ps) (o : Obj) : PL (w.alloc o) B v ps := h.stay (fun k T cs _ hc => Below.heap_alloc w o k hc.lt)
/-- Blocks of other types turn. -/
theorem PL.tn {g t : Nat} {T1 T2 : TypeId} {c1 c2 : List Value} (h : PL w B v ps) (f : Tn g t w w') (h1 : Blk w g T1 c1) (h2 : Blk w t T2 c2) (n1 : T1 ≠ 35 ∧ T1 ≠ 3) (n2 : T2 ≠ 35 ∧ T2 ≠ 3) : PL w' B v ps :=
  h.stay (fun k T cs hT hc => f.block k hc.lt (by
    apply hc.apart h1
    rcases hT with rfl | rfl
    · exact fun e => n1.1 e.symm
    · exact fun e => n1.2 e.symm) (by
    apply hc.apart h2
    rcases hT with rfl | rfl
    · exact fun e => n2.1 e.symm
    · exact fun e => n2.2 e.symm))
theorem PL.grown {g : Nat} {T1 : TypeId} {c1 : List Value} (h : PL w B v ps) (f : w.grownBy w' (some g)) (h1 : Blk w g T1 c1) (n1 : T1 ≠ 35 ∧ T1 ≠ 3) : PL w' B v ps :=
  h.tn ((Tn.refl g g w).fst f) h1 h1 n1 n1
/-- What it reads as. -/
theorem PL.slice (h : PL w B v ps) (h0 : 0 < ps.length) : ∃ b cap, v = .slice (some ⟨b, 0, none⟩) ps.length cap ∧ B ≤ b ∧ b < w.heap.size ∧ ∀ i, i < ps.length → 0 < (ps.getD i []).length → ∃ q c, w.cell? ⟨b, i, none⟩ = some (.slice (some ⟨q, 0, none⟩) (ps.getD i []).length c) ∧ B ≤ q ∧ q < w.heap.size ∧ (ps.getD i []).length ≤ c ∧ ∀ j, j < (ps.getD i []).length → w.cell? ⟨q, j, none⟩ = some (.int .i64 ((ps.getD i []).getD j 0)) := by
  obtain ⟨vs, ⟨hl, ⟨_, hn⟩ | ⟨b, cap, cur, rfl, hb, hg, hnc, _, hsz, ht⟩⟩, h2⟩ := h
  · omega
  · have hcell : ∀ i, i < ps.length → w.cell? ⟨b, i, none⟩ = vs[i]? := by
      intro i hi
      rw [cell_of_row w b i cur _ (0, 0) hg, ← ht, List.getElem?_take, if_pos (by omega)]
      simp
    refine ⟨b, cap, rfl, hb, (Array.getElem?_eq_some_iff.1 hg).1, fun i hi hp => ?_⟩
    obtain ⟨u, e, hu1, ⟨_, hn⟩ | ⟨q, c, cur', rfl, hq, hg', hnc', _, hsz', ht'⟩⟩ := h2 i hi
    · omega
    · refine ⟨q, c, by rw [hcell i hi, e], hq, (Array.getElem?_eq_some_iff.1 hg').1, hnc', fun j hj => ?_⟩
      rw [cell_of_row w q j cur' _ (0, 0) hg', ← ints_get _ j hj, ← ht', List.getElem?_take, if_pos (by omega)]
      simp
end

end Go.Proofs.Ytggdbiniklchoaa
