/-
  What the proofs lean on: contracts of the program's functions, plain facts.
-/
import Derived.WalkKit
import Derived.Lib.Hide
import Derived.Deep.QuietTactic
import Derived.BigQuiet
import Derived.Laws.CopyRow
import Derived.Laws.AppendOwnNone
import Derived.Test.YtkaalinoiilmoaaChecked
import Derived.Deep.RegionHeld3
import Derived.BigRegion
import Derived.Deep.DeepCutAuto
import Derived.Deep.Slices
namespace Go.Proofs.Ytkaalinoiilmoaa
open Go.RowKit
def pv (p : Nat × Nat × Nat) : List Value := [.int .i64 p.1, .int .i64 p.2.1, .int .i64 p.2.2]
theorem own_below {w w' : World} {base : Nat} {e : TypeId} {size : Nat} {v : Value} {n : Nat} {xs : List Value} (h : w.ownsRow base e size v n xs) (hb : Below w.heap.size w w') : w'.ownsRow base e size v n xs :=
  h.kept (row := none) ⟨hb.os, hb.tape, hb.output, hb.size, fun k hk _ => hb.block k hk⟩ (by cases hv : v.ownBlock <;> simp)
theorem add_none (b o j : Nat) : (⟨b, o, none⟩ : Addr).add j = ⟨b, o + j, none⟩ := by unfold Addr.add; split <;> simp_all
theorem row_new (w : World) (cs : List Value) (t : TypeId) : ∀ j u, cs[j]? = some u → (w.alloc (.cells cs.toArray t)).cell? ((⟨w.heap.size, 0, none⟩ : Addr).add j) = some u := by
  intro j u hj
  rw [add_none, cell_of_row (w.alloc (.cells cs.toArray t)) w.heap.size (0 + j) cs.toArray t (0, 0) (heap_alloc_new w _)]
  simpa using hj
theorem bdrewN {B : Nat} {a w : World} (h : Below B a w) (n : Nat) : Below B a (w.drewN n) := ⟨h.os, h.tape, h.output, h.size, h.block⟩
theorem grefl (w : World) (row : Option Nat) : w.grownBy w row := ⟨rfl, rfl, rfl, Nat.le_refl _, fun _ _ _ => rfl⟩
theorem gtrans {a b c : World} {row : Option Nat} (h : a.grownBy b row) (k : b.grownBy c row) : a.grownBy c row :=
  ⟨k.os.trans h.os, k.tape.trans h.tape, k.output.trans h.output, Nat.le_trans h.size k.size, fun i hi hn => (k.block i (Nat.lt_of_lt_of_le hi h.size) hn).trans (h.block i hi hn)⟩
theorem Below.down {B : Nat} {a b c : World} (h : Below B a b) (k : Below b.heap.size b c) (hB : B ≤ b.heap.size) : Below B a c := h.trans (k.mono hB)
theorem wfb {a : Int} (h : (Lit.int .i64 a).wf = true) : -9223372036854775808 ≤ a ∧ a ≤ 9223372036854775807 := by
  simp only [Lit.wf, Bool.and_eq_true, decide_eq_true_eq] at h
  exact h
end Go.Proofs.Ytkaalinoiilmoaa
namespace Go.Proofs.Ytkaalinoiilmoaa
open Go.RowKit
set_option linter.unusedVariables false
set_option maxRecDepth 100000
def Blk (w : World) (g : Nat) (t : TypeId) (cs : List Value) : Prop := w.heap[g]? = some (.cells cs.toArray t (0, 0))
section
variable {w w' : World} {g : Nat} {t : TypeId} {cs : List Value}
theorem Blk.lt (h : Blk w g t cs) : g < w.heap.size := (Array.getElem?_eq_some_iff.1 h).1
theorem Blk.cell (h : Blk w g t cs) (i : Nat) : w.cell? ⟨g, i, none⟩ = cs[i]? := by
  rw [cell_of_row w g i cs.toArray t (0, 0) h]; simp
theorem Blk.frozen (h : Blk w g t cs) (i : Nat) : w.frozen? ⟨g, i, none⟩ = false := by
  have h' : w.heap[g]? = some (.cells cs.toArray t (0, 0)) := h
  simp [World.frozen?, h']
theorem Blk.new (w : World) (t : TypeId) (cs : List Value) : Blk (w.alloc (.cells cs.toArray t)) w.heap.size t cs := heap_alloc_new w _
theorem Blk.drewN (h : Blk w g t cs) (n : Nat) : Blk (w.drewN n) g t cs := h
theorem Blk.alloc (h : Blk w g t cs) (o : Obj) : Blk (w.alloc o) g t cs := (Below.heap_alloc w o g h.lt).trans h
theorem Blk.set (h : Blk w g t cs) (i : Nat) (u : Value) : Blk (w.setCell ⟨g, i, none⟩ u) g t (cs.set i u) := by
  have h' : w.heap[g]? = some (.cells cs.toArray t (0, 0)) := h
  unfold Blk
  simp [World.setCell, Array.getElem?_modify, h']
theorem Blk.far (h : Blk w g t cs) {p : Addr} (hp : g ≠ p.block) (u : Value) : Blk (w.setCell p u) g t cs := (Below.heap_setCell w p u g hp).trans h
theorem Blk.below {B : Nat} (h : Blk w g t cs) (hb : Below B w w') (hg : g < B) : Blk w' g t cs := (hb.block g hg).trans h
theorem Blk.grown {row : Option Nat} (h : Blk w g t cs) (hb : w.grownBy w' row) (hg : some g ≠ row) : Blk w' g t cs := (hb.block g h.lt hg).trans h
theorem Blk.apart {g' : Nat} {t' : TypeId} {cs' : List Value} (h : Blk w g t cs) (h' : Blk w g' t' cs') (hne : t ≠ t') : g ≠ g' := by
  intro e; subst e
  have h1 : w.heap[g]? = some (.cells cs.toArray t (0, 0)) := h
  have h2 : w.heap[g]? = some (.cells cs'.toArray t' (0, 0)) := h'
  rw [h1] at h2
  simp only [Option.some.injEq, Obj.cells.injEq] at h2
  exact hne h2.2.1
end
theorem gset {a w : World} {g : Nat} (h : a.grownBy w (some g)) {p : Addr} (hp : p.block = g ∨ a.heap.size ≤ p.block) (u : Value) : a.grownBy (w.setCell p u) (some g) :=
  ⟨h.os, h.tape, h.output, by simpa [World.setCell] using h.size, fun i hi hne => (Below.heap_setCell w p u i (by
    intro e; subst e
    rcases hp with hp | hp
    · exact hne (by rw [hp])
    · omega)).trans (h.block i hi hne)⟩
theorem gof {a w : World} (h : Below a.heap.size a w) (row : Option Nat) : a.grownBy w row := ⟨h.os, h.tape, h.output, h.size, fun i hi _ => h.block i hi⟩
theorem gone {w : World} {g i : Nat} (u : Value) : w.grownBy (w.setCell ⟨g, i, none⟩ u) (some g) := gset (grefl w _) (.inl rfl) u
theorem Blk.row {w : World} {g : Nat} {t : TypeId} {cs : List Value} (h : Blk w g t cs) (cs' : List Value) : Blk (w.setRow g cs'.toArray) g t cs' := setRow_heap w g _ _ t (0, 0) h
def Sl (w : World) (v : Value) (n size : Nat) (xs : List Value) : Prop :=
  ∃ A cap, v = .slice A n cap ∧ n ≤ cap ∧ xs.length = n * size ∧ (0 < n → ∃ b o, A = some ⟨b, o, none⟩ ∧ b < w.heap.size ∧ ∀ j u, xs[j]? = some u → w.cell? ⟨b, o + j, none⟩ = some u)
theorem Sl.drewN {w : World} {v : Value} {n size : Nat} {xs : List Value} (h : Sl w v n size xs) (k : Nat) : Sl (w.drewN k) v n size xs := h
theorem Sl.below {w w' : World} {v : Value} {n size : Nat} {xs : List Value} (h : Sl w v n size xs) (hb : Below w.heap.size w w') : Sl w' v n size xs := by
  obtain ⟨A, c, rfl, hc, hl, hA⟩ := h
  refine ⟨A, c, rfl, hc, hl, fun hn => ?_⟩
  obtain ⟨b, o, rfl, hlt, hcell⟩ := hA hn
  exact ⟨b, o, rfl, Nat.lt_of_lt_of_le hlt hb.size, fun j u hu => (hb.cell (p := ⟨b, o + j, none⟩) hlt).trans (hcell j u hu)⟩
theorem Sl.own {w : World} {v : Value} {base n size : Nat} {e : TypeId} {xs : List Value} (h : w.ownsRow base e size v n xs) : Sl w v n size xs := by
  obtain ⟨hl, ⟨rfl, rfl⟩ | ⟨g, cap, cur, rfl, hb, hg, hnc, _, hsz, ht⟩⟩ := h
  · exact ⟨none, 0, rfl, Nat.le_refl _, hl, fun h => absurd h (by omega)⟩
  · refine ⟨_, cap, rfl, hnc, hl, fun _ => ⟨g, 0, rfl, ?_, fun j u hu => ?_⟩⟩
    · rcases Nat.lt_or_ge g w.heap.size with h | h
      · exact h
      · rw [Array.getElem?_eq_none h] at hg; cases hg
    · rw [cell_of_row w g (0 + j) cur e (0, 0) hg, ← ht] at *
      rw [List.getElem?_take] at hu
      split at hu
      · simpa using hu
      · cases hu
def ints (l : List Int) : List Value := l.map (Value.int .i64)
theorem ints_len (l : List Int) : (ints l).length = l.length := by simp [ints]
theorem ints_get (l : List Int) (k : Nat) (h : k < l.length) : (ints l)[k]? = some (.int .i64 (l.getD k 0)) := by
  simp [ints, List.getD, List.getElem?_eq_getElem h]
theorem ints_append (l m : List Int) : ints (l ++ m) = ints l ++ ints m := by simp [ints]
theorem ints_set (l : List Int) (k : Nat) (x : Int) : (ints l).set k (.int .i64 x) = ints (l.set k x) := by simp [ints, List.map_set]
section
variable {w : World} {h : Nat} {t : TypeId} {q : List Int}
theorem Blk.int (hb : Blk w h t (ints q)) {k : Nat} (hk : k < q.length) : w.cell? ⟨h, k, none⟩ = some (.int .i64 (q.getD k 0)) := by rw [hb.cell, ints_get q k hk]
end
end Go.Proofs.Ytkaalinoiilmoaa
namespace Go.Proofs.Ytkaalinoiilmoaa
open Go.RowKit
set_option linter.unusedVariables false
set_option maxRecDepth 100000
def bitc (F : Nat → Bool) (N : Nat) : List Value := (List.range N).map (fun i => .bool (F i))
theorem bitc_len (F : Nat → Bool) (N : Nat) : (bitc F N).length = N := by simp [bitc]
theorem bitc_get (F : Nat → Bool) (N i : Nat) (h : i < N) : (bitc F N)[i]? = some (.bool (F i)) := by
  simp [bitc, List.getElem?_map, List.getElem?_range h]
def bitF (F : Nat → Bool) (k : Nat) (b : Bool) : Nat → Bool := fun i => if i = k then b else F i
theorem bitc_set (F : Nat → Bool) (N k : Nat) (b : Bool) : (bitc F N).set k (.bool b) = bitc (bitF F k b) N := by
  apply List.ext_getElem?
  intro i
  rw [List.getElem?_set]
  by_cases h : i < N
  · rw [bitc_get _ _ _ h, bitc_get _ _ _ h, bitc_len]
    unfold bitF
    by_cases e : k = i
    · subst e; simp [h]
    · rw [if_neg e, if_neg (fun e' => e e'.symm)]
  · rw [List.getElem?_eq_none (by rw [bitc_len]; omega), List.getElem?_eq_none (by rw [bitc_len]; omega), bitc_len]
    by_cases e : k = i
    · subst e; simp [h]
    · rw [if_neg e]
def noB : Nat → Bool := fun _ => false
theorem bitF_here (F : Nat → Bool) (k : Nat) (b : Bool) : bitF F k b k = b := by unfold bitF; rw [if_pos rfl]
end Go.Proofs.Ytkaalinoiilmoaa
namespace Go.Proofs.Ytkaalinoiilmoaa
open Go.RowKit
set_option linter.unusedVariables false
set_option maxRecDepth 100000
def pre (l : List (Nat × Nat × Nat)) (i : Nat) : Nat := ((l.take i).map (fun p => p.2.2)).sum
theorem band (x m : Int) (h0 : 0 ≤ m) (h1 : m < 9223372036854775808) : 0 ≤ bits BinOp.and IntKind.i64 x m ∧ bits BinOp.and IntKind.i64 x m ≤ m := by
  obtain ⟨m, rfl⟩ := Int.eq_ofNat_of_zero_le h0
  have hm : (BitVec.ofInt 64 (m : Int)).toNat = m := by
    rw [BitVec.ofInt_natCast, BitVec.toNat_ofNat]; exact Nat.mod_eq_of_lt (by omega)
  have hx : (BitVec.ofInt 64 x &&& BitVec.ofInt 64 (m : Int)).toNat ≤ m := by
    rw [BitVec.toNat_and, hm]; exact Nat.and_le_right
  have e : bits BinOp.and IntKind.i64 x (m : Int) = IntKind.i64.wrap ((BitVec.ofInt 64 x &&& BitVec.ofInt 64 (m : Int)).toNat : Int) := rfl
  rw [e, IntKind.wrap_i64]
  omega
theorem u64b (a : Int) : 0 ≤ IntKind.u64.wrap a ∧ IntKind.u64.wrap a ≤ 18446744073709551615 := by
  rw [IntKind.wrap_u64]; omega
end Go.Proofs.Ytkaalinoiilmoaa
namespace Go.Proofs.Ytkaalinoiilmoaa
open Go.RowKit
set_option linter.unusedVariables false
set_option maxRecDepth 100000
def freeB (F : Nat → Bool) : Nat → Nat → Bool
  | _, 0 => true
  | a, c + 1 => !F a && freeB F (a + 1) c
def addF (F : Nat → Bool) (a c : Nat) : Nat → Bool := fun k => F k || (decide (a ≤ k) && decide (k < a + c))
theorem addF_zero (F : Nat → Bool) (a : Nat) : addF F a 0 = F := by
  funext k; unfold addF
  by_cases h : a ≤ k
  · rw [decide_eq_true h, decide_eq_false (show ¬ k < a + 0 by omega)]; simp
  · rw [decide_eq_false h]; simp
theorem addF_step (F : Nat → Bool) (a k : Nat) : bitF (addF F a k) (a + k) true = addF F a (k + 1) := by
  funext i; unfold bitF addF
  by_cases e : i = a + k
  · subst e; rw [if_pos rfl, decide_eq_true (show a ≤ a + k by omega), decide_eq_true (show a + k < a + (k + 1) by omega)]; simp
  · rw [if_neg e]
    by_cases h : a ≤ i
    · rw [decide_eq_true h]
      by_cases h2 : i < a + k
      · rw [decide_eq_true h2, decide_eq_true (show i < a + (k + 1) by omega)]
      · rw [decide_eq_false h2, decide_eq_false (show ¬ i < a + (k + 1) by omega)]
    · rw [decide_eq_false h]; simp
theorem addF_at (F : Nat → Bool) (a k : Nat) : addF F a k (a + k) = F (a + k) := by
  unfold addF; rw [decide_eq_false (show ¬ a + k < a + k by omega)]; simp
theorem freeB_step (F : Nat → Bool) (a c k : Nat) (h : k < c) : freeB F (a + k) (c - k) = (!F (a + k) && freeB F (a + (k + 1)) (c - (k + 1))) := by
  obtain ⟨m, hm⟩ : ∃ m, c - k = m + 1 := ⟨c - k - 1, by omega⟩
  rw [hm, show c - (k + 1) = m by omega]; rfl
def runB (a n s : Int) : Bool := decide (0 ≤ a ∧ 0 ≤ n ∧ a ≤ s ∧ n ≤ s - a)
def goB : List (Int × Int) → Int → (Nat → Bool) → Bool
  | [], _, _ => true
  | p :: ps, s, F => runB p.1 p.2 s && (freeB F p.1.toNat p.2.toNat && goB ps s (addF F p.1.toNat p.2.toNat))
def extB (ps : List (Int × Int)) (s : Int) : Bool := (decide (1 ≤ ps.length ∧ ps.length ≤ 4) && decide (0 ≤ s ∧ s ≤ 64)) && goB ps s noB
theorem goB_end (ps : List (Int × Int)) (s : Int) (F : Nat → Bool) (k : Nat) (h : ps.length ≤ k) : goB (ps.drop k) s F = true := by
  rw [List.drop_eq_nil_of_le h]; rfl
theorem goB_step (ps : List (Int × Int)) (s : Int) (F : Nat → Bool) (k : Nat) (h : k < ps.length) :
    goB (ps.drop k) s F = (runB (ps.getD k (0, 0)).1 (ps.getD k (0, 0)).2 s && (freeB F (ps.getD k (0, 0)).1.toNat (ps.getD k (0, 0)).2.toNat && goB (ps.drop (k + 1)) s (addF F (ps.getD k (0, 0)).1.toNat (ps.getD k (0, 0)).2.toNat))) := by
  simp only [List.getD, List.getElem?_eq_getElem h, Option.getD_some]
  rw [List.drop_eq_getElem_cons h]; rfl
def PtS (w : World) (v : Value) (ps : List (Int × Int)) : Prop :=
  ∃ A cap, v = .slice A ps.length cap ∧ ps.length ≤ maxLen ∧ (0 < ps.length → ∃ b o, A = some ⟨b, o, none⟩ ∧ b < w.heap.size ∧ ∀ i, i < ps.length → ∃ (l c : Int) (A2 : Option Addr) (n2 c2 : Nat),
    w.cell? ⟨b, o + i * 5, none⟩ = some (.int .i64 l) ∧ w.cell? ⟨b, o + i * 5 + 1, none⟩ = some (.int .i64 c) ∧ w.cell? ⟨b, o + i * 5 + 2, none⟩ = some (.slice A2 n2 c2) ∧
    w.cell? ⟨b, o + i * 5 + 3, none⟩ = some (.int .i64 (ps.getD i (0, 0)).1) ∧ w.cell? ⟨b, o + i * 5 + 4, none⟩ = some (.int .i64 (ps.getD i (0, 0)).2))
theorem PtS.below {w w' : World} {v : Value} {ps : List (Int × Int)} (h : PtS w v ps) (hb : Below w.heap.size w w') : PtS w' v ps := by
  obtain ⟨A, cap, hv, hn, hA⟩ := h
  refine ⟨A, cap, hv, hn, fun h0 => ?_⟩
  obtain ⟨b, o, e, hlt, hi⟩ := hA h0
  have g := fun x => hb.cell (p := ⟨b, x, none⟩) hlt
  refine ⟨b, o, e, Nat.lt_of_lt_of_le hlt hb.size, fun i hi' => ?_⟩
  obtain ⟨l, c, A2, n2, c2, h0, h1, h2, h3, h4⟩ := hi i hi'
  exact ⟨l, c, A2, n2, c2, (g _).trans h0, (g _).trans h1, (g _).trans h2, (g _).trans h3, (g _).trans h4⟩
theorem PtS.len {w : World} {v : Value} {ps : List (Int × Int)} (h : PtS w v ps) : ∃ A cap, v = .slice A ps.length cap := by obtain ⟨A, cap, h, _⟩ := h; exact ⟨A, cap, h⟩
end Go.Proofs.Ytkaalinoiilmoaa
namespace Go.Proofs.Ytkaalinoiilmoaa
open Go.RowKit
set_option linter.unusedVariables false
set_option maxRecDepth 100000
structure Fo (S : Nat → Prop) (w w' : World) : Prop where
  os : w'.os = w.os
  tape : w'.tape = w.tape
  output : w'.output = w.output
  size : w.heap.size ≤ w'.heap.size
  block : ∀ k, k < w.heap.size → ¬ S k → w'.heap[k]? = w.heap[k]?
section
variable {S : Nat → Prop} {a b c : World}
theorem Fo.refl (S : Nat → Prop) (w : World) : Fo S w w := ⟨rfl, rfl, rfl, Nat.le_refl _, fun _ _ _ => rfl⟩
theorem Fo.of (h : Below a.heap.size a b) (S : Nat → Prop) : Fo S a b := ⟨h.os, h.tape, h.output, h.size, fun i hi _ => h.block i hi⟩
theorem Fo.trans (h : Fo S a b) (k : Fo S b c) : Fo S a c :=
  ⟨k.os.trans h.os, k.tape.trans h.tape, k.output.trans h.output, Nat.le_trans h.size k.size, fun i hi hn => (k.block i (Nat.lt_of_lt_of_le hi h.size) hn).trans (h.block i hi hn)⟩
theorem Fo.trans_new {S' : Nat → Prop} (h : Fo S a b) (k : Fo S' b c) (hS : ∀ i, S' i → S i ∨ a.heap.size ≤ i) : Fo S a c :=
  ⟨k.os.trans h.os, k.tape.trans h.tape, k.output.trans h.output, Nat.le_trans h.size k.size, fun i hi hn => (k.block i (Nat.lt_of_lt_of_le hi h.size) (fun e => by rcases hS i e with e | e; exact hn e; omega)).trans (h.block i hi hn)⟩
theorem Fo.grown {row : Option Nat} (h : Fo S a b) (k : b.grownBy c row) (hr : ∀ g, row = some g → S g ∨ a.heap.size ≤ g) : Fo S a c :=
  ⟨k.os.trans h.os, k.tape.trans h.tape, k.output.trans h.output, Nat.le_trans h.size k.size, fun i hi hn => (k.block i (Nat.lt_of_lt_of_le hi h.size) (fun e => by rcases hr i e.symm with e | e; exact hn e; omega)).trans (h.block i hi hn)⟩
theorem Fo.set (h : Fo S a b) {p : Addr} (hp : S p.block ∨ a.heap.size ≤ p.block) (u : Value) : Fo S a (b.setCell p u) :=
  h.grown (gset (grefl b (some p.block)) (.inl rfl) u) (fun g hg => by injection hg with hg; subst hg; exact hp)
theorem Fo.alloc (h : Fo S a b) (o : Obj) : Fo S a (b.alloc o) := h.grown (World.grownBy_alloc b o none) (fun g hg => by cases hg)
theorem Fo.drewN (h : Fo S a b) (n : Nat) : Fo S a (b.drewN n) := ⟨h.os, h.tape, h.output, h.size, h.block⟩
theorem Fo.mono {S' : Nat → Prop} (h : Fo S a b) (hS : ∀ i, i < a.heap.size → S i → S' i) : Fo S' a b := ⟨h.os, h.tape, h.output, h.size, fun i hi hn => h.block i hi (fun e => hn (hS i hi e))⟩
theorem Fo.below {B : Nat} {z : World} (h : Fo S b c) (hb : Below B z b) (hB : B ≤ b.heap.size) (hS : ∀ i, S i → B ≤ i) : Below B z c :=
  ⟨h.os.trans hb.os, h.tape.trans hb.tape, h.output.trans hb.output, Nat.le_trans hb.size h.size, fun k hk => (h.block k (by omega) (fun e => by have := hS k e; omega)).trans (hb.block k hk)⟩
theorem Fo.blk {i : Nat} {T : TypeId} {cs : List Value} (h : Fo S a b) (hg : Blk a i T cs) (hn : ¬ S i) : Blk b i T cs := (h.block i hg.lt hn).trans hg
end
end Go.Proofs.Ytkaalinoiilmoaa
namespace Go.Proofs.Ytkaalinoiilmoaa
open Go.RowKit
set_option linter.unusedVariables false
set_option maxRecDepth 100000
structure Ob where
  Q : (Nat → Prop) → World → Prop
  stay : ∀ {S : Nat → Prop} {w w' : World}, Q S w → (∀ b, b < w.heap.size → S b → w'.heap[b]? = w.heap[b]?) → w.heap.size ≤ w'.heap.size → Q S w'
  lt : ∀ {S : Nat → Prop} {w : World} {b : Nat}, Q S w → S b → b < w.heap.size
def obE : Ob := ⟨fun S _ => ∀ b, ¬ S b, fun h _ _ => h, fun h hb => absurd hb (h _)⟩
def obA (a b : Ob) : Ob :=
  ⟨fun S w => ∃ S1 S2, a.Q S1 w ∧ b.Q S2 w ∧ (∀ k, S1 k → S2 k → False) ∧ ∀ k, S k ↔ (S1 k ∨ S2 k),
   fun ⟨S1, S2, h1, h2, d, e⟩ hk hs => ⟨S1, S2, a.stay h1 (fun k hk' hS => hk k hk' ((e k).2 (.inl hS))) hs, b.stay h2 (fun k hk' hS => hk k hk' ((e k).2 (.inr hS))) hs, d, e⟩,
   fun ⟨S1, S2, h1, h2, d, e⟩ hb => ((e _).1 hb).elim (a.lt h1) (b.lt h2)⟩
def obs : List Ob → Ob
  | [] => obE
  | a :: l => obA a (obs l)
def obB (g : Nat) (T : TypeId) (cs : List Value) : Ob :=
  ⟨fun S w => Blk w g T cs ∧ ∀ b, S b ↔ b = g, fun ⟨h, e⟩ hk hs => ⟨(hk g h.lt ((e g).2 rfl)).trans h, e⟩, fun ⟨h, e⟩ hb => ((e _).1 hb) ▸ h.lt⟩
theorem own_stay {w w' : World} {B n size : Nat} {e : TypeId} {v : Value} {xs : List Value} (h : w.ownsRow B e size v n xs) (hk : ∀ b, v.ownBlock = some b → w'.heap[b]? = w.heap[b]?) : w'.ownsRow B e size v n xs := by
  refine ⟨h.1, ?_⟩
  rcases h.2 with h2 | ⟨g, cap, cur, hv, hb, hg, h3⟩
  · exact .inl h2
  · exact .inr ⟨g, cap, cur, hv, hb, (hk g (by rw [hv]; rfl)).trans hg, h3⟩
theorem own_floor {w : World} {B B' size n : Nat} {e : TypeId} {v : Value} {xs : List Value} (h : w.ownsRow B e size v n xs) (hB : ∀ b, v.ownBlock = some b → B' ≤ b) : w.ownsRow B' e size v n xs :=
  ⟨h.1, h.2.imp id (fun ⟨a1, a2, a3, a4, a5, a6⟩ => ⟨a1, a2, a3, a4, hB a1 (by rw [a4]; rfl), a6⟩)⟩
def obR (e : TypeId) (size : Nat) (v : Value) (n : Nat) (xs : List Value) : Ob :=
  ⟨fun S w => w.ownsRow 0 e size v n xs ∧ ∀ b, S b ↔ v.ownBlock = some b, fun ⟨h, q⟩ hk hs => ⟨own_stay h (fun b hb => hk b (h.lt b hb).2 ((q b).2 hb)), q⟩, fun ⟨h, q⟩ hb => (h.lt _ ((q _).1 hb)).2⟩
theorem obs_swap {a b : Ob} {l : List Ob} {S : Nat → Prop} {w : World} (h : (obs (a :: b :: l)).Q S w) : (obs (b :: a :: l)).Q S w := by
  obtain ⟨S1, S2, h1, ⟨S3, S4, h3, h4, d2, e2⟩, d, e⟩ := h
  refine ⟨S3, fun k => S1 k ∨ S4 k, h3, ⟨S1, S4, h1, h4, fun k k1 k4 => d k k1 ((e2 k).2 (.inr k4)), fun _ => Iff.rfl⟩, fun k k3 k14 => ?_, fun k => ?_⟩
  · rcases k14 with k1 | k4
    · exact d k k1 ((e2 k).2 (.inl k3))
    · exact d2 k k3 k4
  · rw [e, e2]
    constructor
    · rintro (h | h | h) <;> simp [h]
    · rintro (h | h | h) <;> simp [h]
theorem obs_perm {l m : List Ob} (p : l.Perm m) : ∀ {S : Nat → Prop} {w : World}, (obs l).Q S w → (obs m).Q S w := by
  induction p with
  | nil => exact fun h => h
  | cons a p ih => intro S w ⟨S1, S2, h1, h2, d, e⟩; exact ⟨S1, S2, h1, ih h2, d, e⟩
  | swap a b l => exact fun h => obs_swap h
  | trans _ _ i1 i2 => exact fun h => i2 (i1 h)
theorem obs_append {l m : List Ob} : ∀ {S : Nat → Prop} {w : World}, (obs (l ++ m)).Q S w ↔ (obA (obs l) (obs m)).Q S w := by
  induction l with
  | nil =>
    intro S w
    constructor
    · exact fun h => ⟨fun _ => False, S, fun _ => id, h, fun _ h => h.elim, fun k => by simp⟩
    · rintro ⟨S1, S2, h1, h2, d, e⟩
      have : S = S2 := by funext k; have := e k; have h9 := h1 k; simp [h9] at this; exact propext this
      rw [this]; exact h2
  | cons a l ih =>
    intro S w
    constructor
    · rintro ⟨S1, S2, h1, h2, d, e⟩
      obtain ⟨S3, S4, h3, h4, d2, e2⟩ := ih.1 h2
      exact ⟨fun k => S1 k ∨ S3 k, S4, ⟨S1, S3, h1, h3, fun k a1 a3 => d k a1 ((e2 k).2 (.inl a3)), fun _ => Iff.rfl⟩, h4, fun k a13 a4 => a13.elim (fun a1 => d k a1 ((e2 k).2 (.inr a4))) (fun a3 => d2 k a3 a4), fun k => by rw [e, e2, or_assoc]⟩
    · rintro ⟨S12, S3, ⟨S1, S2, h1, h2, d, e⟩, h3, d2, e2⟩
      exact ⟨S1, fun k => S2 k ∨ S3 k, h1, ih.2 ⟨S2, S3, h2, h3, fun k a b => d2 k ((e k).2 (.inr a)) b, fun _ => Iff.rfl⟩, fun k a bc => bc.elim (d k a) (fun c => d2 k ((e k).2 (.inl a)) c), fun k => by rw [e2, e, or_assoc]⟩
theorem set_perm (e : Ob) : ∀ (l : List Ob) (i : Nat), i < l.length → (e :: l.eraseIdx i).Perm (l.set i e)
  | a :: l, 0, _ => .refl _
  | a :: l, i + 1, h => .trans (.swap a e _) (.cons a (set_perm e l i (by simpa using h)))
theorem get_perm {d : Ob} : ∀ {l : List Ob} {i : Nat}, l[i]? = some d → l.Perm (d :: l.eraseIdx i)
  | a :: l, 0, h => by simp at h; subst h; exact .refl _
  | a :: l, i + 1, h => .trans (.cons a (get_perm (by simpa using h))) (.swap d a _)
theorem obs_one {a : Ob} {S : Nat → Prop} {w : World} : (obs [a]).Q S w ↔ a.Q S w := by
  constructor
  · rintro ⟨S1, S2, h1, h2, d, e⟩
    have : S = S1 := by funext k; have := e k; have h9 := h2 k; simp [h9] at this; exact propext this
    rw [this]; exact h1
  · exact fun h => ⟨S, fun _ => False, h, fun _ => id, fun _ _ h => h, fun k => by simp⟩
def Tk (S : Nat → Prop) (W0 : World) (os : List Ob) (w : World) : Prop :=
  ∃ S', (obs os).Q S' w ∧ (∀ k, k < W0.heap.size → S' k → S k) ∧ Fo S W0 w
def nos : Nat → Prop := fun _ => False
section
variable {S : Nat → Prop} {W0 w w' : World} {os ps : List Ob} {a b d e : Ob} {i : Nat}
theorem Tk.start (h : (obs os).Q S w) : Tk S w os w := ⟨S, h, fun _ _ h => h, Fo.refl _ _⟩
theorem Tk.start1 (h : a.Q S w) : Tk S w [a] w := Tk.start (obs_one.2 h)
theorem Tk.empty (w : World) : Tk nos w [] w := ⟨nos, fun _ => id, fun _ _ h => h, Fo.refl _ _⟩
theorem Tk.size (h : Tk S W0 os w) : W0.heap.size ≤ w.heap.size := by obtain ⟨_, _, _, f⟩ := h; exact f.size
theorem Tk.below (h : Tk nos W0 os w) : Below W0.heap.size W0 w := by obtain ⟨_, _, _, f⟩ := h; exact ⟨f.os, f.tape, f.output, f.size, fun k hk => f.block k hk id⟩
theorem Tk.next (h : Tk S W0 os w) (hb : Below w.heap.size w w') : Tk S W0 os w' := by
  obtain ⟨S', q, l, f⟩ := h
  exact ⟨S', (obs os).stay q (fun b hb' _ => hb.block b hb') hb.size, l, f.trans (Fo.of hb S)⟩
theorem Tk.drewN (h : Tk S W0 os w) (n : Nat) : Tk S W0 os (w.drewN n) := h.next (bdrewN (Below.refl _ _) n)
theorem Tk.mono {S2 : Nat → Prop} (h : Tk S W0 os w) (hS : ∀ k, k < W0.heap.size → S k → S2 k) : Tk S2 W0 os w := by
  obtain ⟨S', q, l, f⟩ := h
  exact ⟨S', q, fun k hk h => hS k hk (l k hk h), f.mono hS⟩
theorem Tk.perm (h : Tk S W0 os w) (p : os.Perm ps) : Tk S W0 ps w := by obtain ⟨S', q, l, f⟩ := h; exact ⟨S', obs_perm p q, l, f⟩
theorem Tk.wrap (h : Tk S W0 os w) (k : ∀ {S w}, (obs os).Q S w → (obs ps).Q S w) : Tk S W0 ps w := by obtain ⟨S', q, l, f⟩ := h; exact ⟨S', k q, l, f⟩
theorem Tk.wrap1 (h : Tk S W0 os w) (k : ∀ {S w}, (obs os).Q S w → d.Q S w) : Tk S W0 [d] w := h.wrap (fun q => obs_one.2 (k q))
theorem Tk.sub (h : Tk S W0 os w) (hs : ps.Sublist os) : Tk S W0 ps w := by
  obtain ⟨S', q, l, f⟩ := h
  suffices hh : ∀ {S : Nat → Prop} {w : World}, (obs os).Q S w → ∃ S2, (obs ps).Q S2 w ∧ ∀ k, S2 k → S k by
    obtain ⟨S2, q2, l2⟩ := hh q
    exact ⟨S2, q2, fun k hk h => l k hk (l2 k h), f⟩
  clear q l f
  induction hs with
  | slnil => exact fun h => ⟨_, h, fun _ h => h⟩
  | cons a _ ih =>
    intro S w ⟨S1, S2, h1, h2, d, e⟩
    obtain ⟨S3, h3, l3⟩ := ih h2
    exact ⟨S3, h3, fun k h => (e k).2 (.inr (l3 k h))⟩
  | cons_cons a _ ih =>
    intro S w ⟨S1, S2, h1, h2, d, e⟩
    obtain ⟨S3, h3, l3⟩ := ih h2
    exact ⟨fun k => S1 k ∨ S3 k, ⟨S1, S3, h1, h3, fun k a b => d k a (l3 k b), fun _ => Iff.rfl⟩, fun k h => (e k).2 (h.imp id (l3 k))⟩
theorem Tk.drop (h : Tk S W0 os w) (i : Nat) : Tk S W0 (os.eraseIdx i) w := h.sub (List.eraseIdx_sublist ..)
theorem Tk.tail (h : Tk S W0 (a :: os) w) : Tk S W0 os w := h.sub (List.sublist_cons_self ..)
theorem Tk.call (h : Tk S W0 os w) (hi : os[i]? = some d) : ∃ S1, d.Q S1 w ∧ (∀ k, k < W0.heap.size → S1 k → S k) ∧ ∀ w' e ps, Tk S1 w (e :: ps) w' → Tk S W0 (ps ++ os.set i e) w' := by
  obtain ⟨S', q, l, f⟩ := h
  obtain ⟨S1, S2, h1, h2, dis, iff⟩ := obs_perm (get_perm hi) q
  refine ⟨S1, h1, fun k hk h => l k hk ((iff k).2 (.inl h)), fun w' e ps ⟨S3, h3, l3, f3⟩ => ?_⟩
  have hlt : i < os.length := (List.getElem?_eq_some_iff.1 hi).1
  have h4 : (obs ((e :: ps) ++ os.eraseIdx i)).Q (fun k => S3 k ∨ S2 k) w' := obs_append.2 ⟨S3, S2, h3, (obs (os.eraseIdx i)).stay h2 (fun b hb hS => f3.block b hb (fun h => dis b h hS)) f3.size, fun k a b => dis k (l3 k ((obs (os.eraseIdx i)).lt h2 b) a) b, fun _ => Iff.rfl⟩
  refine ⟨_, obs_perm (?_ : ((e :: ps) ++ os.eraseIdx i).Perm (ps ++ os.set i e)) h4, fun k hk hk2 => ?_, f.trans_new f3 (fun k hk => ?_)⟩
  · exact (List.perm_middle (l₁ := ps) (l₂ := os.eraseIdx i)).symm.trans ((set_perm e os i hlt).append_left ps)
  · rcases hk2 with hk2 | hk2
    · exact l k hk ((iff k).2 (.inl (l3 k (Nat.lt_of_lt_of_le hk f.size) hk2)))
    · exact l k hk ((iff k).2 (.inr hk2))
  · by_cases hk3 : k < W0.heap.size
    · exact .inl (l k hk3 ((iff k).2 (.inl hk)))
    · exact .inr (by omega)
theorem Tk.get (h : Tk S W0 os w) (hi : os[i]? = some d) : ∃ S1, d.Q S1 w ∧ ∀ k, k < W0.heap.size → S1 k → S k := by obtain ⟨S1, h1, h2, _⟩ := h.call hi; exact ⟨S1, h1, h2⟩
theorem Tk.add (h : Tk S W0 os w) (hb : Tk nos w ps w') : Tk S W0 (ps ++ os) w' := by
  obtain ⟨S', q, l, f⟩ := h
  obtain ⟨S2, q2, l2, f2⟩ := hb
  refine ⟨fun k => S2 k ∨ S' k, obs_append.2 ⟨S2, S', q2, (obs os).stay q (fun b hb _ => f2.block b hb id) f2.size, fun k a b => l2 k ((obs os).lt q b) a, fun _ => Iff.rfl⟩, fun k hk h => ?_, f.trans_new f2 (fun _ h => h.elim)⟩
  rcases h with h | h
  · exact (l2 k (Nat.lt_of_lt_of_le hk f.size) h).elim
  · exact l k hk h
theorem Tk.alloc (h : Tk S W0 os w) (T : TypeId) (cs : List Value) : Tk S W0 (obB w.heap.size T cs :: os) (w.alloc (.cells cs.toArray T)) := by
  refine Tk.add (ps := [obB w.heap.size T cs]) h ⟨fun k => k = w.heap.size, obs_one.2 ⟨Blk.new _ _ _, fun _ => Iff.rfl⟩, fun k hk e => by omega, (Fo.refl _ _).alloc _⟩
theorem Tk.blk {g : Nat} {T : TypeId} {cs : List Value} (h : Tk S W0 os w) (hi : os[i]? = some (obB g T cs)) : Blk w g T cs := by obtain ⟨_, q, _⟩ := h.get hi; exact q.1
theorem Tk.turn {g : Nat} {T : TypeId} {cs cs' : List Value} (h : Tk S W0 os w) (hi : os[i]? = some (obB g T cs)) (hg : w.grownBy w' (some g)) (hb : Blk w' g T cs') : Tk S W0 (os.set i (obB g T cs')) w' := by
  obtain ⟨S1, q, _, k⟩ := h.call hi
  exact k w' _ [] ⟨S1, obs_one.2 ⟨hb, q.2⟩, fun _ _ h => h, (Fo.refl _ _).grown hg (fun x hx => .inl ((q.2 x).2 (by injection hx with hx; exact hx.symm)))⟩
theorem Tk.store {g : Nat} {T : TypeId} {cs : List Value} (h : Tk S W0 os w) (hi : os[i]? = some (obB g T cs)) (j : Nat) (u : Value) : Tk S W0 (os.set i (obB g T (cs.set j u))) (w.setCell ⟨g, j, none⟩ u) :=
  h.turn hi (gone u) ((h.blk hi).set j u)
theorem Tk.row {t : TypeId} {size n : Nat} {v : Value} {xs : List Value} (h : Tk S W0 os w) (hi : os[i]? = some (obR t size v n xs)) : w.ownsRow 0 t size v n xs := by obtain ⟨_, q, _⟩ := h.get hi; exact q.1
theorem Tk.sl {t : TypeId} {size n : Nat} {v : Value} {xs : List Value} (h : Tk S W0 os w) (hi : os[i]? = some (obR t size v n xs)) : Sl w v n size xs := Sl.own (h.row hi)
theorem Tk.turnR {t : TypeId} {size n n' : Nat} {v v' : Value} {xs xs' : List Value} (h : Tk S W0 os w) (hi : os[i]? = some (obR t size v n xs)) (hg : w.grownBy w' v.ownBlock) (hb : w'.ownsRow 0 t size v' n' xs') (hv : ∀ b, v'.ownBlock = some b → v.ownBlock = some b ∨ w.heap.size ≤ b) : Tk S W0 (os.set i (obR t size v' n' xs')) w' := by
  obtain ⟨S1, q, _, k⟩ := h.call hi
  refine k w' _ [] ⟨fun b => v'.ownBlock = some b, obs_one.2 ⟨hb, fun _ => Iff.rfl⟩, fun x hx e => ?_, (Fo.refl _ _).grown hg (fun x hx => .inl ((q.2 x).2 hx))⟩
  rcases hv x e with h1 | h1
  · exact (q.2 x).2 h1
  · omega
theorem Tk.addR {t : TypeId} {size n : Nat} {v : Value} {xs : List Value} (h : Tk S W0 os w) (hb : Below w.heap.size w w') (hr : w'.ownsRow w.heap.size t size v n xs) : Tk S W0 (obR t size v n xs :: os) w' :=
  Tk.add (ps := [obR t size v n xs]) h ⟨fun b => v.ownBlock = some b, obs_one.2 ⟨own_floor hr (fun _ _ => Nat.zero_le _), fun _ => Iff.rfl⟩, fun k hk e => by have := (hr.lt k e).1; omega, Fo.of hb _⟩
end
end Go.Proofs.Ytkaalinoiilmoaa
namespace Go.Proofs.Ytkaalinoiilmoaa
open Go.RowKit
set_option linter.unusedVariables false
set_option linter.unusedSimpArgs false
set_option maxRecDepth 100000
structure Pa where
  lv : Int
  ct : Int
  fr : List Int
  fi : Int
  co : Int
def paD : Pa := ⟨0, 0, [], 0, 0⟩
def Pa.fc (p : Pa) : Int × Int := (p.fi, p.co)
theorem fc_getD (l : List Pa) (i : Nat) : (l.map Pa.fc).getD i (0, 0) = (l.getD i paD).fc := by
  simp only [List.getD, List.getElem?_map]
  cases l[i]? <;> rfl
def PaAt (w : World) (b a : Nat) (p : Pa) : Prop := ∃ A2 c2, w.cell? ⟨b, a, none⟩ = some (.int .i64 p.lv) ∧ w.cell? ⟨b, a + 1, none⟩ = some (.int .i64 p.ct) ∧ w.cell? ⟨b, a + 2, none⟩ = some (.slice A2 p.fr.length c2) ∧
  w.cell? ⟨b, a + 3, none⟩ = some (.int .i64 p.fi) ∧ w.cell? ⟨b, a + 4, none⟩ = some (.int .i64 p.co) ∧ Sl w (.slice A2 p.fr.length c2) p.fr.length 1 (ints p.fr) ∧ (A2 = none → c2 = 0)
theorem PaAt.below {w w' : World} {b a : Nat} {p : Pa} (h : PaAt w b a p) (hb : Below w.heap.size w w') (hlt : b < w.heap.size) : PaAt w' b a p := by
  have g := fun x => hb.cell (p := ⟨b, x, none⟩) hlt
  obtain ⟨A2, c2, h0, h1, h2, h3, h4, h5, h6⟩ := h
  exact ⟨A2, c2, (g _).trans h0, (g _).trans h1, (g _).trans h2, (g _).trans h3, (g _).trans h4, h5.below hb, h6⟩
def PaS (w : World) (v : Value) (l : List Pa) : Prop :=
  ∃ A cap, v = .slice A l.length cap ∧ (0 < l.length → ∃ b o, A = some ⟨b, o, none⟩ ∧ b < w.heap.size ∧ ∀ i, i < l.length → PaAt w b (o + i * 5) (l.getD i paD))
def PaZ (l : List Pa) : Prop := l.length * 56 ≤ 140737488351232 ∧ ∀ i, (l.getD i paD).fr.length * 8 ≤ 140737488351232
theorem PaS.below {w w' : World} {v : Value} {l : List Pa} (h : PaS w v l) (hb : Below w.heap.size w w') : PaS w' v l := by
  obtain ⟨A, cap, hv, hA⟩ := h
  refine ⟨A, cap, hv, fun h0 => ?_⟩
  obtain ⟨b, o, e, hlt, hi⟩ := hA h0
  exact ⟨b, o, e, Nat.lt_of_lt_of_le hlt hb.size, fun i hi' => (hi i hi').below hb hlt⟩
theorem PaS.pts {w : World} {v : Value} {l : List Pa} (h : PaS w v l) (hz : PaZ l) : PtS w v (l.map Pa.fc) := by
  obtain ⟨A, cap, hv, hA⟩ := h
  have hz1 := hz.1
  refine ⟨A, cap, by rw [hv, List.length_map], by rw [List.length_map]; unfold maxLen; omega, fun h0 => ?_⟩
  rw [List.length_map] at h0
  obtain ⟨b, o, e, hlt, hi⟩ := hA h0
  refine ⟨b, o, e, hlt, fun i hi' => ?_⟩
  rw [List.length_map] at hi'
  rw [fc_getD]
  obtain ⟨A2, c2, h0, h1, h2, h3, h4, _⟩ := hi i hi'
  exact ⟨_, _, A2, _, c2, h0, h1, h2, h3, h4⟩
def pac (x : Pa × Value) : List Value := [.int .i64 x.1.lv, .int .i64 x.1.ct, x.2, .int .i64 x.1.fi, .int .i64 x.1.co]
def pcl (L : List (Pa × Value)) : List Value := L.flatMap pac
theorem pcl_get (L : List (Pa × Value)) : ∀ i (h : i < L.length), (pcl L)[i * 5]? = some (.int .i64 L[i].1.lv) ∧ (pcl L)[i * 5 + 1]? = some (.int .i64 L[i].1.ct) ∧ (pcl L)[i * 5 + 2]? = some L[i].2 ∧ (pcl L)[i * 5 + 3]? = some (.int .i64 L[i].1.fi) ∧ (pcl L)[i * 5 + 4]? = some (.int .i64 L[i].1.co) := by
  induction L with
  | nil => intro i h; simp at h
  | cons p L ih =>
    intro i h
    have e : pcl (p :: L) = pac p ++ pcl L := by simp [pcl]
    match i with
    | 0 => rw [e]; simp [pac]
    | i + 1 =>
      have := ih i (by simpa using h)
      have hp : (pac p).length = 5 := rfl
      rw [e, List.getElem?_append_right (by omega), List.getElem?_append_right (by omega), List.getElem?_append_right (by omega), List.getElem?_append_right (by omega), List.getElem?_append_right (by omega), hp]
      rw [show (i + 1) * 5 - 5 = i * 5 by omega, show (i + 1) * 5 + 1 - 5 = i * 5 + 1 by omega, show (i + 1) * 5 + 2 - 5 = i * 5 + 2 by omega, show (i + 1) * 5 + 3 - 5 = i * 5 + 3 by omega, show (i + 1) * 5 + 4 - 5 = i * 5 + 4 by omega]
      simpa using this
end Go.Proofs.Ytkaalinoiilmoaa
namespace Go.Proofs.Ytkaalinoiilmoaa
open Go.RowKit
set_option linter.unusedVariables false
set_option maxRecDepth 100000
structure Win where
  p : Int
  s : Int
  l : Int
  d : Int
instance : Inhabited Win := ⟨⟨0, 0, 0, 0⟩⟩
def wd4 (x : Win) : List Int := [x.p, x.s, x.l, x.d]
def wins (l : List Win) : List Int := l.flatMap wd4
theorem wins_nil : wins [] = [] := rfl
theorem wins_cons (x : Win) (l : List Win) : wins (x :: l) = x.p :: x.s :: x.l :: x.d :: wins l := by simp [wins, wd4]
theorem wins_len (l : List Win) : (wins l).length = l.length * 4 := by
  induction l with
  | nil => rfl
  | cons x l ih => rw [wins_cons]; simp only [List.length_cons, ih]; omega
theorem wins_get (l : List Win) : ∀ i (h : i < l.length), (wins l)[i * 4]? = some l[i].p ∧ (wins l)[i * 4 + 1]? = some l[i].s ∧ (wins l)[i * 4 + 2]? = some l[i].l ∧ (wins l)[i * 4 + 3]? = some l[i].d := by
  induction l with
  | nil => intro i h; simp at h
  | cons x l ih =>
    intro i h
    match i with
    | 0 => rw [wins_cons]; simp
    | i + 1 =>
      have := ih i (by simpa using h)
      rw [wins_cons, show (i + 1) * 4 = i * 4 + 4 by omega]
      simpa using this
theorem wins_take (l : List Win) : ∀ k, (wins l).take (k * 4) = wins (l.take k) := by
  induction l with
  | nil => intro k; simp [wins_nil]
  | cons x l ih =>
    intro k
    match k with
    | 0 => simp [wins_nil]
    | k + 1 => rw [List.take_succ_cons, wins_cons, wins_cons, show (k + 1) * 4 = k * 4 + 4 by omega]; simp [ih]
theorem wins_of (n : Nat) : ∀ zs : List Int, zs.length = n * 4 → ∃ l : List Win, zs = wins l ∧ l.length = n := by
  induction n with
  | zero => intro zs h; exact ⟨[], List.length_eq_zero_iff.1 (by simpa using h), rfl⟩
  | succ n ih =>
    intro zs h
    match zs, h with
    | a :: b :: c :: d :: zs, h =>
      obtain ⟨l, rfl, hl⟩ := ih zs (by simp at h; omega)
      exact ⟨⟨a, b, c, d⟩ :: l, by rw [wins_cons], by simp [hl]⟩
    | [], h => simp at h
    | [_], h => simp at h; omega
    | [_, _], h => simp at h; omega
    | [_, _, _], h => simp at h; omega
def W64 (x : Win) : Prop := (-9223372036854775808 ≤ x.p ∧ x.p ≤ 9223372036854775807) ∧ (-9223372036854775808 ≤ x.s ∧ x.s ≤ 9223372036854775807) ∧ (-9223372036854775808 ≤ x.l ∧ x.l ≤ 9223372036854775807) ∧ (-9223372036854775808 ≤ x.d ∧ x.d ≤ 9223372036854775807)
theorem w64_of (l : List Win) (h : ∀ z ∈ wins l, -9223372036854775808 ≤ z ∧ z ≤ 9223372036854775807) : ∀ x ∈ l, W64 x := by
  intro x hx
  have : ∀ z ∈ wd4 x, z ∈ wins l := fun z hz => List.mem_flatMap.2 ⟨x, hx, hz⟩
  exact ⟨h _ (this _ (by simp [wd4])), h _ (this _ (by simp [wd4])), h _ (this _ (by simp [wd4])), h _ (this _ (by simp [wd4]))⟩
theorem wd_at {w : World} {A : Option Addr} {n c : Nat} {l : List Win} (h : Sl w (.slice A n c) n 4 (ints (wins l))) (hl : l.length = n) (k : Nat) (hk : k < l.length) :
    ∃ b o, A = some ⟨b, o, none⟩ ∧ b < w.heap.size ∧ w.cell? ⟨b, o + k * 4, none⟩ = some (.int .i64 l[k].p) ∧ w.cell? ⟨b, o + k * 4 + 1, none⟩ = some (.int .i64 l[k].s) ∧ w.cell? ⟨b, o + k * 4 + 2, none⟩ = some (.int .i64 l[k].l) ∧ w.cell? ⟨b, o + k * 4 + 3, none⟩ = some (.int .i64 l[k].d) := by
  obtain ⟨A', c', e, _, hxl, hA⟩ := h
  simp only [Value.slice.injEq] at e
  obtain ⟨rfl, _, rfl⟩ := e
  obtain ⟨b, o, rfl, hb, hc⟩ := hA (by omega)
  have hg := wins_get l k hk
  have key : ∀ j x, (wins l)[k * 4 + j]? = some x → w.cell? ⟨b, o + k * 4 + j, none⟩ = some (.int .i64 x) := by
    intro j x hx
    have := hc (k * 4 + j) (.int .i64 x) (by simp [ints, hx])
    rw [← Nat.add_assoc] at this
    exact this
  exact ⟨b, o, rfl, hb, key 0 _ hg.1, key 1 _ hg.2.1, key 2 _ hg.2.2.1, key 3 _ hg.2.2.2⟩
theorem Sl.pre {w : World} {A : Option Addr} {n c k : Nat} {l : List Win} (h : Sl w (.slice A n c) n 4 (ints (wins l))) (hl : l.length = n) (hk : k ≤ n) : Sl w (.slice A k c) k 4 (ints (wins (l.take k))) := by
  obtain ⟨A', c', e, hc, hxl, hA⟩ := h
  simp only [Value.slice.injEq] at e
  obtain ⟨rfl, _, rfl⟩ := e
  refine ⟨A, c, rfl, by omega, by rw [ints_len, wins_len, List.length_take]; omega, fun h0 => ?_⟩
  obtain ⟨b, o, rfl, hb, hcell⟩ := hA (by omega)
  refine ⟨b, o, rfl, hb, fun j u hu => hcell j u ?_⟩
  rw [← wins_take] at hu
  simp only [ints, List.map_take] at hu
  rw [List.getElem?_take] at hu
  split at hu
  · exact hu
  · cases hu
def fitW (x : Win) (m p : Int) : Bool := decide (0 ≤ x.p ∧ x.p < p ∧ 0 ≤ x.s ∧ 1 ≤ x.l ∧ x.s + x.l ≤ m ∧ x.s ≤ x.d ∧ x.d < x.s + x.l)
def metB (x o : Win) : Bool := decide (x.s < o.s + o.l ∧ o.s < x.s + x.l)
def okB (l : List Win) (m p : Int) (k : Nat) : Bool := match l[k]? with
  | some x => fitW x m p && !(l.take k).any (metB x)
  | none => false
def headB (n : Nat) (m p : Int) : Bool := decide (1 ≤ m ∧ m ≤ 64 ∧ 1 ≤ p ∧ p ≤ 4 ∧ 1 ≤ n ∧ n ≤ 8)
def mayW (l : List Win) (m p : Int) : Bool := headB l.length m p && (List.range l.length).all (okB l m p)
theorem mayW_head {l : List Win} {m p : Int} (h : headB l.length m p = false) : mayW l m p = false := by unfold mayW; rw [h]; rfl
theorem mayW_no {l : List Win} {m p : Int} {k : Nat} (hk : k < l.length) (h : okB l m p k = false) : mayW l m p = false := by
  unfold mayW
  rw [Bool.and_eq_false_iff]
  right
  rw [List.all_eq_false]
  exact ⟨k, by simpa using hk, by simp [h]⟩
theorem mayW_yes {l : List Win} {m p : Int} (hh : headB l.length m p = true) (h : ∀ k, k < l.length → okB l m p k = true) : mayW l m p = true := by
  unfold mayW
  rw [hh, Bool.true_and, List.all_eq_true]
  intro k hk
  exact h k (by simpa using hk)
theorem ok_no_fit {l : List Win} {m p : Int} {k : Nat} (hk : k < l.length) (h : fitW l[k] m p = false) : okB l m p k = false := by
  unfold okB; rw [List.getElem?_eq_getElem hk]; simp [h]
theorem ok_meets {l : List Win} {m p : Int} {k : Nat} (hk : k < l.length) (h : (l.take k).any (metB l[k]) = true) : okB l m p k = false := by
  unfold okB; rw [List.getElem?_eq_getElem hk]; simp only [h]; simp
theorem ok_yes {l : List Win} {m p : Int} {k : Nat} (hk : k < l.length) (h : fitW l[k] m p = true) (h' : (l.take k).any (metB l[k]) = false) : okB l m p k = true := by
  unfold okB; rw [List.getElem?_eq_getElem hk]; simp only [h, h']; rfl
theorem ok_fit {l : List Win} {m p : Int} {k : Nat} (hk : k < l.length) (h : okB l m p k = true) : fitW l[k] m p = true := by
  unfold okB at h; rw [List.getElem?_eq_getElem hk] at h; simp at h; exact h.1
theorem fit_parts (x : Win) (m p : Int) : fitW x m p = true ∧ 0 ≤ x.p ∧ x.p < p ∧ 0 ≤ x.s ∧ 1 ≤ x.l ∧ x.l ≤ m - x.s ∧ x.s ≤ x.d ∧ x.d - x.s < x.l ∨
    fitW x m p = false ∧ (x.p < 0 ∨ 0 ≤ x.p ∧ p ≤ x.p ∨ 0 ≤ x.p ∧ x.p < p ∧ x.s < 0 ∨ 0 ≤ x.p ∧ x.p < p ∧ 0 ≤ x.s ∧ x.l < 1 ∨ 0 ≤ x.p ∧ x.p < p ∧ 0 ≤ x.s ∧ 1 ≤ x.l ∧ m - x.s < x.l ∨ 0 ≤ x.p ∧ x.p < p ∧ 0 ≤ x.s ∧ 1 ≤ x.l ∧ x.l ≤ m - x.s ∧ x.d < x.s ∨ 0 ≤ x.p ∧ x.p < p ∧ 0 ≤ x.s ∧ 1 ≤ x.l ∧ x.l ≤ m - x.s ∧ x.s ≤ x.d ∧ x.l ≤ x.d - x.s) := by
  by_cases h : 0 ≤ x.p ∧ x.p < p ∧ 0 ≤ x.s ∧ 1 ≤ x.l ∧ x.s + x.l ≤ m ∧ x.s ≤ x.d ∧ x.d < x.s + x.l
  · exact .inl ⟨decide_eq_true h, by omega⟩
  · refine .inr ⟨decide_eq_false h, ?_⟩
    omega
theorem fit_of {x : Win} {m p : Int} (h : fitW x m p = true) : 0 ≤ x.p ∧ x.p < p ∧ 0 ≤ x.s ∧ 1 ≤ x.l ∧ x.s + x.l ≤ m ∧ x.s ≤ x.d ∧ x.d < x.s + x.l := of_decide_eq_true h
end Go.Proofs.Ytkaalinoiilmoaa
namespace Go.Proofs.Ytkaalinoiilmoaa
open Go.RowKit
set_option linter.unusedVariables false
set_option maxRecDepth 100000
theorem num_any (n : Int) (w : World) :
    Calls Try.prog 13 #[.int .i64 n] w fun e w' => e = .returned (.int .i64 n) ∧ w = w' := by
  go_enter Try.func13, Try.ntmps13
  go_wp2
  go_ret
  exact ⟨rfl, rfl⟩
end Go.Proofs.Ytkaalinoiilmoaa
namespace Go.Proofs.Ytkaalinoiilmoaa
open Go.RowKit
set_option linter.unusedVariables false
set_option maxRecDepth 100000
theorem four_at {w : World} {g : Nat} {t : TypeId} {x y z u : Value} (h : Blk w g t [x, y, z, u]) : w.cell? ⟨g, 0, none⟩ = some x ∧ w.cell? ⟨g, 1, none⟩ = some y ∧ w.cell? ⟨g, 2, none⟩ = some z ∧ w.cell? ⟨g, 3, none⟩ = some u :=
  ⟨h.cell 0, h.cell 1, h.cell 2, h.cell 3⟩
def wdv (x : Win) : List Value := [.int .i64 x.p, .int .i64 x.s, .int .i64 x.l, .int .i64 x.d]
set_option maxHeartbeats 1000000 in
theorem fits_any (x : Win) (m p : Int) (hx : W64 x) (hm : 1 ≤ m ∧ m ≤ 64) (w : World) :
    Calls Try.prog 77 #[.agg #[.int .i64 x.p, .int .i64 x.s, .int .i64 x.l, .int .i64 x.d], .int .i64 m, .int .i64 p] w fun e w' => e = .returned (.bool (fitW x m p)) ∧ Below w.heap.size w w' := by
  obtain ⟨⟨p0, p1⟩, ⟨s0, s1⟩, ⟨l0, l1⟩, ⟨d0, d1⟩⟩ := hx
  obtain ⟨m0, m1⟩ := hm
  have hp := fit_parts x m p
  generalize fitW x m p = R at hp ⊢
  obtain ⟨xp, xs, xl, xd⟩ := x
  simp only at *
  rcases hp with ⟨rfl, h0, h1, h2, h3, h4, h5, h6⟩ | ⟨rfl, h0 | ⟨h0, h1⟩ | ⟨h0, h1, h2⟩ | ⟨h0, h1, h2, h3⟩ | ⟨h0, h1, h2, h3, h4⟩ | ⟨h0, h1, h2, h3, h4, h5⟩ | ⟨h0, h1, h2, h3, h4, h5, h6⟩⟩
  all_goals
    first
    | have hlast : decide (xd - xs < xl) = true := decide_eq_true (by omega)
    | have hlast : decide (xd - xs < xl) = false := decide_eq_false (by omega)
    | skip
  all_goals
    go_enter Try.func77, Try.ntmps77
    go_wp2
    go_ret
    exact ⟨rfl, (Below.refl _ _).alloc (Nat.le_refl _) _⟩
def fM (a : Nat) : Value := .func (.func 90) #[] #[.pointer (some ⟨a, 0, none⟩)]
set_option maxHeartbeats 1000000 in
theorem meets1_any (a : Nat) (x o : Win) (w : World) (ha : Blk w a 66 (wdv x)) (hx : 0 ≤ x.s ∧ x.s ≤ 64 ∧ 0 ≤ x.l ∧ x.l ≤ 64) (ho : 0 ≤ o.s ∧ o.s ≤ 64 ∧ 0 ≤ o.l ∧ o.l ≤ 64) :
    Calls Try.prog 90 #[.agg #[.int .i64 o.p, .int .i64 o.s, .int .i64 o.l, .int .i64 o.d], .pointer (some ⟨a, 0, none⟩)] w fun e w' => e = .returned (.bool (metB x o)) ∧ Below w.heap.size w w' := by
  have hlt := ha.lt
  obtain ⟨c0, c1, c2, c3⟩ := four_at ha
  obtain ⟨x0, x1, x2, x3⟩ := hx
  obtain ⟨o0, o1, o2, o3⟩ := ho
  have hR : metB x o = decide (x.s < o.s + o.l ∧ o.s < x.s + x.l) := rfl
  generalize metB x o = R at hR ⊢
  obtain ⟨xp, xs, xl, xd⟩ := x
  obtain ⟨op, os, ol, od⟩ := o
  simp only at *
  clear ha
  by_cases h1 : xs < os + ol
  · by_cases h2 : os < xs + xl
    · have hR' : R = true := by rw [hR]; exact decide_eq_true ⟨h1, h2⟩
      subst hR'; clear hR
      have hlast : decide (os < xs + xl) = true := decide_eq_true h2
      go_enter Try.func90, Try.ntmps90
      go_wp2
      go_ret
      exact ⟨rfl, (Below.refl _ _).alloc (Nat.le_refl _) _⟩
    · have hR' : R = false := by rw [hR]; exact decide_eq_false (fun h => h2 h.2)
      subst hR'; clear hR
      have hlast : decide (os < xs + xl) = false := decide_eq_false h2
      go_enter Try.func90, Try.ntmps90
      go_wp2
      go_ret
      exact ⟨rfl, (Below.refl _ _).alloc (Nat.le_refl _) _⟩
  · have hR' : R = false := by rw [hR]; exact decide_eq_false (fun h => h1 h.1)
    subst hR'; clear hR
    go_enter Try.func90, Try.ntmps90
    go_wp2
    go_ret
    exact ⟨rfl, (Below.refl _ _).alloc (Nat.le_refl _) _⟩
def idxW (f : Win → Bool) (l : List Win) : Int := match l.findIdx? f with
  | some i => i
  | none => -1
theorem idxW_found (f : Win → Bool) (l : List Win) (k : Nat) (hk : k < l.length) (h : f l[k] = true) (hall : ∀ j (hj : j < k) (hj' : j < l.length), f l[j] = false) : idxW f l = k ∧ l.any f = true := by
  refine ⟨?_, List.any_eq_true.2 ⟨_, List.getElem_mem hk, h⟩⟩
  unfold idxW
  rw [List.findIdx?_eq_some_iff_getElem.2 ⟨hk, h, fun j hj => by simp [hall j hj (by omega)]⟩]
theorem idxW_none (f : Win → Bool) (l : List Win) (hall : ∀ j (hj : j < l.length), f l[j] = false) : idxW f l = -1 ∧ l.any f = false := by
  have h : ∀ x ∈ l, f x = false := fun x hx => by obtain ⟨j, hj, rfl⟩ := List.getElem_of_mem hx; exact hall j hj
  refine ⟨?_, List.any_eq_false.2 (fun x hx => by simp [h x hx])⟩
  unfold idxW
  rw [List.findIdx?_eq_none_iff.2 (fun x hx => by simp [h x hx])]
theorem idxW_any (f : Win → Bool) (l : List Win) : -1 ≤ idxW f l ∧ (l.any f = true ∧ 0 ≤ idxW f l ∨ l.any f = false ∧ idxW f l < 0) := by
  cases h : l.findIdx? f with
  | some i =>
    obtain ⟨hi, hf, _⟩ := List.findIdx?_eq_some_iff_getElem.1 h
    have : idxW f l = i := by unfold idxW; rw [h]
    exact ⟨by omega, .inl ⟨List.any_eq_true.2 ⟨_, List.getElem_mem hi, hf⟩, by omega⟩⟩
  | none =>
    have : idxW f l = -1 := by unfold idxW; rw [h]
    rw [List.findIdx?_eq_none_iff] at h
    exact ⟨by omega, .inr ⟨List.any_eq_false.2 (fun x hx => by simp [h x hx]), by omega⟩⟩
set_option maxHeartbeats 1000000 in
theorem wifn_any (A : Option Addr) (n cap : Nat) (l : List Win) (a : Nat) (x : Win) (w : World) (hs : Sl w (.slice A n cap) n 4 (ints (wins l))) (hn : n ≤ maxLen) (hl : l.length = n) (ha : Blk w a 66 (wdv x))
    (hx : 0 ≤ x.s ∧ x.s ≤ 64 ∧ 0 ≤ x.l ∧ x.l ≤ 64) (ho : ∀ o ∈ l, 0 ≤ o.s ∧ o.s ≤ 64 ∧ 0 ≤ o.l ∧ o.l ≤ 64) :
    Calls Try.prog 79 #[.slice A n cap, fM a] w fun e w' => e = .returned (.int .i64 (idxW (metB x) l)) ∧ Below w.heap.size w w' := by
  have HS := Lib.hid hs; have HL := Lib.hid hl; have HA := Lib.hid ha; have HX := Lib.hid hx; have HO := Lib.hid ho
  unfold maxLen at hn
  clear hs hl ha hx ho
  unfold fM
  go_enter Try.func79, Try.ntmps79
  go_wp2_with fail
  go_loopw [8] (fun i wr => ∃ (k : Nat), k ≤ n ∧ i = .int .i64 k ∧ (∀ j (hj : j < k) (hj' : j < l.length), metB x l[j] = false) ∧ Below w.heap.size w wr) (fun i _ => n - (intOf i).toNat)
  case atStart => exact ⟨0, by omega, rfl, fun j hj => by omega, Below.refl _ _⟩
  case round =>
    obtain ⟨k, hk, rfl, hall, hbel⟩ := hrel
    have hsz := hbel.size
    have HALL := Lib.hid hall; clear hall
    by_cases hlt : k < n
    · have hkl : k < l.length := by rw [HL.out]; exact hlt
      obtain ⟨b, o, rfl, hb, c0, c1, c2, c3⟩ := wd_at (HS.out.below hbel) HL.out k hkl
      have hoy := HO.out l[k] (List.getElem_mem hkl)
      have HOY := Lib.hid hoy; clear hoy
      generalize hy : l[k] = y at *
      have HY := Lib.hid hy; clear hy
      go_wp2_with fail
      refine (meets1_any _ x y _ (HA.out.below hbel HA.out.lt) HX.out HOY.out).mono ?_
      rintro e w1 ⟨rfl, b1⟩
      have bel1 := Below.down hbel b1 hsz
      clear c0 c1 c2 c3 b1 hbel
      cases hf : metB x y with
      | true =>
        have HF := Lib.hid hf; clear hf
        go_wp2_with fail
        go_ret
        exact ⟨by rw [(idxW_found _ l k hkl (by rw [HY.out]; exact HF.out) (fun j hj => HALL.out j hj)).1]; rfl, bel1⟩
      | false =>
        have HF := Lib.hid hf; clear hf
        go_wp2_with fail
        go_roundw
        case rel => exact ⟨k + 1, by omega, by go_num, fun j hj hj' => by
          by_cases e : j = k
          · subst e; rw [HY.out]; exact HF.out
          · exact HALL.out j (by omega) hj', bel1⟩
        case measure => simp [intOf]; omega
    · go_wp2_with fail
      go_ret
      exact ⟨by rw [(idxW_none _ l (fun j hj => HALL.out j (by have := HL.out; omega) hj)).1]; rfl, hbel⟩
theorem wcfn_any (A : Option Addr) (n cap : Nat) (l : List Win) (a : Nat) (x : Win) (w : World) (hs : Sl w (.slice A n cap) n 4 (ints (wins l))) (hn : n ≤ maxLen) (hl : l.length = n) (ha : Blk w a 66 (wdv x))
    (hx : 0 ≤ x.s ∧ x.s ≤ 64 ∧ 0 ≤ x.l ∧ x.l ≤ 64) (ho : ∀ o ∈ l, 0 ≤ o.s ∧ o.s ≤ 64 ∧ 0 ≤ o.l ∧ o.l ≤ 64) :
    Calls Try.prog 62 #[.slice A n cap, fM a] w fun e w' => e = .returned (.bool (l.any (metB x))) ∧ Below w.heap.size w w' := by
  have hI := idxW_any (metB x) l
  have HC := Lib.hid (fun (w : World) (h : Sl w (.slice A n cap) n 4 (ints (wins l))) (h2 : Blk w a 66 (wdv x)) => wifn_any A n cap l a x w h hn hl h2 hx ho)
  have HS := Lib.hid hs; have HA := Lib.hid ha
  unfold fM at *
  generalize idxW (metB x) l = I at *
  generalize l.any (metB x) = R at *
  obtain ⟨i0, hI⟩ := hI
  clear hs ha hx ho hl
  rcases hI with ⟨rfl, hI⟩ | ⟨rfl, hI⟩
  all_goals
    go_enter Try.func62, Try.ntmps62
    go_wp2_with fail
    refine (HC.out _ HS.out HA.out).mono ?_
    rintro e w1 ⟨rfl, b1⟩
    first
    | have hlast : decide (I ≥ 0) = true := decide_eq_true (by omega)
    | have hlast : decide (I ≥ 0) = false := decide_eq_false (by omega)
    go_wp2_with fail
    go_ret
    exact ⟨rfl, b1⟩
theorem pmeets_any (A : Option Addr) (n cap : Nat) (l : List Win) (x : Win) (w : World) (hs : Sl w (.slice A n cap) n 4 (ints (wins l))) (hn : n ≤ maxLen) (hl : l.length = n)
    (hx : 0 ≤ x.s ∧ x.s ≤ 64 ∧ 0 ≤ x.l ∧ x.l ≤ 64) (ho : ∀ o ∈ l, 0 ≤ o.s ∧ o.s ≤ 64 ∧ 0 ≤ o.l ∧ o.l ≤ 64) :
    Calls Try.prog 78 #[.agg #[.int .i64 x.p, .int .i64 x.s, .int .i64 x.l, .int .i64 x.d], .slice A n cap] w fun e w' => e = .returned (.bool (l.any (metB x))) ∧ Below w.heap.size w w' := by
  have hb : Blk (w.alloc (.cells (wdv x).toArray 66)) w.heap.size 66 (wdv x) := Blk.new _ _ _
  have hA : Below w.heap.size w (w.alloc (.cells (wdv x).toArray 66)) := (Below.refl _ _).alloc (Nat.le_refl _) _
  have HC := Lib.hid (wcfn_any A n cap l w.heap.size x _ (hs.below hA) hn hl hb hx ho)
  have HA := Lib.hid hA
  clear hs hb hA hx ho hl
  go_enter Try.func78, Try.ntmps78
  go_wp2_with fail
  refine HC.out.mono ?_
  rintro e w1 ⟨rfl, b1⟩
  go_wp2_with fail
  go_ret
  exact ⟨rfl, Below.down HA.out b1 HA.out.size⟩
end Go.Proofs.Ytkaalinoiilmoaa
namespace Go.Proofs.Ytkaalinoiilmoaa
open Go.RowKit
set_option linter.unusedVariables false
set_option linter.unusedSimpArgs false
set_option maxRecDepth 100000
structure MayS (w : World) (g : Nat) (x : Win) (w' : World) : Prop where
  blk : Blk w' g 66 (wdv x)
  below : Below w.heap.size w w'
  size : w.heap.size ≤ w'.heap.size
theorem MayS.next {w w1 w2 : World} {g : Nat} {x : Win} (h : MayS w g x w1) (hb : Below w1.heap.size w1 w2) : MayS w g x w2 :=
  ⟨h.blk.below hb h.blk.lt, Below.down h.below hb h.size, Nat.le_trans h.size hb.size⟩
theorem MayS.drew {w w1 : World} {g : Nat} {x : Win} (h : MayS w g x w1) : MayS w g x w1.drew := ⟨h.blk.drewN 1, bdrewN h.below 1, h.size⟩
theorem MayS.all {w w' : World} {g : Nat} {x : Win} (h : MayS w g x w') : w'.cell? ⟨g, 0, none⟩ = some (.int .i64 x.p) ∧ w'.cell? ⟨g, 1, none⟩ = some (.int .i64 x.s) ∧ w'.cell? ⟨g, 2, none⟩ = some (.int .i64 x.l) ∧ w'.cell? ⟨g, 3, none⟩ = some (.int .i64 x.d) ∧ MayS w g x w' := by
  obtain ⟨a, b, c, d⟩ := four_at h.blk
  exact ⟨a, b, c, d, h⟩
theorem head_parts (n : Nat) (m p : Int) : headB n m p = true ∧ 1 ≤ m ∧ m ≤ 64 ∧ 1 ≤ p ∧ p ≤ 4 ∧ 1 ≤ (n : Int) ∧ (n : Int) ≤ 8 ∨
    headB n m p = false ∧ (m < 1 ∨ 1 ≤ m ∧ 64 < m ∨ 1 ≤ m ∧ m ≤ 64 ∧ p < 1 ∨ 1 ≤ m ∧ m ≤ 64 ∧ 1 ≤ p ∧ 4 < p ∨ 1 ≤ m ∧ m ≤ 64 ∧ 1 ≤ p ∧ p ≤ 4 ∧ (n : Int) < 1 ∨ 1 ≤ m ∧ m ≤ 64 ∧ 1 ≤ p ∧ p ≤ 4 ∧ 1 ≤ (n : Int) ∧ 8 < (n : Int)) := by
  by_cases h : 1 ≤ m ∧ m ≤ 64 ∧ 1 ≤ p ∧ p ≤ 4 ∧ 1 ≤ n ∧ n ≤ 8
  · exact .inl ⟨decide_eq_true h, by omega⟩
  · refine .inr ⟨decide_eq_false h, ?_⟩
    omega
theorem box_of {x : Win} {m p : Int} (h : fitW x m p = true) (hm : m ≤ 64) : 0 ≤ x.s ∧ x.s ≤ 64 ∧ 0 ≤ x.l ∧ x.l ≤ 64 := by
  have := fit_of h
  omega
set_option maxHeartbeats 4000000 in
theorem pmay_any (A : Option Addr) (n cap : Nat) (l : List Win) (m p : Int) (w : World) (hs : Sl w (.slice A n cap) n 4 (ints (wins l))) (hn : n ≤ maxLen) (hl : l.length = n) (hw : ∀ x ∈ l, W64 x) :
    Calls Try.prog 61 #[.slice A n cap, .int .i64 m, .int .i64 p] w fun e w' => e = .returned (.bool (mayW l m p)) ∧ Below w.heap.size w w' := by
  have hnc : n ≤ cap := by obtain ⟨_, _, e, hc, _⟩ := hs; simp only [Value.slice.injEq] at e; omega
  have HS := Lib.hid hs; have HL := Lib.hid hl; have HW := Lib.hid hw
  unfold maxLen at hn
  rcases head_parts n m p with ⟨hh, h0, h1, h2, h3, h4, h5⟩ | ⟨hh, hh2⟩
  · rw [← hl] at hh
    have HH := Lib.hid hh
    clear hs hl hw hh
    go_enter Try.func61, Try.ntmps61
    go_wp2_with fail
    go_loopw [35] (fun i wr => ∃ (k : Nat), k ≤ n ∧ i = .int .i64 k ∧ (∀ j, j < k → okB l m p j = true) ∧ Below w.heap.size w wr) (fun i _ => n - (intOf i).toNat)
    case atStart => exact ⟨0, by omega, rfl, fun j hj => by omega, Below.refl _ _⟩
    case round =>
      obtain ⟨k, hk, rfl, hall, hbel⟩ := hrel
      have hsz := hbel.size
      have HALL := Lib.hid hall; clear hall
      by_cases hlt : k < n
      · have hkl : k < l.length := by rw [HL.out]; exact hlt
        obtain ⟨b, o, rfl, hb, c0, c1, c2, c3⟩ := wd_at (HS.out.below hbel) HL.out k hkl
        have hwx := HW.out l[k] (List.getElem_mem hkl)
        have hno := Lib.hid (fun (h : fitW l[k] m p = false) => mayW_no hkl (ok_no_fit hkl h))
        have hmt := Lib.hid (fun (h : (l.take k).any (metB l[k]) = true) => mayW_no (m := m) (p := p) hkl (ok_meets hkl h))
        have hys := Lib.hid (fun (h : fitW l[k] m p = true) (h' : (l.take k).any (metB l[k]) = false) => ok_yes hkl h h')
        generalize l[k] = x at *
        have HFIT := Lib.hid (fun (w : World) => fits_any x m p hwx ⟨h0, h1⟩ w)
        have hpre := Lib.hid (Sl.pre HS.out HL.out hk)
        have htl : Hid ((l.take k).length = k) := Lib.hid (by rw [List.length_take]; omega)
        have hto : Hid (∀ o ∈ l.take k, 0 ≤ o.s ∧ o.s ≤ 64 ∧ 0 ≤ o.l ∧ o.l ≤ 64) := Lib.hid (by
          intro o ho
          obtain ⟨j, hj, rfl⟩ := List.getElem_of_mem ho
          have hjk : j < k := by rw [List.length_take] at hj; omega
          rw [List.getElem_take]
          exact box_of (ok_fit (by omega) (HALL.out j hjk)) h1)
        have hbx : Hid (fitW x m p = true → 0 ≤ x.s ∧ x.s ≤ 64 ∧ 0 ≤ x.l ∧ x.l ≤ 64) := Lib.hid (fun h => box_of h h1)
        clear hwx
        have hb1 : Blk (wr.alloc (.cells (wdv x).toArray 66)) wr.heap.size 66 (wdv x) := Blk.new _ _ _
        have hS1 : MayS w wr.heap.size x (wr.alloc (.cells (wdv x).toArray 66)) := ⟨hb1, hbel.alloc hsz _, Nat.le_trans hsz (by simp)⟩
        change MayS w wr.heap.size x (wr.alloc (.cells #[.int .i64 x.p, .int .i64 x.s, .int .i64 x.l, .int .i64 x.d] 66)) at hS1
        clear hb1
        go_wp2_with fail
        generalize wr.alloc (.cells #[.int .i64 x.p, .int .i64 x.s, .int .i64 x.l, .int .i64 x.d] 66) = w1 at *
        generalize wr.heap.size = g at *
        clear c0 c1 c2 c3 hbel hsz hb
        obtain ⟨d0, d1, d2, d3, hS1⟩ := hS1.all
        cases hf : fitW x m p with
        | false =>
          have HF := Lib.hid hf
          refine wp_region_held_drew (S := (fun w' => w'.cell? ⟨g, 0, none⟩ = some (.int .i64 x.p) ∧ w'.cell? ⟨g, 1, none⟩ = some (.int .i64 x.s) ∧ w'.cell? ⟨g, 2, none⟩ = some (.int .i64 x.l) ∧ w'.cell? ⟨g, 3, none⟩ = some (.int .i64 x.d) ∧ MayS w g x w')) (by kernel_rfl) ?_ (fun hHeld => ?_)
          · try dsimp only
            (go_split_ands; refine MayS.all ?_; (first | assumption | (exact MayS.drew (by assumption)) | (exact MayS.next (by assumption) (by assumption))))
          refine wpAnyH_take (i := 0) (v := ?v0zN) rfl (by kernel_rfl) (by kernel_rfl) (by kernel_rfl) (fun _ _ _ h => h) (Or.inl ⟨by rfl, ?hy0zN⟩) (by assumption) ?rest0zN
          case hy0zN => intro w hSw; (try dsimp only at hSw); first | (go_simp; done) | (go_simp; with_reducible rfl)
          try simp only [Act.put, List.getElem_toArray, List.getElem_cons_succ, List.getElem_cons_zero, List.setIfInBounds_toArray, List.set_cons_zero, List.set_cons_succ]
          refine wpAnyH_take (i := 1) (v := ?v1zN) rfl (by kernel_rfl) (by kernel_rfl) (by kernel_rfl) (fun _ _ _ h => h) (Or.inl ⟨by rfl, ?hy1zN⟩) (by assumption) ?rest1zN
          case hy1zN => intro w hSw; (try dsimp only at hSw); first | (go_simp; done) | (go_simp; with_reducible rfl)
          try simp only [Act.put, List.getElem_toArray, List.getElem_cons_succ, List.getElem_cons_zero, List.setIfInBounds_toArray, List.set_cons_zero, List.set_cons_succ]
          refine wpAnyH_take (i := 2) (v := ?v2zN) rfl (by kernel_rfl) (by kernel_rfl) (by kernel_rfl) (fun _ _ _ h => h) (Or.inl ⟨by rfl, ?hy2zN⟩) (by assumption) ?rest2zN
          case hy2zN => intro w hSw; (try dsimp only at hSw); first | (go_simp; done) | (go_simp; with_reducible rfl)
          try simp only [Act.put, List.getElem_toArray, List.getElem_cons_succ, List.getElem_cons_zero, List.setIfInBounds_toArray, List.set_cons_zero, List.set_cons_succ]
          refine wpAnyH_ready (rs := [3]) (by kernel_rfl) (by simp) ?_
          refine AllReadyH.cons rfl (fun K hK => ?_) AllReadyH.nil
          go_simp
          refine (HFIT.out _).mono ?_
          rintro e w' ⟨rfl, hb⟩
          rw [HF.out]
          go_wp2_with fail
          refine hK.out _ _ ?_ (fun hHeld2 => ?_)
          · try dsimp only
            (go_split_ands; refine MayS.all ?_; (first | assumption | (exact MayS.drew (by assumption)) | (exact MayS.next (by assumption) (by assumption))))
          clear hK K hHeld
          have hHeld := hHeld2; clear hHeld2
          try simp only [Act.put, List.getElem_toArray, List.getElem_cons_succ, List.getElem_cons_zero, List.setIfInBounds_toArray, List.set_cons_zero, List.set_cons_succ]
          refine wpAnyH_take (i := 4) (v := ?v4zN) rfl (by kernel_rfl) (by kernel_rfl) (by kernel_rfl) (fun _ _ _ h => h) (Or.inl ⟨by rfl, ?hy4zN⟩) (by assumption) ?rest4zN
          case hy4zN => intro w hSw; (try dsimp only at hSw); first | (go_simp; done) | (go_simp; with_reducible rfl)
          try simp only [Act.put, List.getElem_toArray, List.getElem_cons_succ, List.getElem_cons_zero, List.setIfInBounds_toArray, List.set_cons_zero, List.set_cons_succ]
          refine wpAnyH_take (i := 5) (v := ?v5zN) rfl (by kernel_rfl) (by kernel_rfl) (by kernel_rfl) (fun _ _ _ h => h) (Or.inl ⟨by rfl, ?hy5zN⟩) (by assumption) ?rest5zN
          case hy5zN => intro w hSw; (try dsimp only at hSw); first | (go_simp; done) | (go_simp; with_reducible rfl)
          try simp only [Act.put, List.getElem_toArray, List.getElem_cons_succ, List.getElem_cons_zero, List.setIfInBounds_toArray, List.set_cons_zero, List.set_cons_succ]
          refine wpAnyH_take (i := 6) (v := undef) rfl (by kernel_rfl) (by kernel_rfl) (by kernel_rfl) (fun _ _ _ h => h) (Or.inr ⟨by rfl, rfl⟩) (by assumption) ?rest6zN
          try simp only [Act.put, List.getElem_toArray, List.getElem_cons_succ, List.getElem_cons_zero, List.setIfInBounds_toArray, List.set_cons_zero, List.set_cons_succ]
          refine wpAnyH_take (i := 7) (v := undef) rfl (by kernel_rfl) (by kernel_rfl) (by kernel_rfl) (fun _ _ _ h => h) (Or.inr ⟨by rfl, rfl⟩) (by assumption) ?rest7zN
          try simp only [Act.put, List.getElem_toArray, List.getElem_cons_succ, List.getElem_cons_zero, List.setIfInBounds_toArray, List.set_cons_zero, List.set_cons_succ]
          refine wpAnyH_take (i := 8) (v := undef) rfl (by kernel_rfl) (by kernel_rfl) (by kernel_rfl) (fun _ _ _ h => h) (Or.inr ⟨by rfl, rfl⟩) (by assumption) ?rest8zN
          try simp only [Act.put, List.getElem_toArray, List.getElem_cons_succ, List.getElem_cons_zero, List.setIfInBounds_toArray, List.set_cons_zero, List.set_cons_succ]
          refine wpAnyH_take (i := 9) (v := undef) rfl (by kernel_rfl) (by kernel_rfl) (by kernel_rfl) (fun _ _ _ h => h) (Or.inr ⟨by rfl, rfl⟩) (by assumption) ?rest9zN
          try simp only [Act.put, List.getElem_toArray, List.getElem_cons_succ, List.getElem_cons_zero, List.setIfInBounds_toArray, List.set_cons_zero, List.set_cons_succ]
          refine wpAnyH_take (i := 10) (v := undef) rfl (by kernel_rfl) (by kernel_rfl) (by kernel_rfl) (fun _ _ _ h => h) (Or.inr ⟨by rfl, rfl⟩) (by assumption) ?rest10zN
          try simp only [Act.put, List.getElem_toArray, List.getElem_cons_succ, List.getElem_cons_zero, List.setIfInBounds_toArray, List.set_cons_zero, List.set_cons_succ]
          refine wpAnyH_take (i := 11) (v := ?v11zN) rfl (by kernel_rfl) (by kernel_rfl) (by kernel_rfl) (fun _ _ _ h => h) (Or.inl ⟨by rfl, ?hy11zN⟩) (by assumption) ?rest11zN
          case hy11zN => intro w hSw; (try dsimp only at hSw); first | (go_simp; done) | (go_simp; with_reducible rfl)
          try simp only [Act.put, List.getElem_toArray, List.getElem_cons_succ, List.getElem_cons_zero, List.setIfInBounds_toArray, List.set_cons_zero, List.set_cons_succ]
          refine wpAnyH_done (by kernel_rfl) ?_ _
          all_goals
            have hEnd : MayS w g x w' := by go_split_ands; assumption
            have hB := hEnd.below
            clear hEnd
            go_wp2_with fail
            go_ret
            exact ⟨by rw [hno.out HF.out]; rfl, hB⟩
        | true =>
          have HF := Lib.hid hf; clear hf
          have hk0 : (0 : Int) ≤ (k : Int) := by omega
          have hkc : (k : Int) ≤ (cap : Int) := by omega
          go_region_held3 (fun w' => w'.cell? ⟨g, 0, none⟩ = some (.int .i64 x.p) ∧ w'.cell? ⟨g, 1, none⟩ = some (.int .i64 x.s) ∧ w'.cell? ⟨g, 2, none⟩ = some (.int .i64 x.l) ∧ w'.cell? ⟨g, 3, none⟩ = some (.int .i64 x.d) ∧ MayS w g x w')
            ((go_split_ands; refine MayS.all ?_; (first | assumption | (exact MayS.drew (by assumption)) | (exact MayS.next (by assumption) (by assumption)))))
            (first
              | (go_at_call 77; (with_reducible refine (HFIT.out _).mono ?_); rintro e w2 ⟨rfl, hb2⟩; rw [HF.out]; have hS2 := hS1.drew.next hb2)
              | (go_at_call 78; (with_reducible refine (pmeets_any _ k _ (l.take k) x _ (hpre.out.below hS2.below) (by unfold maxLen; omega) htl.out (hbx.out HF.out) hto.out).mono ?_); rintro e w3 ⟨rfl, hb3⟩; have hS3 := hS2.next hb3))
          have hB := hS3.below
          clear hS1 hS2 hb2 hb3 d0 d1 d2 d3
          cases hm : (l.take k).any (metB x) with
          | true =>
            have HM := Lib.hid hm; clear hm
            go_wp2_with fail
            go_ret
            exact ⟨by rw [hmt.out HM.out]; rfl, hB⟩
          | false =>
            have HM := Lib.hid hm; clear hm
            go_wp2_with fail
            go_roundw
            case rel => exact ⟨k + 1, by omega, by go_num, fun j hj => by
              by_cases e : j = k
              · subst e; exact hys.out HF.out HM.out
              · exact HALL.out j (by omega), hB⟩
            case measure => simp [intOf]; omega
      · go_wp2_with fail
        go_ret
        exact ⟨by rw [mayW_yes HH.out (fun j hj => HALL.out j (by have := HL.out; omega))]; rfl, hbel⟩
  · have hM := mayW_head (l := l) (m := m) (p := p) (by rw [hl]; exact hh)
    rw [hM]
    clear hs hl hw hM hh
    rcases hh2 with h0 | ⟨h0, h1⟩ | ⟨h0, h1, h2⟩ | ⟨h0, h1, h2, h3⟩ | ⟨h0, h1, h2, h3, h4⟩ | ⟨h0, h1, h2, h3, h4, h5⟩
    all_goals
      go_enter Try.func61, Try.ntmps61
      go_wp2_with fail
      go_ret
      exact ⟨rfl, Below.refl _ _⟩
end Go.Proofs.Ytkaalinoiilmoaa
namespace Go.Proofs.Ytkaalinoiilmoaa
open Go.RowKit
set_option linter.unusedVariables false
set_option linter.unusedSimpArgs false
set_option maxRecDepth 100000
structure Ws (w : World) (v : Value) (n : Nat) (l : List Win) : Prop where
  sl : Sl w v n 4 (ints (wins l))
  len : l.length = n
  big : n ≤ maxLen
  in64 : ∀ x ∈ l, W64 x
theorem Ws.below {w w' : World} {v : Value} {n : Nat} {l : List Win} (h : Ws w v n l) (hb : Below w.heap.size w w') : Ws w' v n l := ⟨h.sl.below hb, h.len, h.big, h.in64⟩
theorem Ws.form {w : World} {v : Value} {n : Nat} {l : List Win} (h : Ws w v n l) : ∃ A cap, v = .slice A n cap := by obtain ⟨A, c, e, _⟩ := h.sl; exact ⟨A, c, e⟩
theorem Ws.drew {w : World} {v : Value} {n : Nat} {l : List Win} (h : Ws w v n l) : Ws w.drew v n l := ⟨h.sl.drewN 1, h.len, h.big, h.in64⟩
section
variable {v : Value} {n : Nat} {l : List Win} {w : World}
theorem may_ws (h : Ws w v n l) (m p : Int) (b : Bool) (hb : mayW l m p = b) :
    Calls Try.prog 61 #[v, .int .i64 m, .int .i64 p] w fun e w' => e = .returned (.bool b) ∧ Below w.heap.size w w' := by
  obtain ⟨A, c, rfl⟩ := h.form; subst hb; exact pmay_any A n c l m p w h.sl h.big h.len h.in64
end
end Go.Proofs.Ytkaalinoiilmoaa
namespace Go.Proofs.Ytkaalinoiilmoaa
open Go.RowKit
set_option linter.unusedVariables false
set_option maxRecDepth 100000
def lB (l c : Int) : Bool := decide (0 ≤ l ∧ l ≤ 3 ∧ 0 ≤ c ∧ c ≤ 15)
def hasB (c c' : Int) : Bool := decide (c.toNat ||| c'.toNat = c.toNat)
def lD (l c l' c' : Int) : Bool := lB l c && lB l' c' && decide (l' ≤ l) && hasB c c'
def orC (c c' : Int) : Int := ((c.toNat ||| c'.toNat : Nat) : Int)
theorem lB_of {l c : Int} (h : lB l c = true) : 0 ≤ l ∧ l ≤ 3 ∧ 0 ≤ c ∧ c ≤ 15 := of_decide_eq_true h
theorem bits9 : ∀ a b : Fin 16, (bits BinOp.andNot IntKind.i64 (b.val : Int) (a.val : Int) == 0) = decide (a.val ||| b.val = a.val) ∧ (bits BinOp.and IntKind.i64 (a.val : Int) (b.val : Int) == (b.val : Int)) = decide (a.val ||| b.val = a.val) ∧
    bits BinOp.or IntKind.i64 (a.val : Int) (b.val : Int) = ((a.val ||| b.val : Nat) : Int) ∧ a.val ||| b.val < 16 := by decide +kernel
theorem bits_has (c c' : Int) (h0 : 0 ≤ c) (h1 : c ≤ 15) (h2 : 0 ≤ c') (h3 : c' ≤ 15) : (bits BinOp.andNot IntKind.i64 c' c == 0) = hasB c c' ∧ (bits BinOp.and IntKind.i64 c c' == c') = hasB c c' ∧ bits BinOp.or IntKind.i64 c c' = orC c c' := by
  obtain ⟨c, rfl⟩ := Int.eq_ofNat_of_zero_le h0
  obtain ⟨c', rfl⟩ := Int.eq_ofNat_of_zero_le h2
  have := bits9 ⟨c, by omega⟩ ⟨c', by omega⟩
  exact ⟨this.1, this.2.1, this.2.2.1⟩
theorem lD_no (l c l' c' : Int) (h : lB l c = false ∨ lB l' c' = false) : lD l c l' c' = false := by
  unfold lD
  rcases h with h | h <;> rw [h] <;> simp
end Go.Proofs.Ytkaalinoiilmoaa
namespace Go.Proofs.Ytkaalinoiilmoaa
open Go.RowKit
set_option linter.unusedVariables false
set_option maxRecDepth 100000
def inP (P : Nat) (p : Int) : Bool := decide (0 ≤ p ∧ p < (P : Int))
theorem inP_iff (P : Nat) (p : Int) : inP P p = true ↔ ∃ k : Nat, p = k ∧ k < P := by
  unfold inP
  rw [decide_eq_true_eq]
  constructor
  · intro h; exact ⟨p.toNat, by omega, by omega⟩
  · rintro ⟨k, rfl, h⟩; omega
theorem inP_at {P k : Nat} (h : k < P) : inP P (k : Int) = true := (inP_iff _ _).2 ⟨k, rfl, h⟩
end Go.Proofs.Ytkaalinoiilmoaa
namespace Go.Proofs.Ytkaalinoiilmoaa
def Upto (n : Nat) (I : Nat → World → Prop) (w : World) (r : Bool) : Prop := ∃ k, k ≤ n ∧ I k w ∧ (r = true → k = n)
theorem range_any_yes {n k : Nat} {p : Nat → Bool} (hk : k < n) (h : p k = true) : (List.range n).any p = true := List.any_eq_true.2 ⟨k, List.mem_range.2 hk, h⟩
theorem range_any_no {n : Nat} {p : Nat → Bool} (h : ∀ j, j < n → p j = false) : (List.range n).any p = false := List.any_eq_false.2 (fun x hx => by simp [h x (List.mem_range.1 hx)])
theorem range_any_not (n : Nat) (q : Nat → Bool) : (List.range n).any (fun i => !q i) = !(List.range n).all q := by
  rw [List.all_eq_not_any_not, Bool.not_not]
theorem range_all_iff {n : Nat} {q : Nat → Bool} : (List.range n).all q = true ↔ ∀ j, j < n → q j = true := by
  rw [List.all_eq_true]
  exact ⟨fun h j hj => h j (List.mem_range.2 hj), fun h j hj => h j (List.mem_range.1 hj)⟩
theorem range_any_iff {n : Nat} {q : Nat → Bool} : (List.range n).any q = true ↔ ∃ j, j < n ∧ q j = true := by
  rw [List.any_eq_true]
  exact ⟨fun ⟨j, hj, h⟩ => ⟨j, List.mem_range.1 hj, h⟩, fun ⟨j, hj, h⟩ => ⟨j, List.mem_range.2 hj, h⟩⟩
theorem all_range {α : Type} (l : List α) (d : α) (f : α → Bool) : (List.range l.length).all (fun i => f (l.getD i d)) = l.all f := by
  rw [Bool.eq_iff_iff, range_all_iff, List.all_eq_true]
  constructor
  · intro h x hx
    obtain ⟨j, hj, rfl⟩ := List.getElem_of_mem hx
    have := h j hj
    simpa [List.getD, List.getElem?_eq_getElem hj] using this
  · intro h j hj
    simp only [List.getD, List.getElem?_eq_getElem hj, Option.getD_some]
    exact h _ (List.getElem_mem hj)
theorem any_range {α : Type} (l : List α) (d : α) (f : α → Bool) : (List.range l.length).any (fun i => f (l.getD i d)) = l.any f := by
  rw [Bool.eq_iff_iff, range_any_iff, List.any_eq_true]
  constructor
  · rintro ⟨j, hj, h⟩
    refine ⟨_, List.getElem_mem hj, ?_⟩
    simpa [List.getD, List.getElem?_eq_getElem hj] using h
  · rintro ⟨x, hx, h⟩
    obtain ⟨j, hj, rfl⟩ := List.getElem_of_mem hx
    exact ⟨j, hj, by simpa [List.getD, List.getElem?_eq_getElem hj] using h⟩
end Go.Proofs.Ytkaalinoiilmoaa
namespace Go.Proofs.Ytkaalinoiilmoaa
open Go.RowKit
set_option linter.unusedVariables false
set_option maxRecDepth 100000
theorem may_yes (a n s : Int) (w : World) (h0 : 0 ≤ a) (h1 : 0 ≤ n) (h2 : a ≤ s) (h3 : n ≤ s - a) (h4 : s ≤ 9223372036854775807) :
    Calls Try.prog 81 #[.int .i64 a, .int .i64 n, .int .i64 s] w fun e w' => e = .returned (.bool true) ∧ w = w' := by
  go_enter Try.func81, Try.ntmps81
  go_wp2
  go_ret
  exact ⟨rfl, rfl⟩
theorem may_no (a n s : Int) (w : World) (h : ¬ (0 ≤ a ∧ 0 ≤ n ∧ a ≤ s ∧ n ≤ s - a)) (h4 : s ≤ 9223372036854775807) :
    Calls Try.prog 81 #[.int .i64 a, .int .i64 n, .int .i64 s] w fun e w' => e = .returned (.bool false) ∧ w = w' := by
  by_cases ha : 0 ≤ a
  · by_cases hn : 0 ≤ n
    · by_cases hs : a ≤ s
      · have hd : decide (n ≤ s - a) = false := by simp; omega
        have hl : s - a < n := by omega
        clear h
        go_enter Try.func81, Try.ntmps81
        go_wp2
        go_ret
        exact ⟨rfl, rfl⟩
      · clear h
        go_enter Try.func81, Try.ntmps81
        go_wp2
        go_ret
        exact ⟨rfl, rfl⟩
    · clear h
      go_enter Try.func81, Try.ntmps81
      go_wp2
      go_ret
      exact ⟨rfl, rfl⟩
  · clear h
    go_enter Try.func81, Try.ntmps81
    go_wp2
    go_ret
    exact ⟨rfl, rfl⟩
end Go.Proofs.Ytkaalinoiilmoaa
namespace Go.Proofs.Ytkaalinoiilmoaa
open Go.RowKit
set_option linter.unusedVariables false
set_option linter.unusedSimpArgs false
set_option maxRecDepth 100000
structure Gr where
  f : Int
  t : Int
  wr : Bool
structure De where
  pt : Int
  po : List Int
structure Cf where
  fr : Int
  ps : List Pa
  ds : List De
  mj : Int
  ws : List Win
  gs : List Gr
  se : Int
  qu : Int
  qt : Int
def updT (T : Nat → Int) (k : Nat) (o : Int) : Nat → Int := fun i => if i = k then o else T i
def fgB (F : Int) (T : Nat → Int) (x : Int) : Bool := decide (0 ≤ x ∧ x < F) && decide (T x.toNat = -1)
def giB (F o : Int) : (Nat → Int) → List Int → Bool
  | _, [] => true
  | T, x :: l => fgB F T x && giB F o (updT T x.toNat o) l
def giT (o : Int) : (Nat → Int) → List Int → (Nat → Int)
  | T, [] => T
  | T, x :: l => giT o (updT T x.toNat o) l
def gpB (F : Int) : Int → (Nat → Int) → List Pa → Bool
  | _, _, [] => true
  | i, T, p :: l => giB F i T p.fr && gpB F (i + 1) (giT i T p.fr) l
def gpT : Int → (Nat → Int) → List Pa → (Nat → Int)
  | _, T, [] => T
  | i, T, p :: l => gpT (i + 1) (giT i T p.fr) l
def gdB (F : Int) : (Nat → Int) → List De → Bool
  | _, [] => true
  | T, d :: l => giB F (-2) T d.po && gdB F (giT (-2) T d.po) l
def gdT : (Nat → Int) → List De → (Nat → Int)
  | T, [] => T
  | T, d :: l => gdT (giT (-2) T d.po) l
def freeT : Nat → Int := fun _ => -1
def unB (c : Cf) : Bool := gpB c.fr 0 freeT c.ps && gdB c.fr (gpT 0 freeT c.ps) c.ds
def ownM (c : Cf) : Nat → Int := gdT (gpT 0 freeT c.ps) c.ds
def ownP : Int → List Pa → Int → Int
  | _, [], _ => -1
  | i, p :: l, f => if f ∈ p.fr then i else ownP (i + 1) l f
def ownF (c : Cf) (f : Int) : Int := ownP 0 c.ps f
def btw (lo hi n : Int) : Bool := decide (lo ≤ n ∧ n ≤ hi)
def paB (p : Pa) : Bool := lB p.lv p.ct && decide (0 < p.fr.length)
def dvB_Cf0 (n : Nat) (d : De) : Bool := inP n d.pt && btw 2 5 d.po.length
def hasW (ws : List Win) (i : Int) : Bool := ws.any fun x => decide (x.p = i)
def okG (c : Cf) (g : Gr) : Bool := decide (0 ≤ ownF c g.f) && (inP c.ps.length g.t && decide (g.t ≠ ownF c g.f))
def sgB (g h : Gr) : Bool := decide (h.f = g.f ∧ h.t = g.t)
def grB (c : Cf) : List Gr → List Gr → Bool
  | _, [] => true
  | s, g :: l => (okG c g && !s.any (sgB g)) && grB c (s ++ [g]) l
def frB_Cf0 (c : Cf) : Bool := btw 1 64 c.fr
def psB (c : Cf) : Bool := btw 1 4 c.ps.length && c.ps.all paB
def dsB (c : Cf) : Bool := btw 1 4 c.ds.length && c.ds.all (dvB_Cf0 c.ps.length)
def wsB (c : Cf) : Bool := mayW c.ws c.mj c.ps.length && (List.range c.ps.length).all (fun i => hasW c.ws i)
def gsB (c : Cf) : Bool := grB c [] c.gs
def shB (c : Cf) : Bool := extB (c.ps.map Pa.fc) c.se
def quB (c : Cf) : Bool := btw 0 64 c.qu
def qtB (c : Cf) : Bool := btw 1 8 c.qt
def cfMay (c : Cf) : Bool := frB_Cf0 c && (psB c && (dsB c && (unB c && (wsB c && (gsB c && (shB c && (quB c && qtB c)))))))
theorem giB_go (F o : Int) : ∀ (l : List Int) (T : Nat → Int), (List.range l.length).all (fun i => fgB F (giT o T (l.take i)) (l.getD i 0)) = giB F o T l := by
  intro l
  induction l with
  | nil => intro T; rfl
  | cons x l ih =>
    intro T
    rw [List.length_cons, List.range_succ_eq_map, List.all_cons, List.all_map]
    have h0 : fgB F (giT o T ((x :: l).take 0)) ((x :: l).getD 0 0) = fgB F T x := by simp [giT]
    rw [h0]
    simp only [giB]
    congr 1
    rw [← ih (updT T x.toNat o)]
    rfl
theorem giT_take (o : Int) : ∀ (l : List Int) (T : Nat → Int) (k : Nat), k < l.length → giT o T (l.take (k + 1)) = updT (giT o T (l.take k)) (l.getD k 0).toNat o := by
  intro l
  induction l with
  | nil => intro T k h; simp at h
  | cons x l ih =>
    intro T k h
    match k with
    | 0 => simp [giT]
    | k + 1 =>
      rw [List.take_succ_cons, List.take_succ_cons]
      simp only [giT]
      rw [ih _ k (by simpa using h)]
      rfl
theorem gpT_take : ∀ (l : List Pa) (i : Int) (T : Nat → Int) (k : Nat), k < l.length → gpT i T (l.take (k + 1)) = giT (i + k) (gpT i T (l.take k)) (l.getD k paD).fr := by
  intro l
  induction l with
  | nil => intro i T k h; simp at h
  | cons x l ih =>
    intro i T k h
    match k with
    | 0 => simp [gpT]
    | k + 1 =>
      rw [List.take_succ_cons, List.take_succ_cons]
      simp only [gpT]
      rw [ih _ _ k (by simpa using h)]
      rw [show i + 1 + (k : Int) = i + ((k + 1 : Nat) : Int) by omega]
      rfl
theorem gpB_at (F : Int) : ∀ (l : List Pa) (i : Int) (T : Nat → Int) (k : Nat), k < l.length → gpB F (i + k) (gpT i T (l.take k)) (l.drop k) = (giB F (i + k) (gpT i T (l.take k)) (l.getD k paD).fr && gpB F (i + (k + 1 : Nat)) (gpT i T (l.take (k + 1))) (l.drop (k + 1))) := by
  intro l i T k h
  rw [gpT_take l i T k h, List.drop_eq_getElem_cons h]
  simp only [gpB, List.getD, List.getElem?_eq_getElem h, Option.getD_some]
  rw [show i + (k : Int) + 1 = i + ((k + 1 : Nat) : Int) by omega]
def deD : De := ⟨0, []⟩
theorem gdT_take : ∀ (l : List De) (T : Nat → Int) (k : Nat), k < l.length → gdT T (l.take (k + 1)) = giT (-2) (gdT T (l.take k)) (l.getD k deD).po := by
  intro l
  induction l with
  | nil => intro T k h; simp at h
  | cons x l ih =>
    intro T k h
    match k with
    | 0 => simp [gdT]
    | k + 1 =>
      rw [List.take_succ_cons, List.take_succ_cons]
      simp only [gdT]
      rw [ih _ k (by simpa using h)]
      rfl
theorem gdB_at (F : Int) : ∀ (l : List De) (T : Nat → Int) (k : Nat), k < l.length → gdB F (gdT T (l.take k)) (l.drop k) = (giB F (-2) (gdT T (l.take k)) (l.getD k deD).po && gdB F (gdT T (l.take (k + 1))) (l.drop (k + 1))) := by
  intro l T k h
  rw [gdT_take l T k h, List.drop_eq_getElem_cons h]
  simp only [gdB, List.getD, List.getElem?_eq_getElem h, Option.getD_some]
theorem fgB_of {F : Int} {T : Nat → Int} {x : Int} (h : fgB F T x = true) : 0 ≤ x ∧ x < F ∧ T x.toNat = -1 := by
  unfold fgB at h
  simp only [Bool.and_eq_true, decide_eq_true_eq] at h
  exact ⟨h.1.1, h.1.2, h.2⟩
theorem giB_mem {F o : Int} (ho : o ≠ -1) : ∀ (l : List Int) (T : Nat → Int), giB F o T l = true → ∀ x ∈ l, 0 ≤ x ∧ x < F ∧ T x.toNat = -1 := by
  intro l
  induction l with
  | nil => intro T _ x hx; cases hx
  | cons y l ih =>
    intro T h x hx
    simp only [giB, Bool.and_eq_true] at h
    have h0 := fgB_of h.1
    rcases List.mem_cons.1 hx with rfl | hx
    · exact h0
    · obtain ⟨h1, h2, h3⟩ := ih _ h.2 x hx
      refine ⟨h1, h2, ?_⟩
      unfold updT at h3
      split at h3
      · exact absurd h3 ho
      · exact h3
theorem giT_at {F o : Int} (ho : o ≠ -1) : ∀ (l : List Int) (T : Nat → Int), giB F o T l = true → ∀ k : Nat, giT o T l k = if (k : Int) ∈ l then o else T k := by
  intro l
  induction l with
  | nil => intro T _ k; simp [giT]
  | cons y l ih =>
    intro T h k
    simp only [giB, Bool.and_eq_true] at h
    obtain ⟨h1, h2, h3⟩ := fgB_of h.1
    simp only [giT]
    rw [ih _ h.2 k]
    by_cases hk : (k : Int) ∈ l
    · rw [if_pos hk, if_pos (List.mem_cons_of_mem _ hk)]
    · rw [if_neg hk]
      unfold updT
      by_cases e : k = y.toNat
      · rw [if_pos e, if_pos (by rw [e, Int.toNat_of_nonneg h1]; exact List.mem_cons_self ..)]
      · rw [if_neg e, if_neg (by
          intro hm
          rcases List.mem_cons.1 hm with hm | hm
          · exact e (by omega)
          · exact hk hm)]
theorem ownP_lo : ∀ (l : List Pa) (i f : Int), ownP i l f = -1 ∨ i ≤ ownP i l f ∧ ownP i l f < i + l.length := by
  intro l
  induction l with
  | nil => intro i f; exact .inl rfl
  | cons p l ih =>
    intro i f
    simp only [ownP, List.length_cons]
    split
    · right; omega
    · rcases ih (i + 1) f with h | h
      · exact .inl h
      · right; omega
theorem gpB_taken {F : Int} : ∀ (l : List Pa) (i : Int) (T : Nat → Int), 0 ≤ i → gpB F i T l = true → ∀ k : Nat, T k ≠ -1 → ownP i l k = -1 ∧ gpT i T l k = T k := by
  intro l
  induction l with
  | nil => intro i T _ _ k _; exact ⟨rfl, rfl⟩
  | cons p l ih =>
    intro i T hi h k hk
    simp only [gpB, Bool.and_eq_true] at h
    have hn : ¬ (k : Int) ∈ p.fr := by
      intro hm
      have := (giB_mem (by omega) _ _ h.1 _ hm).2.2
      simp only [Int.toNat_natCast] at this
      exact hk this
    have h1 := giT_at (by omega) _ _ h.1 k
    rw [if_neg hn] at h1
    obtain ⟨h2, h3⟩ := ih (i + 1) _ (by omega) h.2 k (by rw [h1]; exact hk)
    simp only [ownP, gpT]
    rw [if_neg hn]
    exact ⟨h2, by rw [h3, h1]⟩
theorem gpT_at {F : Int} : ∀ (l : List Pa) (i : Int) (T : Nat → Int), 0 ≤ i → gpB F i T l = true → ∀ k : Nat, gpT i T l k = if ownP i l k = -1 then T k else ownP i l k := by
  intro l
  induction l with
  | nil => intro i T _ _ k; simp [gpT, ownP]
  | cons p l ih =>
    intro i T hi h k
    simp only [gpB, Bool.and_eq_true] at h
    have h1 := giT_at (show i ≠ -1 by omega) _ _ h.1 k
    have e0 : ownP i (p :: l) k = if (k : Int) ∈ p.fr then i else ownP (i + 1) l k := rfl
    simp only [gpT]
    by_cases hm : (k : Int) ∈ p.fr
    · rw [if_pos hm] at h1 e0
      rw [e0, (gpB_taken l (i + 1) _ (by omega) h.2 k (by rw [h1]; omega)).2, h1, if_neg (show ¬ i = -1 by omega)]
    · rw [if_neg hm] at h1 e0
      rw [e0, ih (i + 1) _ (by omega) h.2 k, h1]
theorem gdT_at {F : Int} : ∀ (l : List De) (T : Nat → Int), gdB F T l = true → ∀ k : Nat, (T k ≠ -1 → gdT T l k = T k) ∧ (T k = -1 → gdT T l k < 0) := by
  intro l
  induction l with
  | nil => intro T _ k; exact ⟨fun _ => rfl, fun h => by simp only [gdT]; omega⟩
  | cons d l ih =>
    intro T h k
    simp only [gdB, Bool.and_eq_true] at h
    have h1 := giT_at (show (-2 : Int) ≠ -1 by omega) _ _ h.1 k
    obtain ⟨h2, h3⟩ := ih _ h.2 k
    simp only [gdT]
    constructor
    · intro hk
      have hn : ¬ (k : Int) ∈ d.po := by
        intro hm
        have := (giB_mem (by omega) _ _ h.1 _ hm).2.2
        simp only [Int.toNat_natCast] at this
        exact hk this
      rw [if_neg hn] at h1
      rw [h2 (by rw [h1]; exact hk), h1]
    · intro hk
      by_cases hm : (k : Int) ∈ d.po
      · rw [if_pos hm] at h1
        rw [h2 (by rw [h1]; omega), h1]; omega
      · rw [if_neg hm] at h1
        exact h3 (by rw [h1]; exact hk)
theorem ownP_range {F : Int} : ∀ (l : List Pa) (i : Int) (T : Nat → Int), 0 ≤ i → gpB F i T l = true → ∀ f : Int, ownP i l f ≠ -1 → 0 ≤ f ∧ f < F := by
  intro l
  induction l with
  | nil => intro i T _ _ f h; exact absurd rfl h
  | cons p l ih =>
    intro i T hi h f hf
    simp only [gpB, Bool.and_eq_true] at h
    simp only [ownP] at hf
    by_cases hm : f ∈ p.fr
    · have := giB_mem (show i ≠ -1 by omega) _ _ h.1 _ hm
      exact ⟨this.1, this.2.1⟩
    · rw [if_neg hm] at hf
      exact ih (i + 1) _ (by omega) h.2 f hf
theorem own_table {c : Cf} (h : unB c = true) (f : Int) : ownF c f = -1 ∨ (0 ≤ ownF c f ∧ ownF c f < c.ps.length ∧ 0 ≤ f ∧ f < c.fr ∧ ownM c f.toNat = ownF c f) := by
  unfold unB at h
  rw [Bool.and_eq_true] at h
  by_cases hf : ownF c f = -1
  · exact .inl hf
  · right
    have hr := ownP_range _ _ _ (by omega) h.1 f hf
    have hl := ownP_lo c.ps 0 f
    have h1 := gpT_at _ _ _ (by omega) h.1 f.toNat
    have hn : ownP 0 c.ps f ≠ -1 := hf
    rw [Int.toNat_of_nonneg hr.1, if_neg hn] at h1
    have h2 := (gdT_at _ _ h.2 f.toNat).1 (by rw [h1]; exact hn)
    refine ⟨by unfold ownF; omega, by unfold ownF; omega, hr.1, hr.2, ?_⟩
    show gdT _ _ _ = _
    rw [h2, h1]; rfl
theorem own_table_no {c : Cf} (h : unB c = true) (f : Int) (hf : ownF c f = -1) (h0 : 0 ≤ f) : ownM c f.toNat < 0 := by
  unfold unB at h
  rw [Bool.and_eq_true] at h
  have h1 := gpT_at _ _ _ (by omega) h.1 f.toNat
  rw [Int.toNat_of_nonneg h0] at h1
  have hf' : ownP 0 c.ps f = -1 := hf
  rw [if_pos hf'] at h1
  exact (gdT_at _ _ h.2 f.toNat).2 (by rw [h1]; rfl)
end Go.Proofs.Ytkaalinoiilmoaa
namespace Go.Proofs.Ytkaalinoiilmoaa
open Go.RowKit
set_option linter.unusedVariables false
set_option linter.unusedSimpArgs false
set_option maxRecDepth 100000
set_option maxHeartbeats 1000000 in
theorem if_Part (A : Option Addr) (b o n cap : Nat) (a0 : Nat) (c0 c1 c2 c3 c4 : Nat → Value) (p : Nat → Bool) (S : Nat → Prop) (I : Nat → World → Prop) (w : World) (hn : n ≤ maxLen) (hA : 0 < n → A = some ⟨b, o, none⟩)
    (hr : ∀ i W, i < n → I i W → W.cell? ⟨b, o + i * 5, none⟩ = some (c0 i) ∧ W.cell? ⟨b, o + i * 5 + 1, none⟩ = some (c1 i) ∧ W.cell? ⟨b, o + i * 5 + 2, none⟩ = some (c2 i) ∧ W.cell? ⟨b, o + i * 5 + 3, none⟩ = some (c3 i) ∧ W.cell? ⟨b, o + i * 5 + 4, none⟩ = some (c4 i))
    (hG : ∀ i W, i < n → (∀ j, j < i → p j = false) → I i W → Calls Try.prog 72 #[(.agg #[c0 i, c1 i, c2 i, c3 i, c4 i]), .pointer (some ⟨a0, 0, none⟩)] W fun e w' => e = .returned (.bool (p i)) ∧ I (i + 1) w' ∧ Fo S W w') (h0 : I 0 w) :
    Calls Try.prog 85 #[.slice A n cap, .func (.func 72) #[] #[.pointer (some ⟨a0, 0, none⟩)]] w fun e w' => ∃ r : Int, e = .returned (.int .i64 r) ∧ decide (r ≥ 0) = (List.range n).any p ∧ (∃ k, k ≤ n ∧ I k w' ∧ (r < 0 → k = n)) ∧ Fo S w w' := by
  have HA := Lib.hid hA; have HR := Lib.hid hr; have HG := Lib.hid hG; have H0 := Lib.hid h0
  unfold maxLen at hn
  clear hA hr hG h0
  go_enter Try.func85, Try.ntmps85
  go_wp2_with fail
  go_loopw [8] (fun i wr => ∃ k : Nat, k ≤ n ∧ i = .int .i64 k ∧ Hid ((∀ j, j < k → p j = false) ∧ I k wr ∧ Fo S w wr)) (fun i _ => n - (intOf i).toNat)
  case atStart => exact ⟨0, by omega, rfl, Lib.hid ⟨fun j hj => by omega, H0.out, Fo.refl _ _⟩⟩
  case round =>
    obtain ⟨k, hk, rfl, HX⟩ := hrel
    by_cases hlt : k < n
    · obtain rfl := HA.out (by omega)
      obtain ⟨x0, x1, x2, x3, x4⟩ := HR.out k wr hlt HX.out.2.1
      have HC := Lib.hid (HG.out k wr hlt HX.out.1 HX.out.2.1)
      generalize c0 k = e0 at * ; generalize c1 k = e1 at * ; generalize c2 k = e2 at * ; generalize c3 k = e3 at * ; generalize c4 k = e4 at *
      go_wp2_with fail
      refine HC.out.mono ?_
      rintro e w1 ⟨rfl, hi, hf⟩
      have HI := Lib.hid hi
      have HF := Lib.hid (HX.out.2.2.trans hf)
      clear x0 x1 x2 x3 x4 hi hf
      cases hp : p k with
      | true =>
        have HP := Lib.hid hp
        clear hp
        go_wp2_with fail
        go_ret
        exact ⟨_, rfl, (by rw [range_any_yes hlt HP.out]; exact decide_eq_true (by omega)), ⟨k + 1, by omega, HI.out, fun h => by omega⟩, HF.out⟩
      | false =>
        have HP := Lib.hid hp
        clear hp
        go_wp2_with fail
        go_roundw
        case rel => exact ⟨k + 1, by omega, by go_num, Lib.hid ⟨fun j hj => by
          by_cases e : j = k
          · rw [e]; exact HP.out
          · exact HX.out.1 j (by omega), HI.out, HF.out⟩⟩
        case measure => simp [intOf]; omega
    · obtain rfl : k = n := by omega
      go_wp2_with fail
      go_ret
      exact ⟨_, rfl, (by rw [range_any_no HX.out.1]; rfl), ⟨k, by omega, HX.out.2.1, fun _ => rfl⟩, HX.out.2.2⟩
theorem cf_Part (A : Option Addr) (b o n cap : Nat) (a0 : Nat) (c0 c1 c2 c3 c4 : Nat → Value) (p : Nat → Bool) (S : Nat → Prop) (I : Nat → World → Prop) (w : World) (hn : n ≤ maxLen) (hA : 0 < n → A = some ⟨b, o, none⟩)
    (hr : ∀ i W, i < n → I i W → W.cell? ⟨b, o + i * 5, none⟩ = some (c0 i) ∧ W.cell? ⟨b, o + i * 5 + 1, none⟩ = some (c1 i) ∧ W.cell? ⟨b, o + i * 5 + 2, none⟩ = some (c2 i) ∧ W.cell? ⟨b, o + i * 5 + 3, none⟩ = some (c3 i) ∧ W.cell? ⟨b, o + i * 5 + 4, none⟩ = some (c4 i))
    (hG : ∀ i W, i < n → (∀ j, j < i → p j = false) → I i W → Calls Try.prog 72 #[(.agg #[c0 i, c1 i, c2 i, c3 i, c4 i]), .pointer (some ⟨a0, 0, none⟩)] W fun e w' => e = .returned (.bool (p i)) ∧ I (i + 1) w' ∧ Fo S W w') (h0 : I 0 w) :
    Calls Try.prog 71 #[.slice A n cap, .func (.func 72) #[] #[.pointer (some ⟨a0, 0, none⟩)]] w fun e w' => e = .returned (.bool ((List.range n).any p)) ∧ Upto n I w' (!(List.range n).any p) ∧ Fo S w w' := by
  have HC := Lib.hid (if_Part A b o n cap a0 c0 c1 c2 c3 c4 p S I w hn hA hr hG h0)
  clear hA hr hG h0
  generalize (List.range n).any p = R at *
  go_enter Try.func71, Try.ntmps71
  go_wp2_with fail
  refine HC.out.mono ?_
  rintro e w1 ⟨r, rfl, hr, hi, hf⟩
  have HI := Lib.hid hi; have HF := Lib.hid hf
  clear hi hf
  cases R
  all_goals
    go_wp2_with fail
    go_ret
  · refine ⟨rfl, ?_, HF.out⟩
    obtain ⟨k, hk, h1, h2⟩ := HI.out
    exact ⟨k, hk, h1, fun _ => h2 (by have := of_decide_eq_false hr; omega)⟩
  · refine ⟨rfl, ?_, HF.out⟩
    obtain ⟨k, hk, h1, h2⟩ := HI.out
    exact ⟨k, hk, h1, fun h => by cases h⟩
theorem e1_Part (g : Nat) (e0 e1 e2 e3 e4 : Value) (q : Bool) (Q : World → Prop) (S : Nat → Prop) (w : World) (hg : Blk w g 98 [.func (.func 55) #[] #[]])
    (hst : ∀ W W', Q W → Below W.heap.size W W' → Q W') (Q' : World → Prop) (hq : Q w)
    (hH : ∀ W, Q W → Calls Try.prog 55 #[.agg #[e0, e1, e2, e3, e4]] W fun e w' => e = .returned (.bool q) ∧ Q' w' ∧ Fo S W w') :
    Calls Try.prog 72 #[.agg #[e0, e1, e2, e3, e4], .pointer (some ⟨g, 0, none⟩)] w fun e w' => e = .returned (.bool (!q)) ∧ Q' w' ∧ Fo S w w' := by
  have hb0 : Below w.heap.size w (w.alloc (.cells #[e0, e1, e2, e3, e4] 48)) := (Below.refl _ _).alloc (Nat.le_refl _) _
  have hb1 : Blk (w.alloc (.cells #[e0, e1, e2, e3, e4] 48)) w.heap.size 48 [e0, e1, e2, e3, e4] := Blk.new _ _ _
  have hg1 := hg.alloc (.cells #[e0, e1, e2, e3, e4] 48)
  have cg := hg1.cell 0
  simp only [List.getElem?_cons_zero] at cg
  have k0 := hb1.cell 0
  have k1 := hb1.cell 1
  have k2 := hb1.cell 2
  have k3 := hb1.cell 3
  have k4 := hb1.cell 4
  simp only [List.getElem?_cons_zero, List.getElem?_cons_succ] at k0 k1 k2 k3 k4
  have HC := Lib.hid (hH _ (hst _ _ hq hb0)); have HB := Lib.hid hb0
  clear hb0 hb1 hg1 hg hH hst hq
  go_enter Try.func72, Try.ntmps72
  go_wp2_with fail
  refine HC.out.mono ?_
  rintro e w1 ⟨rfl, h1, h2⟩
  go_wp2_with fail
  go_ret
  exact ⟨rfl, h1, (Fo.of HB.out S).trans_new h2 (fun i hi => .inl hi)⟩
theorem each_Part (A : Option Addr) (b o n cap : Nat) (c0 c1 c2 c3 c4 : Nat → Value) (q : Nat → Bool) (S : Nat → Prop) (I : Nat → World → Prop) (w : World) (hn : n ≤ maxLen) (hA : 0 < n → A = some ⟨b, o, none⟩)
    (hS : ∀ k, S k → k < w.heap.size) (hst : ∀ i W W', I i W → Below W.heap.size W W' → I i W')
    (hr : ∀ i W, i < n → I i W → W.cell? ⟨b, o + i * 5, none⟩ = some (c0 i) ∧ W.cell? ⟨b, o + i * 5 + 1, none⟩ = some (c1 i) ∧ W.cell? ⟨b, o + i * 5 + 2, none⟩ = some (c2 i) ∧ W.cell? ⟨b, o + i * 5 + 3, none⟩ = some (c3 i) ∧ W.cell? ⟨b, o + i * 5 + 4, none⟩ = some (c4 i))
    (hH : ∀ i W, i < n → (∀ j, j < i → q j = true) → I i W → Calls Try.prog 55 #[(.agg #[c0 i, c1 i, c2 i, c3 i, c4 i])] W fun e w' => e = .returned (.bool (q i)) ∧ I (i + 1) w' ∧ Fo S W w') (h0 : I 0 w) :
    Calls Try.prog 54 #[.slice A n cap, .func (.func 55) #[] #[]] w fun e w' => e = .returned (.bool ((List.range n).all q)) ∧ Upto n I w' ((List.range n).all q) ∧ Fo S w w' := by
  have hb0 : Below w.heap.size w (w.alloc (.cells #[.func (.func 55) #[] #[]] 98)) := (Below.refl _ _).alloc (Nat.le_refl _) _
  have hb1 : Blk (w.alloc (.cells #[.func (.func 55) #[] #[]] 98)) w.heap.size 98 [.func (.func 55) #[] #[]] := Blk.new _ _ _
  have hC := cf_Part A b o n cap w.heap.size c0 c1 c2 c3 c4 (fun i => !q i) S (fun i W => I i W ∧ Blk W w.heap.size 98 [.func (.func 55) #[] #[]]) _ hn hA (fun i W hi h => hr i W hi h.1)
    (fun i W hi hj h => (e1_Part w.heap.size  _ _ _ _ _ (q i) (I i) S W h.2 (hst i) (fun w' => I (i + 1) w') h.1 (fun W' h' => hH i W' hi (fun j hj' => by have := hj j hj'; simpa using this) h')).mono (fun e w' ⟨he, h1, h2⟩ => ⟨he, ⟨h1, h2.blk h.2 (fun hs => by have := hS _ hs; omega)⟩, h2⟩)) ⟨hst 0 _ _ h0 hb0, hb1⟩
  have e1 : (List.range n).any (fun i => !q i) = !(List.range n).all q := range_any_not _ _
  rw [e1] at hC
  have HC := Lib.hid hC; have HB := Lib.hid hb0
  clear hC e1 hb0 hb1 hA hS hst hr hH h0
  generalize (List.range n).all q = R at *
  go_enter Try.func54, Try.ntmps54
  go_wp2_with fail
  refine HC.out.mono ?_
  rintro e w1 ⟨rfl, hk, hf⟩
  have HK := Lib.hid hk; have HF := Lib.hid hf
  clear hk hf
  cases R
  all_goals
    go_wp2_with fail
    go_ret
    refine ⟨rfl, ?_, (Fo.of HB.out S).trans_new HF.out (fun i hi => .inl hi)⟩
    obtain ⟨k, hk, h1, h2⟩ := HK.out
    exact ⟨k, hk, h1.1, fun h => h2 (by first | exact h | cases h | rfl)⟩
end Go.Proofs.Ytkaalinoiilmoaa
namespace Go.Proofs.Ytkaalinoiilmoaa
open Go.RowKit
set_option linter.unusedVariables false
set_option linter.unusedSimpArgs false
set_option maxRecDepth 100000
set_option maxHeartbeats 1000000 in
theorem if_Dev (A : Option Addr) (b o n cap : Nat) (a0 : Nat) (c0 c1 : Nat → Value) (p : Nat → Bool) (S : Nat → Prop) (I : Nat → World → Prop) (w : World) (hn : n ≤ maxLen) (hA : 0 < n → A = some ⟨b, o, none⟩)
    (hr : ∀ i W, i < n → I i W → W.cell? ⟨b, o + i * 2, none⟩ = some (c0 i) ∧ W.cell? ⟨b, o + i * 2 + 1, none⟩ = some (c1 i))
    (hG : ∀ i W, i < n → (∀ j, j < i → p j = false) → I i W → Calls Try.prog 74 #[(.agg #[c0 i, c1 i]), .pointer (some ⟨a0, 0, none⟩)] W fun e w' => e = .returned (.bool (p i)) ∧ I (i + 1) w' ∧ Fo S W w') (h0 : I 0 w) :
    Calls Try.prog 86 #[.slice A n cap, .func (.func 74) #[] #[.pointer (some ⟨a0, 0, none⟩)]] w fun e w' => ∃ r : Int, e = .returned (.int .i64 r) ∧ decide (r ≥ 0) = (List.range n).any p ∧ (∃ k, k ≤ n ∧ I k w' ∧ (r < 0 → k = n)) ∧ Fo S w w' := by
  have HA := Lib.hid hA; have HR := Lib.hid hr; have HG := Lib.hid hG; have H0 := Lib.hid h0
  unfold maxLen at hn
  clear hA hr hG h0
  go_enter Try.func86, Try.ntmps86
  go_wp2_with fail
  go_loopw [8] (fun i wr => ∃ k : Nat, k ≤ n ∧ i = .int .i64 k ∧ Hid ((∀ j, j < k → p j = false) ∧ I k wr ∧ Fo S w wr)) (fun i _ => n - (intOf i).toNat)
  case atStart => exact ⟨0, by omega, rfl, Lib.hid ⟨fun j hj => by omega, H0.out, Fo.refl _ _⟩⟩
  case round =>
    obtain ⟨k, hk, rfl, HX⟩ := hrel
    by_cases hlt : k < n
    · obtain rfl := HA.out (by omega)
      obtain ⟨x0, x1⟩ := HR.out k wr hlt HX.out.2.1
      have HC := Lib.hid (HG.out k wr hlt HX.out.1 HX.out.2.1)
      generalize c0 k = e0 at * ; generalize c1 k = e1 at *
      go_wp2_with fail
      refine HC.out.mono ?_
      rintro e w1 ⟨rfl, hi, hf⟩
      have HI := Lib.hid hi
      have HF := Lib.hid (HX.out.2.2.trans hf)
      clear x0 x1 hi hf
      cases hp : p k with
      | true =>
        have HP := Lib.hid hp
        clear hp
        go_wp2_with fail
        go_ret
        exact ⟨_, rfl, (by rw [range_any_yes hlt HP.out]; exact decide_eq_true (by omega)), ⟨k + 1, by omega, HI.out, fun h => by omega⟩, HF.out⟩
      | false =>
        have HP := Lib.hid hp
        clear hp
        go_wp2_with fail
        go_roundw
        case rel => exact ⟨k + 1, by omega, by go_num, Lib.hid ⟨fun j hj => by
          by_cases e : j = k
          · rw [e]; exact HP.out
          · exact HX.out.1 j (by omega), HI.out, HF.out⟩⟩
        case measure => simp [intOf]; omega
    · obtain rfl : k = n := by omega
      go_wp2_with fail
      go_ret
      exact ⟨_, rfl, (by rw [range_any_no HX.out.1]; rfl), ⟨k, by omega, HX.out.2.1, fun _ => rfl⟩, HX.out.2.2⟩
theorem cf_Dev (A : Option Addr) (b o n cap : Nat) (a0 : Nat) (c0 c1 : Nat → Value) (p : Nat → Bool) (S : Nat → Prop) (I : Nat → World → Prop) (w : World) (hn : n ≤ maxLen) (hA : 0 < n → A = some ⟨b, o, none⟩)
    (hr : ∀ i W, i < n → I i W → W.cell? ⟨b, o + i * 2, none⟩ = some (c0 i) ∧ W.cell? ⟨b, o + i * 2 + 1, none⟩ = some (c1 i))
    (hG : ∀ i W, i < n → (∀ j, j < i → p j = false) → I i W → Calls Try.prog 74 #[(.agg #[c0 i, c1 i]), .pointer (some ⟨a0, 0, none⟩)] W fun e w' => e = .returned (.bool (p i)) ∧ I (i + 1) w' ∧ Fo S W w') (h0 : I 0 w) :
    Calls Try.prog 73 #[.slice A n cap, .func (.func 74) #[] #[.pointer (some ⟨a0, 0, none⟩)]] w fun e w' => e = .returned (.bool ((List.range n).any p)) ∧ Upto n I w' (!(List.range n).any p) ∧ Fo S w w' := by
  have HC := Lib.hid (if_Dev A b o n cap a0 c0 c1 p S I w hn hA hr hG h0)
  clear hA hr hG h0
  generalize (List.range n).any p = R at *
  go_enter Try.func73, Try.ntmps73
  go_wp2_with fail
  refine HC.out.mono ?_
  rintro e w1 ⟨r, rfl, hr, hi, hf⟩
  have HI := Lib.hid hi; have HF := Lib.hid hf
  clear hi hf
  cases R
  all_goals
    go_wp2_with fail
    go_ret
  · refine ⟨rfl, ?_, HF.out⟩
    obtain ⟨k, hk, h1, h2⟩ := HI.out
    exact ⟨k, hk, h1, fun _ => h2 (by have := of_decide_eq_false hr; omega)⟩
  · refine ⟨rfl, ?_, HF.out⟩
    obtain ⟨k, hk, h1, h2⟩ := HI.out
    exact ⟨k, hk, h1, fun h => by cases h⟩
theorem e1_Dev (g : Nat) (y0 : Nat) (e0 e1 : Value) (q : Bool) (Q : World → Prop) (S : Nat → Prop) (w : World) (hg : Blk w g 100 [.func (.func 58) #[] #[.pointer (some ⟨y0, 0, none⟩)]])
    (hst : ∀ W W', Q W → Below W.heap.size W W' → Q W') (Q' : World → Prop) (hq : Q w)
    (hH : ∀ W, Q W → Calls Try.prog 58 #[.agg #[e0, e1], .pointer (some ⟨y0, 0, none⟩)] W fun e w' => e = .returned (.bool q) ∧ Q' w' ∧ Fo S W w') :
    Calls Try.prog 74 #[.agg #[e0, e1], .pointer (some ⟨g, 0, none⟩)] w fun e w' => e = .returned (.bool (!q)) ∧ Q' w' ∧ Fo S w w' := by
  have hb0 : Below w.heap.size w (w.alloc (.cells #[e0, e1] 64)) := (Below.refl _ _).alloc (Nat.le_refl _) _
  have hb1 : Blk (w.alloc (.cells #[e0, e1] 64)) w.heap.size 64 [e0, e1] := Blk.new _ _ _
  have hg1 := hg.alloc (.cells #[e0, e1] 64)
  have cg := hg1.cell 0
  simp only [List.getElem?_cons_zero] at cg
  have k0 := hb1.cell 0
  have k1 := hb1.cell 1
  simp only [List.getElem?_cons_zero, List.getElem?_cons_succ] at k0 k1
  have HC := Lib.hid (hH _ (hst _ _ hq hb0)); have HB := Lib.hid hb0
  clear hb0 hb1 hg1 hg hH hst hq
  go_enter Try.func74, Try.ntmps74
  go_wp2_with fail
  refine HC.out.mono ?_
  rintro e w1 ⟨rfl, h1, h2⟩
  go_wp2_with fail
  go_ret
  exact ⟨rfl, h1, (Fo.of HB.out S).trans_new h2 (fun i hi => .inl hi)⟩
theorem each_Dev (A : Option Addr) (b o n cap : Nat) (y0 : Nat) (c0 c1 : Nat → Value) (q : Nat → Bool) (S : Nat → Prop) (I : Nat → World → Prop) (w : World) (hn : n ≤ maxLen) (hA : 0 < n → A = some ⟨b, o, none⟩)
    (hS : ∀ k, S k → k < w.heap.size) (hst : ∀ i W W', I i W → Below W.heap.size W W' → I i W')
    (hr : ∀ i W, i < n → I i W → W.cell? ⟨b, o + i * 2, none⟩ = some (c0 i) ∧ W.cell? ⟨b, o + i * 2 + 1, none⟩ = some (c1 i))
    (hH : ∀ i W, i < n → (∀ j, j < i → q j = true) → I i W → Calls Try.prog 58 #[(.agg #[c0 i, c1 i]), .pointer (some ⟨y0, 0, none⟩)] W fun e w' => e = .returned (.bool (q i)) ∧ I (i + 1) w' ∧ Fo S W w') (h0 : I 0 w) :
    Calls Try.prog 57 #[.slice A n cap, .func (.func 58) #[] #[.pointer (some ⟨y0, 0, none⟩)]] w fun e w' => e = .returned (.bool ((List.range n).all q)) ∧ Upto n I w' ((List.range n).all q) ∧ Fo S w w' := by
  have hb0 : Below w.heap.size w (w.alloc (.cells #[.func (.func 58) #[] #[.pointer (some ⟨y0, 0, none⟩)]] 100)) := (Below.refl _ _).alloc (Nat.le_refl _) _
  have hb1 : Blk (w.alloc (.cells #[.func (.func 58) #[] #[.pointer (some ⟨y0, 0, none⟩)]] 100)) w.heap.size 100 [.func (.func 58) #[] #[.pointer (some ⟨y0, 0, none⟩)]] := Blk.new _ _ _
  have hC := cf_Dev A b o n cap w.heap.size c0 c1 (fun i => !q i) S (fun i W => I i W ∧ Blk W w.heap.size 100 [.func (.func 58) #[] #[.pointer (some ⟨y0, 0, none⟩)]]) _ hn hA (fun i W hi h => hr i W hi h.1)
    (fun i W hi hj h => (e1_Dev w.heap.size y0 _ _ (q i) (I i) S W h.2 (hst i) (fun w' => I (i + 1) w') h.1 (fun W' h' => hH i W' hi (fun j hj' => by have := hj j hj'; simpa using this) h')).mono (fun e w' ⟨he, h1, h2⟩ => ⟨he, ⟨h1, h2.blk h.2 (fun hs => by have := hS _ hs; omega)⟩, h2⟩)) ⟨hst 0 _ _ h0 hb0, hb1⟩
  have e1 : (List.range n).any (fun i => !q i) = !(List.range n).all q := range_any_not _ _
  rw [e1] at hC
  have HC := Lib.hid hC; have HB := Lib.hid hb0
  clear hC e1 hb0 hb1 hA hS hst hr hH h0
  generalize (List.range n).all q = R at *
  go_enter Try.func57, Try.ntmps57
  go_wp2_with fail
  refine HC.out.mono ?_
  rintro e w1 ⟨rfl, hk, hf⟩
  have HK := Lib.hid hk; have HF := Lib.hid hf
  clear hk hf
  cases R
  all_goals
    go_wp2_with fail
    go_ret
    refine ⟨rfl, ?_, (Fo.of HB.out S).trans_new HF.out (fun i hi => .inl hi)⟩
    obtain ⟨k, hk, h1, h2⟩ := HK.out
    exact ⟨k, hk, h1.1, fun h => h2 (by first | exact h | cases h | rfl)⟩
end Go.Proofs.Ytkaalinoiilmoaa
namespace Go.Proofs.Ytkaalinoiilmoaa
open Go.RowKit
set_option linter.unusedVariables false
set_option linter.unusedSimpArgs false
set_option maxRecDepth 100000
def zSs : Array Value := (bitc noB 64).toArray
theorem zSs_ne : ¬ (zSs = #[]) := by simp [zSs, bitc]
theorem zSs_run (w : World) : Sem.run Try.prog (zeroValue 124) w = .ok (.agg zSs) w := by
  have hi : (Try.prog.info? 124).map (fun i => i.zero) = some (some (.agg zSs)) := by kernel_rfl
  cases h : Try.prog.info? 124 with
  | none => rw [h] at hi; cases hi
  | some i =>
    rw [h] at hi
    simp only [Option.map_some, Option.some.injEq] at hi
    simp [zeroValue, typeInfo, h, hi]
def AddS (g a c : Nat) (F : Nat → Bool) (w : World) (e : Ending) (w' : World) : Prop :=
  e = .returned (.bool (freeB F a c)) ∧ (freeB F a c = true → Blk w' g 124 (bitc (addF F a c) 64)) ∧ w.grownBy w' (some g)
theorem add_any (g a c : Nat) (F : Nat → Bool) (w : World) (h : Blk w g 124 (bitc F 64)) (hac : a + c ≤ 64) :
    Calls Try.prog 82 #[.pointer (some ⟨g, 0, none⟩), .int .i64 a, .int .i64 c] w (AddS g a c F w) := by
  have H0 := Lib.hid h
  clear h
  go_enter Try.func82, Try.ntmps82
  go_wp2_with fail
  go_loopw [9] (fun i wr => ∃ k : Nat, k ≤ c ∧ i = .int .i64 k ∧ Hid (Blk wr g 124 (bitc (addF F a k) 64) ∧ w.grownBy wr (some g) ∧ freeB F a c = freeB F (a + k) (c - k))) (fun i _ => c - (intOf i).toNat)
  case atStart => exact ⟨0, by omega, rfl, Lib.hid ⟨by rw [addF_zero]; exact H0.out, grefl _ _, rfl⟩⟩
  case round =>
    obtain ⟨k, hk, rfl, H⟩ := hrel
    by_cases hlt : k < c
    · have hc := H.out.1.cell (a + k)
      rw [bitc_get _ _ _ (by omega), addF_at] at hc
      have hfz := H.out.1.frozen (a + k)
      have hstep := freeB_step F a c k hlt
      rw [← H.out.2.2] at hstep
      have hS := H.out.1.set (a + k) (.bool true)
      rw [bitc_set, addF_step] at hS
      have HS := Lib.hid hS
      have HG := Lib.hid (gset H.out.2.1 (p := ⟨g, a + k, none⟩) (.inl rfl) (.bool true))
      have hlt64 : a + k < 64 := by omega
      cases hF : F (a + k)
      · rw [hF] at hc hstep
        have hstep' : freeB F a c = freeB F (a + (k + 1)) (c - (k + 1)) := by rw [hstep]; rfl
        have HE := Lib.hid hstep'
        clear hF hstep hstep' hS H
        go_wp2_with fail
        go_roundw
        case rel => exact ⟨k + 1, by omega, by go_num, Lib.hid ⟨HS.out, HG.out, HE.out⟩⟩
        case measure => simp [intOf]; omega
      · rw [hF] at hc hstep
        have hstep' : freeB F a c = false := by rw [hstep]; rfl
        have HE := Lib.hid hstep'
        have HG := Lib.hid H.out.2.1
        clear hF hstep hstep' hS H
        go_wp2_with fail
        go_ret
        exact ⟨by rw [HE.out]; rfl, (fun h => by rw [HE.out] at h; cases h), HG.out⟩
    · obtain rfl : k = c := by omega
      have hend : freeB F a k = true := by rw [H.out.2.2, Nat.sub_self]; rfl
      have HE := Lib.hid hend
      clear hend
      go_wp2_with fail
      go_ret
      exact ⟨by rw [HE.out]; rfl, fun _ => H.out.1, H.out.2.1⟩
set_option maxHeartbeats 2000000 in
theorem extmay_any (v : Value) (ps : List (Int × Int)) (s : Int) (w : World) (h : PtS w v ps) :
    Calls Try.prog 65 #[v, .int .i64 s] w fun e w' => e = .returned (.bool (extB ps s)) ∧ Below w.heap.size w w' := by
  obtain ⟨A, cap, rfl, hn, hA⟩ := h
  obtain ⟨n, hl⟩ : ∃ n, ps.length = n := ⟨_, rfl⟩
  have HL := Lib.hid hl
  rw [hl] at hn hA ⊢
  unfold maxLen at hn
  have HA := Lib.hid hA; clear hA
  by_cases hok : (1 ≤ n ∧ n ≤ 4) ∧ (0 ≤ s ∧ s ≤ 64)
  · obtain ⟨⟨n1, n4⟩, s0, s64⟩ := hok
    have hR : extB ps s = goB (ps.drop 0) s noB := by unfold extB; rw [hl, decide_eq_true ⟨n1, n4⟩, decide_eq_true ⟨s0, s64⟩, List.drop_zero]; rfl
    obtain ⟨R, hR2⟩ : ∃ R, goB (ps.drop 0) s noB = R := ⟨_, rfl⟩
    rw [hR, hR2]
    have HR := Lib.hid hR2
    clear hR hR2 hl
    have hz := zSs_run w
    have hne := zSs_ne
    have c0 : Blk (w.alloc (.cells zSs 124)) w.heap.size 124 (bitc noB 64) := Blk.new w _ (bitc noB 64)
    have b0 : Below w.heap.size w (w.alloc (.cells zSs 124)) := (Below.refl _ _).alloc (Nat.le_refl _) _
    have C0 := Lib.hid c0; have B0 := Lib.hid b0
    clear c0 b0
    go_enter Try.func65, Try.ntmps65
    go_wp2_with fail
    clear hz hne
    go_loopw [26] (fun i wr => ∃ (k : Nat) (F : Nat → Bool), k ≤ n ∧ i = .int .i64 k ∧ Hid (goB (ps.drop k) s F = R ∧ Blk wr w.heap.size 124 (bitc F 64) ∧ Below w.heap.size w wr)) (fun i _ => n - (intOf i).toNat)
    case atStart => exact ⟨0, noB, by omega, rfl, Lib.hid ⟨HR.out, C0.out, B0.out⟩⟩
    case round =>
      obtain ⟨k, F, hk, rfl, H⟩ := hrel
      by_cases hlt : k < n
      · obtain ⟨b, o, rfl, hb, hcell⟩ := HA.out (by omega)
        obtain ⟨l, c, A2, n2, c2, q0, q1, q2, q3, q4⟩ := hcell k hlt
        have g := fun x => H.out.2.2.cell (p := ⟨b, x, none⟩) hb
        rw [← g] at q0 q1 q2 q3 q4
        have hst := goB_step ps s F k (by rw [HL.out]; exact hlt)
        rw [H.out.1] at hst
        obtain ⟨fi, hfi⟩ : ∃ x, (ps.getD k (0, 0)).1 = x := ⟨_, rfl⟩
        obtain ⟨co, hco⟩ : ∃ x, (ps.getD k (0, 0)).2 = x := ⟨_, rfl⟩
        rw [hfi, hco] at hst
        rw [hfi] at q3
        rw [hco] at q4
        have HF := H.out.2.1
        have HB := H.out.2.2
        have hws := HB.size
        clear g hcell hfi hco H
        have HA := Lib.hid (fun O => HB.alloc hws O)
        have HFA := Lib.hid (fun O => HF.alloc O)
        clear HB HF
        by_cases hr : 0 ≤ fi ∧ 0 ≤ co ∧ fi ≤ s ∧ co ≤ s - fi
        · have hrt : runB fi co s = true := decide_eq_true hr
          obtain ⟨r0, r1, r2, r3⟩ := hr
          rw [hrt, Bool.true_and] at hst
          obtain ⟨a, rfl⟩ := Int.eq_ofNat_of_zero_le r0
          obtain ⟨m, rfl⟩ := Int.eq_ofNat_of_zero_le r1
          simp only [Int.toNat_natCast] at hst
          have HST := Lib.hid hst
          clear hst hrt
          go_wp2_with fail
          refine (may_yes _ _ _ _ r0 r1 r2 r3 (by omega)).mono ?_
          rintro e w' ⟨rfl, rfl⟩
          go_wp2_with fail
          refine (add_any w.heap.size a m F _ (HFA.out _) (by omega)).mono ?_
          rintro e w1 ⟨rfl, hB, hg⟩
          have HB1 := Lib.hid ((HA.out _).grown hg (HA.out _).size (fun k hk => by injection hk with hk; omega))
          clear hg
          cases hfree : freeB F a m
          · rw [hfree] at hB
            have hRf : R = false := by rw [HST.out, hfree]; rfl
            have HRF := Lib.hid hRf
            clear hRf hB hfree
            go_wp2_with fail
            go_ret
            exact ⟨by rw [HRF.out]; rfl, HB1.out⟩
          · have HBB := Lib.hid (hB hfree)
            have hRt : goB (ps.drop (k + 1)) s (addF F a m) = R := by rw [HST.out, hfree]; rfl
            have HRT := Lib.hid hRt
            clear hRt hB hfree
            go_wp2_with fail
            go_roundw
            case rel => exact ⟨k + 1, _, by omega, by go_num, Lib.hid ⟨HRT.out, HBB.out, HB1.out⟩⟩
            case measure => simp [intOf]; omega
        · have hrf : runB fi co s = false := decide_eq_false hr
          have hRf : R = false := by rw [hst, hrf]; rfl
          have HRF := Lib.hid hRf
          have HR2 := Lib.hid hr
          clear hRf hst hrf hr
          go_wp2_with fail
          refine (may_no _ _ _ _ HR2.out (by omega)).mono ?_
          rintro e w' ⟨rfl, rfl⟩
          go_wp2_with fail
          go_ret
          exact ⟨by rw [HRF.out]; rfl, HA.out _⟩
      · go_wp2_with fail
        go_ret
        exact ⟨by rw [← H.out.1, goB_end _ _ _ _ (by rw [HL.out]; omega)]; rfl, H.out.2.2⟩
  · have hR : extB ps s = false := by
      unfold extB; rw [hl]
      by_cases h1 : 1 ≤ n ∧ n ≤ 4
      · rw [decide_eq_false (show ¬ (0 ≤ s ∧ s ≤ 64) from fun h => hok ⟨h1, h⟩)]; simp
      · rw [decide_eq_false h1]; simp
    rw [hR]
    have hw : n < 1 ∨ (1 ≤ n ∧ 4 < n) ∨ (1 ≤ n ∧ n ≤ 4 ∧ s < 0) ∨ (1 ≤ n ∧ n ≤ 4 ∧ 0 ≤ s ∧ 64 < s) := by omega
    clear hR hok hl
    rcases hw with h1 | ⟨h1, h2⟩ | ⟨h1, h2, h3⟩ | ⟨h1, h2, h3, h4⟩
    all_goals
      go_enter Try.func65, Try.ntmps65
      go_wp2_with fail
      go_ret
      exact ⟨rfl, Below.refl _ _⟩
end Go.Proofs.Ytkaalinoiilmoaa
namespace Go.Proofs.Ytkaalinoiilmoaa
open Go.RowKit
set_option linter.unusedVariables false
set_option maxRecDepth 100000
theorem pair_at {w : World} {g : Nat} {t : TypeId} {x y : Value} (h : Blk w g t [x, y]) : w.cell? ⟨g, 0, none⟩ = some x ∧ w.cell? ⟨g, 1, none⟩ = some y ∧ w.frozen? ⟨g, 0, none⟩ = false ∧ w.frozen? ⟨g, 1, none⟩ = false :=
  ⟨h.cell 0, h.cell 1, h.frozen 0, h.frozen 1⟩
theorem may_parts (l c : Int) : lB l c = true ∧ 0 ≤ l ∧ l ≤ 3 ∧ 0 ≤ c ∧ c ≤ 15 ∨ lB l c = false ∧ (l < 0 ∨ 0 ≤ l ∧ 3 < l ∨ 0 ≤ l ∧ l ≤ 3 ∧ c < 0 ∨ 0 ≤ l ∧ l ≤ 3 ∧ 0 ≤ c ∧ decide (c ≤ 15) = false) := by
  by_cases h : 0 ≤ l ∧ l ≤ 3 ∧ 0 ≤ c ∧ c ≤ 15
  · exact .inl ⟨decide_eq_true h, h⟩
  · refine .inr ⟨decide_eq_false h, ?_⟩
    rw [decide_eq_false_iff_not]
    omega
theorem lmay_any (l c : Int) (w : World) :
    Calls Try.prog 56 #[.agg #[.int .i64 l, .int .i64 c]] w fun e w' => e = .returned (.bool (lB l c)) ∧ Below w.heap.size w w' := by
  rcases may_parts l c with ⟨h, h0, h1, h2, h3⟩ | ⟨h, h0 | ⟨h0, h1⟩ | ⟨h0, h1, h2⟩ | ⟨h0, h1, h2, h3⟩⟩
  all_goals
    rw [h]; clear h
    go_enter Try.func56, Try.ntmps56
    go_wp2
    go_ret
    exact ⟨rfl, (Below.refl _ _).alloc (Nat.le_refl _) _⟩
theorem lmay_is (l c : Int) (b : Bool) (w : World) (h : lB l c = b) :
    Calls Try.prog 56 #[.agg #[.int .i64 l, .int .i64 c]] w fun e w' => e = .returned (.bool b) ∧ Below w.heap.size w w' := by subst h; exact lmay_any l c w
theorem dom_parts (l c l' c' : Int) (Q : Bool) (hQ : 0 ≤ c → c ≤ 15 → 0 ≤ c' → c' ≤ 15 → Q = hasB c c') :
    lB l c = false ∧ lD l c l' c' = false ∨ lB l c = true ∧ lB l' c' = false ∧ lD l c l' c' = false ∨ lB l c = true ∧ lB l' c' = true ∧ l < l' ∧ lD l c l' c' = false ∨ lB l c = true ∧ lB l' c' = true ∧ l' ≤ l ∧ Q = lD l c l' c' := by
  by_cases h : lB l c = true
  · by_cases h' : lB l' c' = true
    · have a := lB_of h
      have b := lB_of h'
      by_cases hl : l' ≤ l
      · refine .inr (.inr (.inr ⟨h, h', hl, ?_⟩))
        rw [hQ (by omega) (by omega) (by omega) (by omega)]
        unfold lD; rw [h, h', decide_eq_true hl]; simp
      · refine .inr (.inr (.inl ⟨h, h', by omega, ?_⟩))
        unfold lD; rw [decide_eq_false hl]; simp
    · exact .inr (.inl ⟨h, by simpa using h', lD_no _ _ _ _ (.inr (by simpa using h'))⟩)
  · exact .inl ⟨by simpa using h, lD_no _ _ _ _ (.inl (by simpa using h))⟩
set_option maxHeartbeats 1000000 in
theorem ldom_any (l c l' c' : Int) (w : World) :
    Calls Try.prog 42 #[.agg #[.int .i64 l, .int .i64 c], .agg #[.int .i64 l', .int .i64 c']] w fun e w' => e = .returned (.bool (lD l c l' c')) ∧ Below w.heap.size w w' := by
  have hp := dom_parts l c l' c' _ (fun h0 h1 h2 h3 => (bits_has c c' h0 h1 h2 h3).1)
  generalize hQ : bits BinOp.andNot IntKind.i64 c' c = Q at hp
  generalize hD : lD l c l' c' = D at *
  clear hD
  have t0 := (Blk.new w 45 [.int .i64 l, .int .i64 c]).alloc (.cells #[.int .i64 l', .int .i64 c'] 45)
  have u0 := Blk.new (w.alloc (.cells #[.int .i64 l, .int .i64 c] 45)) 45 [.int .i64 l', .int .i64 c']
  rw [World.size_alloc] at u0
  have b0 : Below w.heap.size w ((w.alloc (.cells #[.int .i64 l, .int .i64 c] 45)).alloc (.cells #[.int .i64 l', .int .i64 c'] 45)) := ((Below.refl _ _).alloc (Nat.le_refl _) _).alloc (by simp) _
  have HP := Lib.hid hp
  clear hp
  go_enter Try.func42, Try.ntmps42
  go_wp2_with fail
  generalize hw0 : (w.alloc (.cells #[.int .i64 l, .int .i64 c] 45)).alloc (.cells #[.int .i64 l', .int .i64 c'] 45) = w0 at *
  have hs0 := b0.size
  clear hw0
  refine (lmay_any _ _ _).mono ?_
  rintro e w1 ⟨rfl, b1⟩
  have t1 := t0.below b1 t0.lt
  have u1 := u0.below b1 u0.lt
  have k1 := Below.down b0 b1 hs0
  have hs1 := k1.size
  clear t0 u0 b0 hs0 b1
  obtain ⟨x0, x1, _, _⟩ := pair_at t1
  obtain ⟨x2, x3, _, _⟩ := pair_at u1
  rcases HP.out with ⟨h1, rfl⟩ | ⟨h1, h2, rfl⟩ | ⟨h1, h2, h3, rfl⟩ | ⟨h1, h2, h3, rfl⟩
  · rw [h1]; clear h1 HP
    go_wp2_with fail
    go_ret
    exact ⟨rfl, k1⟩
  all_goals
    rw [h1]; clear h1 HP
    go_wp2_with fail
    refine (lmay_any _ _ _).mono ?_
    rintro e w2 ⟨rfl, b2⟩
    have t2 := t1.below b2 t1.lt
    have u2 := u1.below b2 u1.lt
    have k2 := Below.down k1 b2 hs1
    rw [h2]; clear h2 t1 u1 b2 x0 x1 x2 x3
    obtain ⟨x0, x1, _, _⟩ := pair_at t2
    obtain ⟨x2, x3, _, _⟩ := pair_at u2
    clear t2 u2
    go_wp2_with fail
    go_ret
    exact ⟨rfl, k2⟩
end Go.Proofs.Ytkaalinoiilmoaa
namespace Go.Proofs.Ytkaalinoiilmoaa
open Go.RowKit
set_option linter.unusedVariables false
set_option linter.unusedSimpArgs false
set_option maxRecDepth 100000
def grc (g : Gr) : List Value := [.int .i64 g.f, .int .i64 g.t, .bool g.wr]
def grs (l : List Gr) : List Value := l.flatMap grc
def grD : Gr := ⟨0, 0, false⟩
theorem grs_cons (g : Gr) (l : List Gr) : grs (g :: l) = .int .i64 g.f :: .int .i64 g.t :: .bool g.wr :: grs l := by simp [grs, grc]
theorem grs_get (l : List Gr) : ∀ i, i < l.length → (grs l)[i * 3]? = some (.int .i64 (l.getD i grD).f) ∧ (grs l)[i * 3 + 1]? = some (.int .i64 (l.getD i grD).t) ∧ (grs l)[i * 3 + 2]? = some (.bool (l.getD i grD).wr) := by
  induction l with
  | nil => intro i h; simp at h
  | cons g l ih =>
    intro i h
    match i with
    | 0 => rw [grs_cons]; simp
    | i + 1 =>
      have := ih i (by simpa using h)
      rw [grs_cons, show (i + 1) * 3 = i * 3 + 3 by omega]
      simpa using this
theorem grs_at {w : World} {A : Option Addr} {n c : Nat} {l : List Gr} (h : Sl w (.slice A n c) n 3 (grs l)) (hl : l.length = n) (k : Nat) (hk : k < n) :
    ∃ b o, A = some ⟨b, o, none⟩ ∧ b < w.heap.size ∧ w.cell? ⟨b, o + k * 3, none⟩ = some (.int .i64 (l.getD k grD).f) ∧ w.cell? ⟨b, o + k * 3 + 1, none⟩ = some (.int .i64 (l.getD k grD).t) ∧ w.cell? ⟨b, o + k * 3 + 2, none⟩ = some (.bool (l.getD k grD).wr) := by
  obtain ⟨A', c', e, _, hxl, hA⟩ := h
  simp only [Value.slice.injEq] at e
  obtain ⟨rfl, _, rfl⟩ := e
  obtain ⟨b, o, rfl, hb, hc⟩ := hA (by omega)
  have hg := grs_get l k (by omega)
  have key : ∀ j u, (grs l)[k * 3 + j]? = some u → w.cell? ⟨b, o + k * 3 + j, none⟩ = some u := by
    intro j u hx
    have := hc (k * 3 + j) u hx
    rw [← Nat.add_assoc] at this
    exact this
  exact ⟨b, o, rfl, hb, key 0 _ hg.1, key 1 _ hg.2.1, key 2 _ hg.2.2⟩
def DeAt (w : World) (b a : Nat) (d : De) : Prop := ∃ A2 c2, w.cell? ⟨b, a, none⟩ = some (.int .i64 d.pt) ∧ w.cell? ⟨b, a + 1, none⟩ = some (.slice A2 d.po.length c2) ∧ Sl w (.slice A2 d.po.length c2) d.po.length 1 (ints d.po) ∧ (A2 = none → c2 = 0)
theorem DeAt.below {w w' : World} {b a : Nat} {p : De} (h : DeAt w b a p) (hb : Below w.heap.size w w') (hlt : b < w.heap.size) : DeAt w' b a p := by
  have g := fun x => hb.cell (p := ⟨b, x, none⟩) hlt
  obtain ⟨A2, c2, h0, h1, h5, h6⟩ := h
  exact ⟨A2, c2, (g _).trans h0, (g _).trans h1, h5.below hb, h6⟩
def DeS (w : World) (v : Value) (l : List De) : Prop :=
  ∃ A cap, v = .slice A l.length cap ∧ (0 < l.length → ∃ b o, A = some ⟨b, o, none⟩ ∧ b < w.heap.size ∧ ∀ i, i < l.length → DeAt w b (o + i * 2) (l.getD i deD))
def DeZ (l : List De) : Prop := l.length * 32 ≤ 140737488351232 ∧ ∀ i, (l.getD i deD).po.length * 8 ≤ 140737488351232
theorem DeS.below {w w' : World} {v : Value} {l : List De} (h : DeS w v l) (hb : Below w.heap.size w w') : DeS w' v l := by
  obtain ⟨A, cap, hv, hA⟩ := h
  refine ⟨A, cap, hv, fun h0 => ?_⟩
  obtain ⟨b, o, e, hlt, hi⟩ := hA h0
  exact ⟨b, o, e, Nat.lt_of_lt_of_le hlt hb.size, fun i hi' => (hi i hi').below hb hlt⟩
structure CfAt (w : World) (vp vd vw vg : Value) (c : Cf) : Prop where
  ps : PaS w vp c.ps
  pz : PaZ c.ps
  ds : DeS w vd c.ds
  dz : DeZ c.ds
  ws : Ws w vw c.ws.length c.ws
  wz : c.ws.length * 32 ≤ 140737488351232
  wn : ∀ m k, vw = .slice none m k → k = 0
  gs : Sl w vg c.gs.length 3 (grs c.gs)
  gz : c.gs.length * 24 ≤ 140737488351232
  gn : ∀ m k, vg = .slice none m k → k = 0
theorem CfAt.below {w w' : World} {vp vd vw vg : Value} {c : Cf} (h : CfAt w vp vd vw vg c) (hb : Below w.heap.size w w') : CfAt w' vp vd vw vg c :=
  ⟨h.ps.below hb, h.pz, h.ds.below hb, h.dz, h.ws.below hb, h.wz, h.wn, h.gs.below hb, h.gz, h.gn⟩
theorem CfAt.drewN {w : World} {vp vd vw vg : Value} {c : Cf} (h : CfAt w vp vd vw vg c) (n : Nat) : CfAt (w.drewN n) vp vd vw vg c := h.below (bdrewN (Below.refl _ _) n)
theorem PaS.rows {w : World} {v : Value} {l : List Pa} (h : PaS w v l) : ∃ (A : Option Addr) (cap b o : Nat) (sv : Nat → Value), v = .slice A l.length cap ∧ (0 < l.length → A = some ⟨b, o, none⟩ ∧ b < w.heap.size) ∧
    ∀ i, i < l.length → (w.cell? ⟨b, o + i * 5, none⟩ = some (.int .i64 (l.getD i paD).lv) ∧ w.cell? ⟨b, o + i * 5 + 1, none⟩ = some (.int .i64 (l.getD i paD).ct) ∧ w.cell? ⟨b, o + i * 5 + 2, none⟩ = some (sv i) ∧ w.cell? ⟨b, o + i * 5 + 3, none⟩ = some (.int .i64 (l.getD i paD).fi) ∧ w.cell? ⟨b, o + i * 5 + 4, none⟩ = some (.int .i64 (l.getD i paD).co)) ∧
      Sl w (sv i) (l.getD i paD).fr.length 1 (ints (l.getD i paD).fr) := by
  obtain ⟨A, cap, rfl, hA⟩ := h
  by_cases h0 : 0 < l.length
  · obtain ⟨b, o, rfl, hb, hi⟩ := hA h0
    have key : ∀ i, i < l.length → ∃ s : Value, (w.cell? ⟨b, o + i * 5, none⟩ = some (.int .i64 (l.getD i paD).lv) ∧ w.cell? ⟨b, o + i * 5 + 1, none⟩ = some (.int .i64 (l.getD i paD).ct) ∧ w.cell? ⟨b, o + i * 5 + 2, none⟩ = some s ∧ w.cell? ⟨b, o + i * 5 + 3, none⟩ = some (.int .i64 (l.getD i paD).fi) ∧ w.cell? ⟨b, o + i * 5 + 4, none⟩ = some (.int .i64 (l.getD i paD).co)) ∧
        Sl w s (l.getD i paD).fr.length 1 (ints (l.getD i paD).fr) := by
      intro i hil
      obtain ⟨A2, c2, q0, q1, q2, q3, q4, q5, _⟩ := hi i hil
      exact ⟨_, ⟨q0, q1, q2, q3, q4⟩, q5⟩
    haveI : Inhabited Value := ⟨.bool false⟩
    obtain ⟨F, hF⟩ := Go.Deep.choose_lt key
    exact ⟨_, cap, b, o, F, rfl, fun _ => ⟨rfl, hb⟩, hF⟩
  · exact ⟨A, cap, 0, 0, fun _ => .bool false, rfl, fun h => absurd h h0, fun i hi => absurd hi (by omega)⟩
theorem DeS.rows {w : World} {v : Value} {l : List De} (h : DeS w v l) : ∃ (A : Option Addr) (cap b o : Nat) (sv : Nat → Value), v = .slice A l.length cap ∧ (0 < l.length → A = some ⟨b, o, none⟩ ∧ b < w.heap.size) ∧
    ∀ i, i < l.length → (w.cell? ⟨b, o + i * 2, none⟩ = some (.int .i64 (l.getD i deD).pt) ∧ w.cell? ⟨b, o + i * 2 + 1, none⟩ = some (sv i)) ∧ Sl w (sv i) (l.getD i deD).po.length 1 (ints (l.getD i deD).po) := by
  obtain ⟨A, cap, rfl, hA⟩ := h
  by_cases h0 : 0 < l.length
  · obtain ⟨b, o, rfl, hb, hi⟩ := hA h0
    have key : ∀ i, i < l.length → ∃ s : Value, (w.cell? ⟨b, o + i * 2, none⟩ = some (.int .i64 (l.getD i deD).pt) ∧ w.cell? ⟨b, o + i * 2 + 1, none⟩ = some s) ∧ Sl w s (l.getD i deD).po.length 1 (ints (l.getD i deD).po) := by
      intro i hil
      obtain ⟨A2, c2, q0, q1, q5, _⟩ := hi i hil
      exact ⟨_, ⟨q0, q1⟩, q5⟩
    haveI : Inhabited Value := ⟨.bool false⟩
    obtain ⟨F, hF⟩ := Go.Deep.choose_lt key
    exact ⟨_, cap, b, o, F, rfl, fun _ => ⟨rfl, hb⟩, hF⟩
  · exact ⟨A, cap, 0, 0, fun _ => .bool false, rfl, fun h => absurd h h0, fun i hi => absurd hi (by omega)⟩
def cfc (c : Cf) (vp vd vw vg : Value) : List Value := [.int .i64 c.fr, vp, vd, .int .i64 c.mj, vw, vg, .int .i64 c.se, .int .i64 c.qu, .int .i64 c.qt]
theorem cf_at {w : World} {g : Nat} {c : Cf} {vp vd vw vg : Value} (h : Blk w g 27 (cfc c vp vd vw vg)) :
    w.cell? ⟨g, 0, none⟩ = some (.int .i64 c.fr) ∧ w.cell? ⟨g, 1, none⟩ = some vp ∧ w.cell? ⟨g, 2, none⟩ = some vd ∧ w.cell? ⟨g, 3, none⟩ = some (.int .i64 c.mj) ∧ w.cell? ⟨g, 4, none⟩ = some vw ∧ w.cell? ⟨g, 5, none⟩ = some vg ∧ w.cell? ⟨g, 6, none⟩ = some (.int .i64 c.se) ∧ w.cell? ⟨g, 7, none⟩ = some (.int .i64 c.qu) ∧ w.cell? ⟨g, 8, none⟩ = some (.int .i64 c.qt) :=
  ⟨h.cell 0, h.cell 1, h.cell 2, h.cell 3, h.cell 4, h.cell 5, h.cell 6, h.cell 7, h.cell 8⟩
theorem cf_box (w : World) (c : Cf) (vp vd vw vg : Value) : Blk (w.alloc (.cells #[.int .i64 c.fr, vp, vd, .int .i64 c.mj, vw, vg, .int .i64 c.se, .int .i64 c.qu, .int .i64 c.qt] 27)) w.heap.size 27 (cfc c vp vd vw vg) ∧
    Below w.heap.size w (w.alloc (.cells #[.int .i64 c.fr, vp, vd, .int .i64 c.mj, vw, vg, .int .i64 c.se, .int .i64 c.qu, .int .i64 c.qt] 27)) :=
  ⟨Blk.new w _ (cfc c vp vd vw vg), (Below.refl _ _).alloc (Nat.le_refl _) _⟩
theorem btw_iff {lo hi n : Int} : btw lo hi n = true ↔ lo ≤ n ∧ n ≤ hi := by unfold btw; rw [decide_eq_true_eq]
theorem isfrom_any (n lo hi : Int) (w : World) : Calls Try.prog 53 #[.int .i64 n, .int .i64 lo, .int .i64 hi] w fun e w' => e = .returned (.bool (btw lo hi n)) ∧ w = w' := by
  by_cases h0 : lo ≤ n
  · by_cases h1 : n ≤ hi
    · have HR := Lib.hid (show btw lo hi n = true from decide_eq_true ⟨h0, h1⟩)
      have hd : decide (n ≤ hi) = true := decide_eq_true h1
      clear h1
      go_enter Try.func53, Try.ntmps53
      go_wp2
      go_ret
      exact ⟨by rw [HR.out]; rfl, rfl⟩
    · have HR := Lib.hid (show btw lo hi n = false from decide_eq_false (fun h => h1 h.2))
      have hd : decide (n ≤ hi) = false := decide_eq_false h1
      clear h1
      go_enter Try.func53, Try.ntmps53
      go_wp2
      go_ret
      exact ⟨by rw [HR.out]; rfl, rfl⟩
  · have HR := Lib.hid (show btw lo hi n = false from decide_eq_false (fun h => h0 h.1))
    have h2 : n < lo := by omega
    clear h0
    go_enter Try.func53, Try.ntmps53
    go_wp2
    go_ret
    exact ⟨by rw [HR.out]; rfl, rfl⟩
section
variable {w : World} {c : Cf} {vp vd vw vg : Value}
theorem haspart_any (h : CfAt w vp vd vw vg c) (p : Int) :
    Calls Try.prog 59 #[.agg #[.int .i64 c.fr, vp, vd, .int .i64 c.mj, vw, vg, .int .i64 c.se, .int .i64 c.qu, .int .i64 c.qt], .int .i64 p] w fun e w' => e = .returned (.bool (inP c.ps.length p)) ∧ Below w.heap.size w w' := by
  obtain ⟨A, cap, rfl, _⟩ := h.ps
  obtain ⟨hb, hB⟩ := cf_box w c (.slice A c.ps.length cap) vd vw vg
  have hn : c.ps.length ≤ 9223372036854775807 := by have := h.pz.1; omega
  obtain ⟨-, k1, -⟩ := cf_at hb
  have HB := Lib.hid hB
  clear h hb hB
  generalize c.ps.length = n at *
  by_cases h0 : 0 ≤ p
  · by_cases h1 : p < (n : Int)
    · have HR := Lib.hid (show inP n p = true from decide_eq_true ⟨h0, h1⟩)
      have hd : decide (p < (n : Int)) = true := decide_eq_true h1
      clear h1
      go_enter Try.func59, Try.ntmps59
      go_wp2
      go_ret
      exact ⟨by rw [HR.out]; rfl, HB.out⟩
    · have HR := Lib.hid (show inP n p = false from decide_eq_false (fun h => h1 h.2))
      have hd : decide (p < (n : Int)) = false := decide_eq_false h1
      clear h1
      go_enter Try.func59, Try.ntmps59
      go_wp2
      go_ret
      exact ⟨by rw [HR.out]; rfl, HB.out⟩
  · have HR := Lib.hid (show inP n p = false from decide_eq_false (fun h => h0 h.1))
    have h2 : p < 0 := by omega
    clear h0
    go_enter Try.func59, Try.ntmps59
    go_wp2
    go_ret
    exact ⟨by rw [HR.out]; rfl, HB.out⟩
theorem framesmay_any : Calls Try.prog 33 #[.agg #[.int .i64 c.fr, vp, vd, .int .i64 c.mj, vw, vg, .int .i64 c.se, .int .i64 c.qu, .int .i64 c.qt]] w fun e w' => e = .returned (.bool (frB_Cf0 c)) ∧ Below w.heap.size w w' := by
  obtain ⟨hb, hB⟩ := cf_box w c vp vd vw vg
  obtain ⟨k0, -⟩ := cf_at hb
  have HB := Lib.hid hB
  clear hb hB
  unfold frB_Cf0
  go_enter Try.func33, Try.ntmps33
  go_wp2_with fail
  refine (isfrom_any _ _ _ _).mono ?_
  rintro e w1 ⟨rfl, rfl⟩
  go_wp2_with fail
  go_ret
  exact ⟨rfl, HB.out⟩
theorem quotamay_any : Calls Try.prog 40 #[.agg #[.int .i64 c.fr, vp, vd, .int .i64 c.mj, vw, vg, .int .i64 c.se, .int .i64 c.qu, .int .i64 c.qt]] w fun e w' => e = .returned (.bool (quB c)) ∧ Below w.heap.size w w' := by
  obtain ⟨hb, hB⟩ := cf_box w c vp vd vw vg
  obtain ⟨-, -, -, -, -, -, -, k7, -⟩ := cf_at hb
  have HB := Lib.hid hB
  clear hb hB
  unfold quB
  go_enter Try.func40, Try.ntmps40
  go_wp2_with fail
  refine (isfrom_any _ _ _ _).mono ?_
  rintro e w1 ⟨rfl, rfl⟩
  go_wp2_with fail
  go_ret
  exact ⟨rfl, HB.out⟩
theorem quietmay_any : Calls Try.prog 41 #[.agg #[.int .i64 c.fr, vp, vd, .int .i64 c.mj, vw, vg, .int .i64 c.se, .int .i64 c.qu, .int .i64 c.qt]] w fun e w' => e = .returned (.bool (qtB c)) ∧ Below w.heap.size w w' := by
  obtain ⟨hb, hB⟩ := cf_box w c vp vd vw vg
  obtain ⟨-, -, -, -, -, -, -, -, k8⟩ := cf_at hb
  have HB := Lib.hid hB
  clear hb hB
  unfold qtB
  go_enter Try.func41, Try.ntmps41
  go_wp2_with fail
  refine (isfrom_any _ _ _ _).mono ?_
  rintro e w1 ⟨rfl, rfl⟩
  go_wp2_with fail
  go_ret
  exact ⟨rfl, HB.out⟩
theorem sharesmay_any (h : CfAt w vp vd vw vg c) : Calls Try.prog 39 #[.agg #[.int .i64 c.fr, vp, vd, .int .i64 c.mj, vw, vg, .int .i64 c.se, .int .i64 c.qu, .int .i64 c.qt]] w fun e w' => e = .returned (.bool (shB c)) ∧ Below w.heap.size w w' := by
  obtain ⟨hb, hB⟩ := cf_box w c vp vd vw vg
  obtain ⟨-, k1, -, -, -, -, k6, -⟩ := cf_at hb
  have HC := Lib.hid (extmay_any _ _ c.se _ ((h.below hB).ps.pts h.pz))
  have HB := Lib.hid hB
  clear hb hB h
  unfold shB
  go_enter Try.func39, Try.ntmps39
  go_wp2_with fail
  refine HC.out.mono ?_
  rintro e w1 ⟨rfl, b1⟩
  go_wp2_with fail
  go_ret
  exact ⟨rfl, Below.down HB.out b1 HB.out.size⟩
theorem pm1_any (x : Pa) (A2 : Option Addr) (n2 c2 : Nat) (hn : n2 = x.fr.length) (w : World) :
    Calls Try.prog 55 #[.agg #[.int .i64 x.lv, .int .i64 x.ct, .slice A2 n2 c2, .int .i64 x.fi, .int .i64 x.co]] w fun e w' => e = .returned (.bool (paB x)) ∧ Below w.heap.size w w' := by
  have hb : Blk (w.alloc (.cells #[.int .i64 x.lv, .int .i64 x.ct, .slice A2 n2 c2, .int .i64 x.fi, .int .i64 x.co] 48)) w.heap.size 48 [.int .i64 x.lv, .int .i64 x.ct, .slice A2 n2 c2, .int .i64 x.fi, .int .i64 x.co] := Blk.new _ _ _
  have hB : Below w.heap.size w (w.alloc (.cells #[.int .i64 x.lv, .int .i64 x.ct, .slice A2 n2 c2, .int .i64 x.fi, .int .i64 x.co] 48)) := (Below.refl _ _).alloc (Nat.le_refl _) _
  have k0 := hb.cell 0
  have k1 := hb.cell 1
  have k2 := hb.cell 2
  simp only [List.getElem?_cons_zero, List.getElem?_cons_succ] at k0 k1 k2
  obtain ⟨R, hR⟩ : ∃ R, paB x = R := ⟨_, rfl⟩
  rw [hR]
  unfold paB at hR
  rw [← hn] at hR
  have HR := Lib.hid hR; have HB := Lib.hid hB
  clear hb hB hR hn
  obtain ⟨lv, ct, fr, fi, co⟩ := x
  simp only at *
  cases hL : lB lv ct with
  | false =>
    have HL := Lib.hid hL
    have hf : R = false := by rw [← HR.out, hL]; rfl
    subst hf
    clear hL
    go_enter Try.func55, Try.ntmps55
    go_wp2_with fail
    refine (lmay_is lv ct false _ HL.out).mono ?_
    rintro e w1 ⟨rfl, b1⟩
    go_wp2_with fail
    go_ret
    exact ⟨rfl, Below.down HB.out b1 HB.out.size⟩
  | true =>
    have HL := Lib.hid hL
    clear hL
    by_cases h0 : 0 < n2
    · have hf : R = true := by rw [← HR.out, HL.out, decide_eq_true h0]; rfl
      subst hf
      have hd : decide (0 < n2) = true := decide_eq_true h0
      clear h0
      go_enter Try.func55, Try.ntmps55
      go_wp2_with fail
      refine (lmay_is lv ct true _ HL.out).mono ?_
      rintro e w1 ⟨rfl, b1⟩
      have g2 := (b1.cell (p := ⟨w.heap.size, 2, none⟩) (by simp)).trans k2
      go_wp2_with fail
      go_ret
      exact ⟨rfl, Below.down HB.out b1 HB.out.size⟩
    · have hf : R = false := by rw [← HR.out, HL.out, decide_eq_false h0]; rfl
      subst hf
      obtain rfl : n2 = 0 := by omega
      clear h0
      go_enter Try.func55, Try.ntmps55
      go_wp2_with fail
      refine (lmay_is lv ct true _ HL.out).mono ?_
      rintro e w1 ⟨rfl, b1⟩
      have g2 := (b1.cell (p := ⟨w.heap.size, 2, none⟩) (by simp)).trans k2
      go_wp2_with fail
      go_ret
      exact ⟨rfl, Below.down HB.out b1 HB.out.size⟩
end
end Go.Proofs.Ytkaalinoiilmoaa
namespace Go.Proofs.Ytkaalinoiilmoaa
open Go.RowKit
set_option linter.unusedVariables false
set_option linter.unusedSimpArgs false
set_option maxRecDepth 100000
set_option maxHeartbeats 1000000 in
theorem if_Int (A : Option Addr) (b o n cap : Nat) (a0 : Nat) (c0 : Nat → Value) (p : Nat → Bool) (S : Nat → Prop) (I : Nat → World → Prop) (w : World) (hn : n ≤ maxLen) (hA : 0 < n → A = some ⟨b, o, none⟩)
    (hr : ∀ i W, i < n → I i W → W.cell? ⟨b, o + i, none⟩ = some (c0 i))
    (hG : ∀ i W, i < n → (∀ j, j < i → p j = false) → I i W → Calls Try.prog 92 #[c0 i, .pointer (some ⟨a0, 0, none⟩)] W fun e w' => e = .returned (.bool (p i)) ∧ I (i + 1) w' ∧ Fo S W w') (h0 : I 0 w) :
    Calls Try.prog 94 #[.slice A n cap, .func (.func 92) #[] #[.pointer (some ⟨a0, 0, none⟩)]] w fun e w' => ∃ r : Int, e = .returned (.int .i64 r) ∧ decide (r ≥ 0) = (List.range n).any p ∧ (∃ k, k ≤ n ∧ I k w' ∧ (r < 0 → k = n)) ∧ Fo S w w' := by
  have HA := Lib.hid hA; have HR := Lib.hid hr; have HG := Lib.hid hG; have H0 := Lib.hid h0
  unfold maxLen at hn
  clear hA hr hG h0
  go_enter Try.func94, Try.ntmps94
  go_wp2_with fail
  go_loopw [8] (fun i wr => ∃ k : Nat, k ≤ n ∧ i = .int .i64 k ∧ Hid ((∀ j, j < k → p j = false) ∧ I k wr ∧ Fo S w wr)) (fun i _ => n - (intOf i).toNat)
  case atStart => exact ⟨0, by omega, rfl, Lib.hid ⟨fun j hj => by omega, H0.out, Fo.refl _ _⟩⟩
  case round =>
    obtain ⟨k, hk, rfl, HX⟩ := hrel
    by_cases hlt : k < n
    · obtain rfl := HA.out (by omega)
      have x0 := HR.out k wr hlt HX.out.2.1
      have HC := Lib.hid (HG.out k wr hlt HX.out.1 HX.out.2.1)
      generalize c0 k = e0 at *
      go_wp2_with fail
      refine HC.out.mono ?_
      rintro e w1 ⟨rfl, hi, hf⟩
      have HI := Lib.hid hi
      have HF := Lib.hid (HX.out.2.2.trans hf)
      clear x0 hi hf
      cases hp : p k with
      | true =>
        have HP := Lib.hid hp
        clear hp
        go_wp2_with fail
        go_ret
        exact ⟨_, rfl, (by rw [range_any_yes hlt HP.out]; exact decide_eq_true (by omega)), ⟨k + 1, by omega, HI.out, fun h => by omega⟩, HF.out⟩
      | false =>
        have HP := Lib.hid hp
        clear hp
        go_wp2_with fail
        go_roundw
        case rel => exact ⟨k + 1, by omega, by go_num, Lib.hid ⟨fun j hj => by
          by_cases e : j = k
          · rw [e]; exact HP.out
          · exact HX.out.1 j (by omega), HI.out, HF.out⟩⟩
        case measure => simp [intOf]; omega
    · obtain rfl : k = n := by omega
      go_wp2_with fail
      go_ret
      exact ⟨_, rfl, (by rw [range_any_no HX.out.1]; rfl), ⟨k, by omega, HX.out.2.1, fun _ => rfl⟩, HX.out.2.2⟩
theorem cf_Int (A : Option Addr) (b o n cap : Nat) (a0 : Nat) (c0 : Nat → Value) (p : Nat → Bool) (S : Nat → Prop) (I : Nat → World → Prop) (w : World) (hn : n ≤ maxLen) (hA : 0 < n → A = some ⟨b, o, none⟩)
    (hr : ∀ i W, i < n → I i W → W.cell? ⟨b, o + i, none⟩ = some (c0 i))
    (hG : ∀ i W, i < n → (∀ j, j < i → p j = false) → I i W → Calls Try.prog 92 #[c0 i, .pointer (some ⟨a0, 0, none⟩)] W fun e w' => e = .returned (.bool (p i)) ∧ I (i + 1) w' ∧ Fo S W w') (h0 : I 0 w) :
    Calls Try.prog 91 #[.slice A n cap, .func (.func 92) #[] #[.pointer (some ⟨a0, 0, none⟩)]] w fun e w' => e = .returned (.bool ((List.range n).any p)) ∧ Upto n I w' (!(List.range n).any p) ∧ Fo S w w' := by
  have HC := Lib.hid (if_Int A b o n cap a0 c0 p S I w hn hA hr hG h0)
  clear hA hr hG h0
  generalize (List.range n).any p = R at *
  go_enter Try.func91, Try.ntmps91
  go_wp2_with fail
  refine HC.out.mono ?_
  rintro e w1 ⟨r, rfl, hr, hi, hf⟩
  have HI := Lib.hid hi; have HF := Lib.hid hf
  clear hi hf
  cases R
  all_goals
    go_wp2_with fail
    go_ret
  · refine ⟨rfl, ?_, HF.out⟩
    obtain ⟨k, hk, h1, h2⟩ := HI.out
    exact ⟨k, hk, h1, fun _ => h2 (by have := of_decide_eq_false hr; omega)⟩
  · refine ⟨rfl, ?_, HF.out⟩
    obtain ⟨k, hk, h1, h2⟩ := HI.out
    exact ⟨k, hk, h1, fun h => by cases h⟩
theorem e1_Int (g : Nat) (y0 y1 : Nat) (e0 : Value) (q : Bool) (Q : World → Prop) (S : Nat → Prop) (w : World) (hg : Blk w g 59 [.func (.func 88) #[] #[.pointer (some ⟨y0, 0, none⟩), .pointer (some ⟨y1, 0, none⟩)]])
    (hst : ∀ W W', Q W → Below W.heap.size W W' → Q W') (Q' : World → Prop) (hq : Q w)
    (hH : ∀ W, Q W → Calls Try.prog 88 #[e0, .pointer (some ⟨y0, 0, none⟩), .pointer (some ⟨y1, 0, none⟩)] W fun e w' => e = .returned (.bool q) ∧ Q' w' ∧ Fo S W w') :
    Calls Try.prog 92 #[e0, .pointer (some ⟨g, 0, none⟩)] w fun e w' => e = .returned (.bool (!q)) ∧ Q' w' ∧ Fo S w w' := by
  have cg := hg.cell 0
  simp only [List.getElem?_cons_zero] at cg
  have HC := Lib.hid (hH _ hq)
  clear hg hH hst hq
  go_enter Try.func92, Try.ntmps92
  go_wp2_with fail
  refine HC.out.mono ?_
  rintro e w1 ⟨rfl, h1, h2⟩
  go_wp2_with fail
  go_ret
  exact ⟨rfl, h1, h2⟩
theorem each_Int (A : Option Addr) (b o n cap : Nat) (y0 y1 : Nat) (c0 : Nat → Value) (q : Nat → Bool) (S : Nat → Prop) (I : Nat → World → Prop) (w : World) (hn : n ≤ maxLen) (hA : 0 < n → A = some ⟨b, o, none⟩)
    (hS : ∀ k, S k → k < w.heap.size) (hst : ∀ i W W', I i W → Below W.heap.size W W' → I i W')
    (hr : ∀ i W, i < n → I i W → W.cell? ⟨b, o + i, none⟩ = some (c0 i))
    (hH : ∀ i W, i < n → (∀ j, j < i → q j = true) → I i W → Calls Try.prog 88 #[c0 i, .pointer (some ⟨y0, 0, none⟩), .pointer (some ⟨y1, 0, none⟩)] W fun e w' => e = .returned (.bool (q i)) ∧ I (i + 1) w' ∧ Fo S W w') (h0 : I 0 w) :
    Calls Try.prog 87 #[.slice A n cap, .func (.func 88) #[] #[.pointer (some ⟨y0, 0, none⟩), .pointer (some ⟨y1, 0, none⟩)]] w fun e w' => e = .returned (.bool ((List.range n).all q)) ∧ Upto n I w' ((List.range n).all q) ∧ Fo S w w' := by
  have hb0 : Below w.heap.size w (w.alloc (.cells #[.func (.func 88) #[] #[.pointer (some ⟨y0, 0, none⟩), .pointer (some ⟨y1, 0, none⟩)]] 59)) := (Below.refl _ _).alloc (Nat.le_refl _) _
  have hb1 : Blk (w.alloc (.cells #[.func (.func 88) #[] #[.pointer (some ⟨y0, 0, none⟩), .pointer (some ⟨y1, 0, none⟩)]] 59)) w.heap.size 59 [.func (.func 88) #[] #[.pointer (some ⟨y0, 0, none⟩), .pointer (some ⟨y1, 0, none⟩)]] := Blk.new _ _ _
  have hC := cf_Int A b o n cap w.heap.size c0 (fun i => !q i) S (fun i W => I i W ∧ Blk W w.heap.size 59 [.func (.func 88) #[] #[.pointer (some ⟨y0, 0, none⟩), .pointer (some ⟨y1, 0, none⟩)]]) _ hn hA (fun i W hi h => hr i W hi h.1)
    (fun i W hi hj h => (e1_Int w.heap.size y0 y1 _ (q i) (I i) S W h.2 (hst i) (fun w' => I (i + 1) w') h.1 (fun W' h' => hH i W' hi (fun j hj' => by have := hj j hj'; simpa using this) h')).mono (fun e w' ⟨he, h1, h2⟩ => ⟨he, ⟨h1, h2.blk h.2 (fun hs => by have := hS _ hs; omega)⟩, h2⟩)) ⟨hst 0 _ _ h0 hb0, hb1⟩
  have e1 : (List.range n).any (fun i => !q i) = !(List.range n).all q := range_any_not _ _
  rw [e1] at hC
  have HC := Lib.hid hC; have HB := Lib.hid hb0
  clear hC e1 hb0 hb1 hA hS hst hr hH h0
  generalize (List.range n).all q = R at *
  go_enter Try.func87, Try.ntmps87
  go_wp2_with fail
  refine HC.out.mono ?_
  rintro e w1 ⟨rfl, hk, hf⟩
  have HK := Lib.hid hk; have HF := Lib.hid hf
  clear hk hf
  cases R
  all_goals
    go_wp2_with fail
    go_ret
    refine ⟨rfl, ?_, (Fo.of HB.out S).trans_new HF.out (fun i hi => .inl hi)⟩
    obtain ⟨k, hk, h1, h2⟩ := HK.out
    exact ⟨k, hk, h1.1, fun h => h2 (by first | exact h | cases h | rfl)⟩
end Go.Proofs.Ytkaalinoiilmoaa
namespace Go.Proofs.Ytkaalinoiilmoaa
open Go.RowKit
set_option linter.unusedVariables false
set_option maxRecDepth 100000
def setB (c : Nat) (f o : Int) : Bool := decide (0 ≤ f ∧ f < c ∧ -2 ≤ o ∧ o ≤ 3)
def setL (l : List Int) (f o : Int) : List Int := if setB l.length f o then l.set f.toNat o else l
def setC (c : Nat) (f o : Int) : Int := if setB c f o then 0 else 200
def ofB (c : Nat) (f : Int) : Bool := decide (0 ≤ f ∧ f < c)
def ofN (l : List Int) (f : Int) : Int := if ofB l.length f then l.getD f.toNat 0 else 0
def ofC (c : Nat) (f : Int) : Int := if ofB c f then 0 else 200
def Tab (w : World) (g : Nat) (l : List Int) : Prop :=
  l.length ≤ 64 ∧ ∃ rest : List Value, rest.length = 64 - l.length ∧ Blk w g 122 (.int .i64 l.length :: (ints l ++ rest))
section
variable {w w' : World} {g : Nat} {l : List Int}
theorem Tab.lt (h : Tab w g l) : g < w.heap.size := by obtain ⟨_, _, _, h⟩ := h; exact h.lt
theorem Tab.count (h : Tab w g l) : w.cell? ⟨g, 0, none⟩ = some (.int .i64 l.length) := by obtain ⟨_, _, _, h⟩ := h; rw [h.cell]; rfl
theorem Tab.at_ (h : Tab w g l) {k : Nat} (hk : k < l.length) : w.cell? ⟨g, 1 + k, none⟩ = some (.int .i64 (l.getD k 0)) := by
  obtain ⟨_, _, _, h⟩ := h
  rw [h.cell, Nat.add_comm, List.getElem?_cons_succ, List.getElem?_append_left (by rw [ints_len]; exact hk), ints_get l k hk]
theorem Tab.frozen (h : Tab w g l) (i : Nat) : w.frozen? ⟨g, i, none⟩ = false := by obtain ⟨_, _, _, h⟩ := h; exact h.frozen i
theorem Tab.set (h : Tab w g l) {k : Nat} (hk : k < l.length) (x : Int) : Tab (w.setCell ⟨g, 1 + k, none⟩ (.int .i64 x)) g (l.set k x) := by
  obtain ⟨hl, rest, hr, h⟩ := h
  refine ⟨by simpa using hl, rest, by simpa using hr, ?_⟩
  have := h.set (1 + k) (.int .i64 x)
  rw [Nat.add_comm 1 k, List.set_cons_succ, List.set_append_left _ _ (by rw [ints_len]; exact hk), ints_set] at this
  rw [Nat.add_comm 1 k]
  simpa using this
theorem Tab.drewN (h : Tab w g l) (n : Nat) : Tab (w.drewN n) g l := h
theorem Tab.below {B : Nat} (h : Tab w g l) (hb : Below B w w') (hg : g < B) : Tab w' g l := by obtain ⟨hl, r, hr, h⟩ := h; exact ⟨hl, r, hr, h.below hb hg⟩
theorem Tab.grown {row : Option Nat} (h : Tab w g l) (hb : w.grownBy w' row) (hg : some g ≠ row) : Tab w' g l := by obtain ⟨hl, r, hr, h⟩ := h; exact ⟨hl, r, hr, h.grown hb hg⟩
end
end Go.Proofs.Ytkaalinoiilmoaa
namespace Go.Proofs.Ytkaalinoiilmoaa
open Go.RowKit
set_option linter.unusedVariables false
set_option maxRecDepth 100000
theorem has_any_Frames (g : Nat) (l : List Int) (f : Int) (w : World) (h : Tab w g l) :
    Calls Try.prog 80 #[.pointer (some ⟨g, 0, none⟩), .int .i64 f] w fun e w' => e = .returned (.bool (ofB l.length f)) ∧ w = w' := by
  have hc := h.count
  have hl : l.length ≤ 64 := h.1
  have H := Lib.hid h; clear h
  by_cases h0 : 0 ≤ f
  · by_cases h1 : f < (l.length : Int)
    · have HB := Lib.hid (show ofB l.length f = true from decide_eq_true ⟨h0, h1⟩)
      go_enter Try.func80, Try.ntmps80
      go_wp2
      go_ret
      exact ⟨by rw [HB.out]; rfl, rfl⟩
    · have HB := Lib.hid (show ofB l.length f = false from decide_eq_false (by omega))
      go_enter Try.func80, Try.ntmps80
      go_wp2
      go_ret
      exact ⟨by rw [HB.out]; rfl, rfl⟩
  · have HB := Lib.hid (show ofB l.length f = false from decide_eq_false (by omega))
    go_enter Try.func80, Try.ntmps80
    go_wp2
    go_ret
    exact ⟨by rw [HB.out]; rfl, rfl⟩
def isB (o : Int) : Bool := decide (-2 ≤ o ∧ o ≤ 3)
theorem is_any (o : Int) (w : World) :
    Calls Try.prog 93 #[.int .i64 o] w fun e w' => e = .returned (.bool (isB o)) ∧ w = w' := by
  by_cases hy : isB o = true
  · rw [hy]
    simp only [isB, decide_eq_true_eq] at hy
    obtain ⟨h1, h2⟩ := hy
    by_cases h3 : o = -1
    · subst h3
      go_enter Try.func93, Try.ntmps93
      go_wp2
      go_ret
      exact ⟨rfl, rfl⟩
    · by_cases h4 : o = -2
      · subst h4
        go_enter Try.func93, Try.ntmps93
        go_wp2
        go_ret
        exact ⟨rfl, rfl⟩
      · have h5 : 0 ≤ o := by omega
        have hd : decide (o < 4) = true := by simp; omega
        clear h1
        go_enter Try.func93, Try.ntmps93
        go_wp2
        go_ret
        exact ⟨rfl, rfl⟩
  · have hn : isB o = false := by simpa using hy
    rw [hn]
    simp only [isB, decide_eq_false_iff_not] at hn
    clear hy
    by_cases h0 : 0 ≤ o
    · have h1 : decide (o < 4) = false := by simp; omega
      clear hn
      go_enter Try.func93, Try.ntmps93
      go_wp2
      go_ret
      exact ⟨rfl, rfl⟩
    · have h1 : o ≤ -3 := by omega
      clear hn
      go_enter Try.func93, Try.ntmps93
      go_wp2
      go_ret
      exact ⟨rfl, rfl⟩
theorem pset_any (g : Nat) (l : List Int) (f o : Int) (w : World) (h : Tab w g l) :
    Calls Try.prog 89 #[.pointer (some ⟨g, 0, none⟩), .int .i64 f, .int .i64 o] w fun e w' => e = .returned (.int .i64 (setC l.length f o)) ∧ Tab w' g (setL l f o) ∧ w.grownBy w' (some g) := by
  have H := Lib.hid h
  by_cases hb : ofB l.length f = true
  · by_cases ho : isB o = true
    · have hs : setB l.length f o = true := by
        simp only [ofB, isB, setB, decide_eq_true_eq] at *; omega
      have HL := Lib.hid (show setL l f o = l.set f.toNat o by simp [setL, hs])
      have HC := Lib.hid (show setC l.length f o = 0 by simp [setC, hs])
      have h0 : 0 ≤ f ∧ f < l.length := by simpa [ofB] using hb
      have hl : l.length ≤ 64 := h.1
      obtain ⟨h0, h1⟩ := h0
      obtain ⟨k, rfl⟩ := Int.eq_ofNat_of_zero_le h0
      have hc := h.at_ (k := k) (by omega)
      have hf := h.frozen (1 + k)
      have HB := Lib.hid hb; have HO := Lib.hid ho; clear hb ho hs h
      go_enter Try.func89, Try.ntmps89
      go_wp2_with fail
      refine (has_any_Frames g l _ _ H.out).mono ?_
      rintro e w' ⟨rfl, rfl⟩
      rw [HB.out]
      go_wp2_with fail
      refine (is_any _ _).mono ?_
      rintro e w' ⟨rfl, rfl⟩
      rw [HO.out]
      go_wp2_with fail
      go_ret
      exact ⟨by rw [HC.out]; rfl, by rw [HL.out]; exact H.out.set (by omega) _, gone _⟩
    · have ho' : isB o = false := by simpa using ho
      have hs : setB l.length f o = false := by
        simp only [ofB, isB, setB, decide_eq_true_eq, decide_eq_false_iff_not] at *; omega
      have HL := Lib.hid (show setL l f o = l by simp [setL, hs])
      have HC := Lib.hid (show setC l.length f o = 200 by simp [setC, hs])
      have HB := Lib.hid hb; have HO := Lib.hid ho'; clear hb ho hs h ho'
      go_enter Try.func89, Try.ntmps89
      go_wp2_with fail
      refine (has_any_Frames g l _ _ H.out).mono ?_
      rintro e w' ⟨rfl, rfl⟩
      rw [HB.out]
      go_wp2_with fail
      refine (is_any _ _).mono ?_
      rintro e w' ⟨rfl, rfl⟩
      rw [HO.out]
      go_wp2_with fail
      go_ret
      exact ⟨by rw [HC.out]; rfl, by rw [HL.out]; exact H.out, grefl _ _⟩
  · have hb' : ofB l.length f = false := by simpa using hb
    have hs : setB l.length f o = false := by
      simp only [ofB, setB, decide_eq_true_eq, decide_eq_false_iff_not] at *; omega
    have HL := Lib.hid (show setL l f o = l by simp [setL, hs])
    have HC := Lib.hid (show setC l.length f o = 200 by simp [setC, hs])
    have HB := Lib.hid hb'; clear hb hs h hb'
    go_enter Try.func89, Try.ntmps89
    go_wp2_with fail
    refine (has_any_Frames g l _ _ H.out).mono ?_
    rintro e w' ⟨rfl, rfl⟩
    rw [HB.out]
    go_wp2_with fail
    go_ret
    exact ⟨by rw [HC.out]; rfl, by rw [HL.out]; exact H.out, grefl _ _⟩
theorem pof_any (g : Nat) (l : List Int) (f : Int) (w : World) (h : Tab w g l) :
    Calls Try.prog 64 #[.pointer (some ⟨g, 0, none⟩), .int .i64 f] w fun e w' => e = .returned (.tuple #[.int .i64 (ofN l f), .int .i64 (ofC l.length f)]) ∧ w = w' := by
  have H := Lib.hid h
  by_cases hb : ofB l.length f = true
  · have HN := Lib.hid (show ofN l f = l.getD f.toNat 0 by simp [ofN, hb])
    have HC := Lib.hid (show ofC l.length f = 0 by simp [ofC, hb])
    have h0 : 0 ≤ f ∧ f < l.length := by simpa [ofB] using hb
    have hl : l.length ≤ 64 := h.1
    obtain ⟨h0, h1⟩ := h0
    obtain ⟨k, rfl⟩ := Int.eq_ofNat_of_zero_le h0
    have hc := h.at_ (k := k) (by omega)
    simp only [Int.toNat_natCast] at HN
    generalize l.getD k 0 = q at hc HN
    have HB := Lib.hid hb; clear hb h
    go_enter Try.func64, Try.ntmps64
    go_wp2_with fail
    refine (has_any_Frames g l _ _ H.out).mono ?_
    rintro e w' ⟨rfl, rfl⟩
    rw [HB.out]
    go_wp2_with fail
    go_ret2
    exact ⟨by rw [HC.out, HN.out]; rfl, rfl⟩
  · have hb' : ofB l.length f = false := by simpa using hb
    have HN := Lib.hid (show ofN l f = 0 by simp [ofN, hb'])
    have HC := Lib.hid (show ofC l.length f = 200 by simp [ofC, hb'])
    have HB := Lib.hid hb'; clear hb h hb'
    go_enter Try.func64, Try.ntmps64
    go_wp2_with fail
    refine (has_any_Frames g l _ _ H.out).mono ?_
    rintro e w' ⟨rfl, rfl⟩
    rw [HB.out]
    go_wp2_with fail
    go_ret2
    exact ⟨by rw [HC.out, HN.out]; rfl, rfl⟩
end Go.Proofs.Ytkaalinoiilmoaa
namespace Go.Proofs.Ytkaalinoiilmoaa
open Go.RowKit
set_option linter.unusedVariables false
set_option maxRecDepth 100000
def free (c : Nat) : List Int := List.replicate c (-1)
theorem free_len (c : Nat) : (free c).length = c := by simp [free]
def zOwn : Array Value := (Value.int .i64 0 :: List.replicate 64 (Value.int .i64 0)).toArray
theorem zOwn_ne : ¬ (zOwn = #[]) := by simp [zOwn]
theorem zOwn_run (w : World) : Sem.run Try.prog (zeroValue 122) w = .ok (.agg zOwn) w := by
  have hi : (Try.prog.info? 122).map (fun i => i.zero) = some (some (.agg zOwn)) := by kernel_rfl
  cases h : Try.prog.info? 122 with
  | none => rw [h] at hi; cases hi
  | some i =>
    rw [h] at hi
    simp only [Option.map_some, Option.some.injEq] at hi
    simp [zeroValue, typeInfo, h, hi]
theorem zOwn_set (c : Int) : zOwn.setIfInBounds 0 (.int .i64 c) = (Value.int .i64 c :: (ints (free 0) ++ List.replicate 64 (Value.int .i64 0))).toArray := by
  simp [zOwn, free, ints]
def Half (w : World) (g c k : Nat) : Prop := ∃ rest : List Value, rest.length = 64 - k ∧ Blk w g 122 (.int .i64 c :: (ints (free k) ++ rest))
theorem Half.step {w : World} {g c k : Nat} (h : Half w g c k) (hk : k < 64) : (∃ u, w.cell? ⟨g, 1 + k, none⟩ = some u) ∧ w.frozen? ⟨g, 1 + k, none⟩ = false ∧ Half (w.setCell ⟨g, 1 + k, none⟩ (.int .i64 (-1))) g c (k + 1) := by
  obtain ⟨rest, hr, h⟩ := h
  match rest, hr with
  | [], hr => simp at hr; omega
  | u :: rest, hr =>
    have hl : (ints (free k)).length = k := by rw [ints_len, free_len]
    refine ⟨⟨u, ?_⟩, h.frozen _, rest, by simp at hr; omega, ?_⟩
    · rw [h.cell, Nat.add_comm, List.getElem?_cons_succ, List.getElem?_append_right (by omega), hl, Nat.sub_self]; rfl
    · have h' := h.set (1 + k) (.int .i64 (-1))
      rw [Nat.add_comm 1 k, List.set_cons_succ, List.set_append_right _ _ (by omega), hl, Nat.sub_self, List.set_cons_zero] at h'
      rw [Nat.add_comm 1 k]
      have e : ints (free (k + 1)) = ints (free k) ++ [Value.int .i64 (-1)] := by simp [ints, free, List.replicate_succ']
      rw [e, List.append_assoc]
      exact h'
theorem Half.tab {w : World} {g c : Nat} (h : Half w g c c) (hc : c ≤ 64) : Tab w g (free c) := by
  obtain ⟨rest, hr, h⟩ := h
  refine ⟨by rw [free_len]; exact hc, rest, by rw [free_len]; exact hr, by rw [free_len]; exact h⟩
theorem onew_yes (c : Nat) (w : World) (h1 : 1 ≤ c) (h2 : c ≤ 64) :
    Calls Try.prog 75 #[.int .i64 c] w fun e w' => e = .returned (.tuple #[.pointer (some ⟨w.heap.size, 0, none⟩), .int .i64 0]) ∧ Tab w' w.heap.size (free c) ∧ Below w.heap.size w w' := by
  have hz := zOwn_run
  have hne := zOwn_ne
  have h3 : decide ((c : Int) < 1) = false := by simp; omega
  have h4 : decide ((64 : Int) < c) = false := by simp; omega
  go_enter Try.func75, Try.ntmps75
  go_wp2
  have hw : Half (w.alloc (.cells (zOwn.setIfInBounds 0 (.int .i64 c)) 122)) w.heap.size c 0 := by
    rw [zOwn_set]; exact ⟨_, by simp, Blk.new _ _ _⟩
  have hb : Below w.heap.size w (w.alloc (.cells (zOwn.setIfInBounds 0 (.int .i64 c)) 122)) := (Below.refl _ _).alloc (Nat.le_refl _) _
  generalize w.alloc (.cells (zOwn.setIfInBounds 0 (.int .i64 c)) 122) = w1 at *
  clear hz hne h3 h4
  go_loopw [16] (fun i wr => ∃ k : Nat, k ≤ c ∧ i = .int .i64 k ∧ Half wr w.heap.size c k ∧ Below w.heap.size w wr) (fun i _ => c - (intOf i).toNat)
  case atStart => exact ⟨0, by omega, rfl, hw, hb⟩
  case round =>
    obtain ⟨k, hk, rfl, hh, hbel⟩ := hrel
    by_cases hlt : k < c
    · obtain ⟨⟨u, hc⟩, hf, hh'⟩ := hh.step (by omega)
      clear hw hb hh
      go_wp2
      go_roundw
      case rel => exact ⟨k + 1, by omega, by go_num, hh', hbel.setCell (Nat.le_refl _) _⟩
      case measure => simp [intOf]; omega
    · obtain rfl : k = c := by omega
      go_wp2
      go_ret2
      exact ⟨rfl, hh.tab h2, hbel⟩
end Go.Proofs.Ytkaalinoiilmoaa
