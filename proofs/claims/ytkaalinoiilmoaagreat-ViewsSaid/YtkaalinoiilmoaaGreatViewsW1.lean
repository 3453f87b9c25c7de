/-
  What the proofs lean on: contracts of the program's functions, plain facts.
-/
import Derived.WalkKit
import Derived.Lib.Hide
import Derived.Deep.QuietTactic
import Derived.BigQuiet
import Derived.Laws.CopyRow
import Derived.Laws.AppendOwnNone
import Derived.Test.YtkaalinoiilmoaaGreatChecked
import Derived.Deep.RegionHeld3
namespace Go.Proofs.YtkaalinoiilmoaaGreat
open Go.RowKit
theorem own_below {w w' : World} {base : Nat} {e : TypeId} {size : Nat} {v : Value} {n : Nat} {xs : List Value} (h : w.ownsRow base e size v n xs) (hb : Below w.heap.size w w') : w'.ownsRow base e size v n xs :=
  h.kept (row := none) ⟨hb.os, hb.tape, hb.output, hb.size, fun k hk _ => hb.block k hk⟩ (by cases hv : v.ownBlock <;> simp)
theorem add_none (b o j : Nat) : (⟨b, o, none⟩ : Addr).add j = ⟨b, o + j, none⟩ := by unfold Addr.add; split <;> simp_all
theorem row_new (w : World) (cs : List Value) (t : TypeId) : ∀ j u, cs[j]? = some u → (w.alloc (.cells cs.toArray t)).cell? ((⟨w.heap.size, 0, none⟩ : Addr).add j) = some u := by
  intro j u hj
  rw [add_none, cell_of_row (w.alloc (.cells cs.toArray t)) w.heap.size (0 + j) cs.toArray t (0, 0) (heap_alloc_new w _)]
  simpa using hj
theorem own_drewN {w : World} {base : Nat} {e : TypeId} {size : Nat} {v : Value} {n : Nat} {xs : List Value} (h : w.ownsRow base e size v n xs) (k : Nat) : (w.drewN k).ownsRow base e size v n xs := h
theorem bdrewN {B : Nat} {a w : World} (h : Below B a w) (n : Nat) : Below B a (w.drewN n) := ⟨h.os, h.tape, h.output, h.size, h.block⟩
theorem below_one {B : Nat} {w0 w w2 : World} {v : Value} {n : Nat} {e : TypeId} {size : Nat} {xs : List Value} (o : Obj) (h : w.ownsRow B e size v n xs) (hB : B ≤ w.heap.size) (hb0 : Below B w0 w)
    (hg : (w.alloc o).grownBy w2 v.ownBlock) : Below B w0 w2 :=
  (hb0.alloc hB o).grown hg (by simp; omega) (fun k hk => (h.lt k hk).1)
theorem grefl (w : World) (row : Option Nat) : w.grownBy w row := ⟨rfl, rfl, rfl, Nat.le_refl _, fun _ _ _ => rfl⟩
theorem gtrans {a b c : World} {row : Option Nat} (h : a.grownBy b row) (k : b.grownBy c row) : a.grownBy c row :=
  ⟨k.os.trans h.os, k.tape.trans h.tape, k.output.trans h.output, Nat.le_trans h.size k.size, fun i hi hn => (k.block i (Nat.lt_of_lt_of_le hi h.size) hn).trans (h.block i hi hn)⟩
theorem Below.down {B : Nat} {a b c : World} (h : Below B a b) (k : Below b.heap.size b c) (hB : B ≤ b.heap.size) : Below B a c := h.trans (k.mono hB)
theorem wfb {a : Int} (h : (Lit.int .i64 a).wf = true) : -9223372036854775808 ≤ a ∧ a ≤ 9223372036854775807 := by
  simp only [Lit.wf, Bool.and_eq_true, decide_eq_true_eq] at h
  exact h
end Go.Proofs.YtkaalinoiilmoaaGreat
namespace Go.Proofs.YtkaalinoiilmoaaGreat
open Go.RowKit
set_option linter.unusedVariables false
set_option maxRecDepth 100000
def Blk (w : World) (g : Nat) (t : TypeId) (cs : List Value) : Prop := w.heap[g]? = some (.cells cs.toArray t (0, 0))
section
variable {w w' : World} {g : Nat} {t : TypeId} {cs : List Value}
theorem Blk.lt (h : Blk w g t cs) : g < w.heap.size := (Array.getElem?_eq_some_iff.1 h).1
theorem Blk.cell (h : Blk w g t cs) (i : Nat) : w.cell? ⟨g, i, none⟩ = cs[i]? := by
  rw [cell_of_row w g i cs.toArray t (0, 0) h]; simp
theorem Blk.frozen (h : Blk w g t cs) (i : Nat) : w.frozen? ⟨g, i, none⟩ = false := by
  have h' : w.heap[g]? = some (.cells cs.toArray t (0, 0)) := h
  simp [World.frozen?, h']
theorem Blk.new (w : World) (t : TypeId) (cs : List Value) : Blk (w.alloc (.cells cs.toArray t)) w.heap.size t cs := heap_alloc_new w _
theorem Blk.drewN (h : Blk w g t cs) (n : Nat) : Blk (w.drewN n) g t cs := h
theorem Blk.alloc (h : Blk w g t cs) (o : Obj) : Blk (w.alloc o) g t cs := (Below.heap_alloc w o g h.lt).trans h
theorem Blk.set (h : Blk w g t cs) (i : Nat) (u : Value) : Blk (w.setCell ⟨g, i, none⟩ u) g t (cs.set i u) := by
  have h' : w.heap[g]? = some (.cells cs.toArray t (0, 0)) := h
  unfold Blk
  simp [World.setCell, Array.getElem?_modify, h']
theorem Blk.far (h : Blk w g t cs) {p : Addr} (hp : g ≠ p.block) (u : Value) : Blk (w.setCell p u) g t cs := (Below.heap_setCell w p u g hp).trans h
theorem Blk.below {B : Nat} (h : Blk w g t cs) (hb : Below B w w') (hg : g < B) : Blk w' g t cs := (hb.block g hg).trans h
theorem Blk.grown {row : Option Nat} (h : Blk w g t cs) (hb : w.grownBy w' row) (hg : some g ≠ row) : Blk w' g t cs := (hb.block g h.lt hg).trans h
theorem Blk.apart {g' : Nat} {t' : TypeId} {cs' : List Value} (h : Blk w g t cs) (h' : Blk w g' t' cs') (hne : t ≠ t') : g ≠ g' := by
  intro e; subst e
  have h1 : w.heap[g]? = some (.cells cs.toArray t (0, 0)) := h
  have h2 : w.heap[g]? = some (.cells cs'.toArray t' (0, 0)) := h'
  rw [h1] at h2
  simp only [Option.some.injEq, Obj.cells.injEq] at h2
  exact hne h2.2.1
theorem own_apart_blk {base n size : Nat} {e : TypeId} {v : Value} {xs : List Value} (h : w.ownsRow base e size v n xs) (hg : Blk w g t cs) (hne : e ≠ t) : v.ownBlock ≠ some g := by
  rcases h.2 with ⟨rfl, _⟩ | ⟨k, cap, cur, rfl, _, hh, _⟩
  · simp [Value.ownBlock]
  · intro he
    have hk : k = g := by simpa [Value.ownBlock] using he
    subst hk
    have h1 : w.heap[k]? = some (.cells cs.toArray t (0, 0)) := hg
    rw [hh] at h1
    simp only [Option.some.injEq, Obj.cells.injEq] at h1
    exact hne h1.2.1
end
theorem gset {a w : World} {g : Nat} (h : a.grownBy w (some g)) {p : Addr} (hp : p.block = g ∨ a.heap.size ≤ p.block) (u : Value) : a.grownBy (w.setCell p u) (some g) :=
  ⟨h.os, h.tape, h.output, by simpa [World.setCell] using h.size, fun i hi hne => (Below.heap_setCell w p u i (by
    intro e; subst e
    rcases hp with hp | hp
    · exact hne (by rw [hp])
    · omega)).trans (h.block i hi hne)⟩
theorem gof {a w : World} (h : Below a.heap.size a w) (row : Option Nat) : a.grownBy w row := ⟨h.os, h.tape, h.output, h.size, fun i hi _ => h.block i hi⟩
theorem gone {w : World} {g i : Nat} (u : Value) : w.grownBy (w.setCell ⟨g, i, none⟩ u) (some g) := gset (grefl w _) (.inl rfl) u
theorem Blk.row {w : World} {g : Nat} {t : TypeId} {cs : List Value} (h : Blk w g t cs) (cs' : List Value) : Blk (w.setRow g cs'.toArray) g t cs' := setRow_heap w g _ _ t (0, 0) h
def Sl (w : World) (v : Value) (n size : Nat) (xs : List Value) : Prop :=
  ∃ A cap, v = .slice A n cap ∧ n ≤ cap ∧ xs.length = n * size ∧ (0 < n → ∃ b o, A = some ⟨b, o, none⟩ ∧ b < w.heap.size ∧ ∀ j u, xs[j]? = some u → w.cell? ⟨b, o + j, none⟩ = some u)
theorem Sl.drewN {w : World} {v : Value} {n size : Nat} {xs : List Value} (h : Sl w v n size xs) (k : Nat) : Sl (w.drewN k) v n size xs := h
theorem Sl.below {w w' : World} {v : Value} {n size : Nat} {xs : List Value} (h : Sl w v n size xs) (hb : Below w.heap.size w w') : Sl w' v n size xs := by
  obtain ⟨A, c, rfl, hc, hl, hA⟩ := h
  refine ⟨A, c, rfl, hc, hl, fun hn => ?_⟩
  obtain ⟨b, o, rfl, hlt, hcell⟩ := hA hn
  exact ⟨b, o, rfl, Nat.lt_of_lt_of_le hlt hb.size, fun j u hu => (hb.cell (p := ⟨b, o + j, none⟩) hlt).trans (hcell j u hu)⟩
theorem Sl.own {w : World} {v : Value} {base n size : Nat} {e : TypeId} {xs : List Value} (h : w.ownsRow base e size v n xs) : Sl w v n size xs := by
  obtain ⟨hl, ⟨rfl, rfl⟩ | ⟨g, cap, cur, rfl, hb, hg, hnc, _, hsz, ht⟩⟩ := h
  · exact ⟨none, 0, rfl, Nat.le_refl _, hl, fun h => absurd h (by omega)⟩
  · refine ⟨_, cap, rfl, hnc, hl, fun _ => ⟨g, 0, rfl, ?_, fun j u hu => ?_⟩⟩
    · rcases Nat.lt_or_ge g w.heap.size with h | h
      · exact h
      · rw [Array.getElem?_eq_none h] at hg; cases hg
    · rw [cell_of_row w g (0 + j) cur e (0, 0) hg, ← ht] at *
      rw [List.getElem?_take] at hu
      split at hu
      · simpa using hu
      · cases hu
def ints (l : List Int) : List Value := l.map (Value.int .i64)
theorem ints_len (l : List Int) : (ints l).length = l.length := by simp [ints]
theorem ints_get (l : List Int) (k : Nat) (h : k < l.length) : (ints l)[k]? = some (.int .i64 (l.getD k 0)) := by
  simp [ints, List.getD, List.getElem?_eq_getElem h]
theorem ints_append (l m : List Int) : ints (l ++ m) = ints l ++ ints m := by simp [ints]
theorem ints_set (l : List Int) (k : Nat) (x : Int) : (ints l).set k (.int .i64 x) = ints (l.set k x) := by simp [ints, List.map_set]
section
variable {w : World} {h : Nat} {t : TypeId} {q : List Int}
theorem Blk.int (hb : Blk w h t (ints q)) {k : Nat} (hk : k < q.length) : w.cell? ⟨h, k, none⟩ = some (.int .i64 (q.getD k 0)) := by rw [hb.cell, ints_get q k hk]
end
end Go.Proofs.YtkaalinoiilmoaaGreat
namespace Go.Proofs.YtkaalinoiilmoaaGreat
open Go.RowKit
set_option linter.unusedVariables false
set_option maxRecDepth 100000
def bitc (F : Nat → Bool) (N : Nat) : List Value := (List.range N).map (fun i => .bool (F i))
theorem bitc_len (F : Nat → Bool) (N : Nat) : (bitc F N).length = N := by simp [bitc]
theorem bitc_get (F : Nat → Bool) (N i : Nat) (h : i < N) : (bitc F N)[i]? = some (.bool (F i)) := by
  simp [bitc, List.getElem?_map, List.getElem?_range h]
def bitF (F : Nat → Bool) (k : Nat) (b : Bool) : Nat → Bool := fun i => if i = k then b else F i
theorem bitc_set (F : Nat → Bool) (N k : Nat) (b : Bool) : (bitc F N).set k (.bool b) = bitc (bitF F k b) N := by
  apply List.ext_getElem?
  intro i
  rw [List.getElem?_set]
  by_cases h : i < N
  · rw [bitc_get _ _ _ h, bitc_get _ _ _ h, bitc_len]
    unfold bitF
    by_cases e : k = i
    · subst e; simp [h]
    · rw [if_neg e, if_neg (fun e' => e e'.symm)]
  · rw [List.getElem?_eq_none (by rw [bitc_len]; omega), List.getElem?_eq_none (by rw [bitc_len]; omega), bitc_len]
    by_cases e : k = i
    · subst e; simp [h]
    · rw [if_neg e]
def noB : Nat → Bool := fun _ => false
theorem bitF_here (F : Nat → Bool) (k : Nat) (b : Bool) : bitF F k b k = b := by unfold bitF; rw [if_pos rfl]
end Go.Proofs.YtkaalinoiilmoaaGreat
namespace Go.Proofs.YtkaalinoiilmoaaGreat
open Go.RowKit
set_option linter.unusedVariables false
set_option maxRecDepth 100000
def pre (l : List (Nat × Nat × Nat)) (i : Nat) : Nat := ((l.take i).map (fun p => p.2.2)).sum
theorem quiet_ {P : Program} {f : FuncId} {args : Array Value} {w : World} {n : Nat} {v : Value}
    (h : ∀ W, Calls P f args W fun e w' => e = .returned v ∧ W = w') : Calls P f args (w.drewN n) fun e w'' => e = .returned v ∧ ∃ m, w'' = w.drewN m :=
  (h _).mono fun _ _ ⟨he, hm⟩ => ⟨he, n, hm.symm⟩
theorem quiet_a {P : Program} {f : FuncId} {args : Array Value} {w : World} {a n : Nat} {v : Value}
    (h : ∀ W, Calls P f args W fun e w' => e = .returned v ∧ W = w') : Calls P f args (w.drewN (a + n)) fun e w'' => e = .returned v ∧ ∃ m, w'' = w.drewN (a + m) :=
  (h _).mono fun _ _ ⟨he, hm⟩ => ⟨he, n, hm.symm⟩
end Go.Proofs.YtkaalinoiilmoaaGreat
namespace Go.Proofs.YtkaalinoiilmoaaGreat
open Go.RowKit
set_option linter.unusedVariables false
set_option maxRecDepth 100000
def freeB (F : Nat → Bool) : Nat → Nat → Bool
  | _, 0 => true
  | a, c + 1 => !F a && freeB F (a + 1) c
def addF (F : Nat → Bool) (a c : Nat) : Nat → Bool := fun k => F k || (decide (a ≤ k) && decide (k < a + c))
theorem addF_zero (F : Nat → Bool) (a : Nat) : addF F a 0 = F := by
  funext k; unfold addF
  by_cases h : a ≤ k
  · rw [decide_eq_true h, decide_eq_false (show ¬ k < a + 0 by omega)]; simp
  · rw [decide_eq_false h]; simp
theorem addF_step (F : Nat → Bool) (a k : Nat) : bitF (addF F a k) (a + k) true = addF F a (k + 1) := by
  funext i; unfold bitF addF
  by_cases e : i = a + k
  · subst e; rw [if_pos rfl, decide_eq_true (show a ≤ a + k by omega), decide_eq_true (show a + k < a + (k + 1) by omega)]; simp
  · rw [if_neg e]
    by_cases h : a ≤ i
    · rw [decide_eq_true h]
      by_cases h2 : i < a + k
      · rw [decide_eq_true h2, decide_eq_true (show i < a + (k + 1) by omega)]
      · rw [decide_eq_false h2, decide_eq_false (show ¬ i < a + (k + 1) by omega)]
    · rw [decide_eq_false h]; simp
theorem addF_at (F : Nat → Bool) (a k : Nat) : addF F a k (a + k) = F (a + k) := by
  unfold addF; rw [decide_eq_false (show ¬ a + k < a + k by omega)]; simp
theorem freeB_step (F : Nat → Bool) (a c k : Nat) (h : k < c) : freeB F (a + k) (c - k) = (!F (a + k) && freeB F (a + (k + 1)) (c - (k + 1))) := by
  obtain ⟨m, hm⟩ : ∃ m, c - k = m + 1 := ⟨c - k - 1, by omega⟩
  rw [hm, show c - (k + 1) = m by omega]; rfl
def runB (a n s : Int) : Bool := decide (0 ≤ a ∧ 0 ≤ n ∧ a ≤ s ∧ n ≤ s - a)
def goB : List (Int × Int) → Int → (Nat → Bool) → Bool
  | [], _, _ => true
  | p :: ps, s, F => runB p.1 p.2 s && (freeB F p.1.toNat p.2.toNat && goB ps s (addF F p.1.toNat p.2.toNat))
def extB (ps : List (Int × Int)) (s : Int) : Bool := (decide (1 ≤ ps.length ∧ ps.length ≤ 4) && decide (0 ≤ s ∧ s ≤ 64)) && goB ps s noB
theorem goB_end (ps : List (Int × Int)) (s : Int) (F : Nat → Bool) (k : Nat) (h : ps.length ≤ k) : goB (ps.drop k) s F = true := by
  rw [List.drop_eq_nil_of_le h]; rfl
theorem goB_step (ps : List (Int × Int)) (s : Int) (F : Nat → Bool) (k : Nat) (h : k < ps.length) :
    goB (ps.drop k) s F = (runB (ps.getD k (0, 0)).1 (ps.getD k (0, 0)).2 s && (freeB F (ps.getD k (0, 0)).1.toNat (ps.getD k (0, 0)).2.toNat && goB (ps.drop (k + 1)) s (addF F (ps.getD k (0, 0)).1.toNat (ps.getD k (0, 0)).2.toNat))) := by
  simp only [List.getD, List.getElem?_eq_getElem h, Option.getD_some]
  rw [List.drop_eq_getElem_cons h]; rfl
def PtS (w : World) (v : Value) (ps : List (Int × Int)) : Prop :=
  ∃ A cap, v = .slice A ps.length cap ∧ ps.length ≤ maxLen ∧ (0 < ps.length → ∃ b o, A = some ⟨b, o, none⟩ ∧ b < w.heap.size ∧ ∀ i, i < ps.length → ∃ (l c : Int) (A2 : Option Addr) (n2 c2 : Nat),
    w.cell? ⟨b, o + i * 5, none⟩ = some (.int .i64 l) ∧ w.cell? ⟨b, o + i * 5 + 1, none⟩ = some (.int .i64 c) ∧ w.cell? ⟨b, o + i * 5 + 2, none⟩ = some (.slice A2 n2 c2) ∧
    w.cell? ⟨b, o + i * 5 + 3, none⟩ = some (.int .i64 (ps.getD i (0, 0)).1) ∧ w.cell? ⟨b, o + i * 5 + 4, none⟩ = some (.int .i64 (ps.getD i (0, 0)).2))
theorem PtS.below {w w' : World} {v : Value} {ps : List (Int × Int)} (h : PtS w v ps) (hb : Below w.heap.size w w') : PtS w' v ps := by
  obtain ⟨A, cap, hv, hn, hA⟩ := h
  refine ⟨A, cap, hv, hn, fun h0 => ?_⟩
  obtain ⟨b, o, e, hlt, hi⟩ := hA h0
  have g := fun x => hb.cell (p := ⟨b, x, none⟩) hlt
  refine ⟨b, o, e, Nat.lt_of_lt_of_le hlt hb.size, fun i hi' => ?_⟩
  obtain ⟨l, c, A2, n2, c2, h0, h1, h2, h3, h4⟩ := hi i hi'
  exact ⟨l, c, A2, n2, c2, (g _).trans h0, (g _).trans h1, (g _).trans h2, (g _).trans h3, (g _).trans h4⟩
theorem PtS.len {w : World} {v : Value} {ps : List (Int × Int)} (h : PtS w v ps) : ∃ A cap, v = .slice A ps.length cap := by obtain ⟨A, cap, h, _⟩ := h; exact ⟨A, cap, h⟩
end Go.Proofs.YtkaalinoiilmoaaGreat
namespace Go.Proofs.YtkaalinoiilmoaaGreat
open Go.RowKit
set_option linter.unusedVariables false
set_option maxRecDepth 100000
theorem wpList_append_sl {P : Program} {w : World} {ops : Array Oper} {rest : List Oper} {o : Oper} {a : Act} {Q : Exit → Act → World → Prop} (hgd : o.guard = none) (s x : Operand) (t : TypeId)
    (ho : o.op = .call { callee := .builtin .append, args := #[s, x], argTypes := #[t, t] })
    (base : Nat) (e : TypeId) (i : TypeInfo) (z : Value) (size bytes : Nat) (ht : P.underlying t = some (.slice e)) (hi : P.info? e = some i) (hz : i.zero = some z)
    (hsize : i.size = size) (hby : i.bytes = bytes) (hzs : z.cells.size = size) (hsz : 0 < size)
    (v : Value) (n : Nat) (xs : List Value) (hs : a.eval s = v) (hown : w.ownsRow base e size v n xs)
    (u : Value) (m : Nat) (news : List Value) (hx : a.eval x = u) (hu : Sl w u m size news) (hnil : ∀ k c, u = .slice none k c → c = 0) (h1 : ∀ u ∈ news, u.oneCell' = true)
    (h63 : n + m ≤ maxLen) (hbytes : (n + m) * bytes ≤ 140737488355328) (hbase : base ≤ w.heap.size)
    (h : ∀ v' w', w'.ownsRow base e size v' (n + m) (xs ++ news) → w.grownBy w' v.ownBlock → wpList P ops Q rest (a.put o.dst v') w') : wpList P ops Q (o :: rest) a w := by
  obtain ⟨A, c, rfl, hc, hl, hA⟩ := hu
  by_cases h0 : 0 < m
  · obtain ⟨b, off, rfl, hb, hcell⟩ := hA h0
    exact wpList_append_own _ hgd s x t ho base e i z size bytes ht hi hz hsize hby hzs hsz v n xs hs hown ⟨b, off, none⟩ m c news hx hl (fun j u hj => by rw [add_none]; exact hcell j u hj) h1 h63 hbytes hbase (fun v' w' k1 k2 _ => h v' w' k1 k2)
  · obtain rfl : m = 0 := by omega
    obtain rfl : news = [] := List.length_eq_zero_iff.1 (by rw [hl, Nat.zero_mul])
    cases A with
    | none =>
      obtain rfl : c = 0 := hnil 0 c rfl
      refine wpList_append_own_none hgd s x t ho base e i size ht hi v n xs hs hown hx (h v w ?_ ⟨rfl, rfl, rfl, Nat.le_refl _, fun _ _ _ => rfl⟩)
      rw [List.append_nil]; exact hown
    | some ad =>
      exact wpList_append_own _ hgd s x t ho base e i z size bytes ht hi hz hsize hby hzs hsz v n xs hs hown ad 0 c [] hx (by rw [Nat.zero_mul]; rfl) (fun j u hj => by simp at hj) (fun u hu => by cases hu) h63 hbytes hbase (fun v' w' k1 k2 _ => h v' w' k1 k2)
theorem own_types {w : World} {B B' n n' size size' : Nat} {e e' : TypeId} {v v' : Value} {xs xs' : List Value} (h : w.ownsRow B e size v n xs) (h' : w.ownsRow B' e' size' v' n' xs') (hne : e ≠ e') : ∀ b, v.ownBlock = some b → v'.ownBlock = some b → False := by
  intro b hb hb'
  rcases h.2 with ⟨rfl, _⟩ | ⟨g, cap, cur, rfl, _, hh, _⟩
  · cases hb
  · rcases h'.2 with ⟨rfl, _⟩ | ⟨g', cap', cur', rfl, _, hh', _⟩
    · cases hb'
    · simp only [Value.ownBlock, Option.some.injEq] at hb hb'
      subst hb; subst hb'
      rw [hh] at hh'
      simp only [Option.some.injEq, Obj.cells.injEq] at hh'
      exact hne hh'.2.1
end Go.Proofs.YtkaalinoiilmoaaGreat
namespace Go.Proofs.YtkaalinoiilmoaaGreat
open Go.RowKit
set_option linter.unusedVariables false
set_option maxRecDepth 100000
structure Fo (S : Nat → Prop) (w w' : World) : Prop where
  os : w'.os = w.os
  tape : w'.tape = w.tape
  output : w'.output = w.output
  size : w.heap.size ≤ w'.heap.size
  block : ∀ k, k < w.heap.size → ¬ S k → w'.heap[k]? = w.heap[k]?
section
variable {S : Nat → Prop} {a b c : World}
theorem Fo.refl (S : Nat → Prop) (w : World) : Fo S w w := ⟨rfl, rfl, rfl, Nat.le_refl _, fun _ _ _ => rfl⟩
theorem Fo.of (h : Below a.heap.size a b) (S : Nat → Prop) : Fo S a b := ⟨h.os, h.tape, h.output, h.size, fun i hi _ => h.block i hi⟩
theorem Fo.trans (h : Fo S a b) (k : Fo S b c) : Fo S a c :=
  ⟨k.os.trans h.os, k.tape.trans h.tape, k.output.trans h.output, Nat.le_trans h.size k.size, fun i hi hn => (k.block i (Nat.lt_of_lt_of_le hi h.size) hn).trans (h.block i hi hn)⟩
theorem Fo.trans_new {S' : Nat → Prop} (h : Fo S a b) (k : Fo S' b c) (hS : ∀ i, S' i → S i ∨ a.heap.size ≤ i) : Fo S a c :=
  ⟨k.os.trans h.os, k.tape.trans h.tape, k.output.trans h.output, Nat.le_trans h.size k.size, fun i hi hn => (k.block i (Nat.lt_of_lt_of_le hi h.size) (fun e => by rcases hS i e with e | e; exact hn e; omega)).trans (h.block i hi hn)⟩
theorem Fo.grown {row : Option Nat} (h : Fo S a b) (k : b.grownBy c row) (hr : ∀ g, row = some g → S g ∨ a.heap.size ≤ g) : Fo S a c :=
  ⟨k.os.trans h.os, k.tape.trans h.tape, k.output.trans h.output, Nat.le_trans h.size k.size, fun i hi hn => (k.block i (Nat.lt_of_lt_of_le hi h.size) (fun e => by rcases hr i e.symm with e | e; exact hn e; omega)).trans (h.block i hi hn)⟩
theorem Fo.set (h : Fo S a b) {p : Addr} (hp : S p.block ∨ a.heap.size ≤ p.block) (u : Value) : Fo S a (b.setCell p u) :=
  h.grown (gset (grefl b (some p.block)) (.inl rfl) u) (fun g hg => by injection hg with hg; subst hg; exact hp)
theorem Fo.alloc (h : Fo S a b) (o : Obj) : Fo S a (b.alloc o) := h.grown (World.grownBy_alloc b o none) (fun g hg => by cases hg)
theorem Fo.drewN (h : Fo S a b) (n : Nat) : Fo S a (b.drewN n) := ⟨h.os, h.tape, h.output, h.size, h.block⟩
theorem Fo.mono {S' : Nat → Prop} (h : Fo S a b) (hS : ∀ i, i < a.heap.size → S i → S' i) : Fo S' a b := ⟨h.os, h.tape, h.output, h.size, fun i hi hn => h.block i hi (fun e => hn (hS i hi e))⟩
theorem Fo.below {B : Nat} {z : World} (h : Fo S b c) (hb : Below B z b) (hB : B ≤ b.heap.size) (hS : ∀ i, S i → B ≤ i) : Below B z c :=
  ⟨h.os.trans hb.os, h.tape.trans hb.tape, h.output.trans hb.output, Nat.le_trans hb.size h.size, fun k hk => (h.block k (by omega) (fun e => by have := hS k e; omega)).trans (hb.block k hk)⟩
theorem Fo.blk {i : Nat} {T : TypeId} {cs : List Value} (h : Fo S a b) (hg : Blk a i T cs) (hn : ¬ S i) : Blk b i T cs := (h.block i hg.lt hn).trans hg
end
end Go.Proofs.YtkaalinoiilmoaaGreat
namespace Go.Proofs.YtkaalinoiilmoaaGreat
open Go.RowKit
set_option linter.unusedVariables false
set_option maxRecDepth 100000
structure Ob where
  Q : (Nat → Prop) → World → Prop
  stay : ∀ {S : Nat → Prop} {w w' : World}, Q S w → (∀ b, b < w.heap.size → S b → w'.heap[b]? = w.heap[b]?) → w.heap.size ≤ w'.heap.size → Q S w'
  lt : ∀ {S : Nat → Prop} {w : World} {b : Nat}, Q S w → S b → b < w.heap.size
def obE : Ob := ⟨fun S _ => ∀ b, ¬ S b, fun h _ _ => h, fun h hb => absurd hb (h _)⟩
def obA (a b : Ob) : Ob :=
  ⟨fun S w => ∃ S1 S2, a.Q S1 w ∧ b.Q S2 w ∧ (∀ k, S1 k → S2 k → False) ∧ ∀ k, S k ↔ (S1 k ∨ S2 k),
   fun ⟨S1, S2, h1, h2, d, e⟩ hk hs => ⟨S1, S2, a.stay h1 (fun k hk' hS => hk k hk' ((e k).2 (.inl hS))) hs, b.stay h2 (fun k hk' hS => hk k hk' ((e k).2 (.inr hS))) hs, d, e⟩,
   fun ⟨S1, S2, h1, h2, d, e⟩ hb => ((e _).1 hb).elim (a.lt h1) (b.lt h2)⟩
def obs : List Ob → Ob
  | [] => obE
  | a :: l => obA a (obs l)
def obX {α : Type} (f : α → Ob) : Ob :=
  ⟨fun S w => ∃ x, (f x).Q S w, fun ⟨x, h⟩ hk hs => ⟨x, (f x).stay h hk hs⟩, fun ⟨x, h⟩ hb => (f x).lt h hb⟩
def obB (g : Nat) (T : TypeId) (cs : List Value) : Ob :=
  ⟨fun S w => Blk w g T cs ∧ ∀ b, S b ↔ b = g, fun ⟨h, e⟩ hk hs => ⟨(hk g h.lt ((e g).2 rfl)).trans h, e⟩, fun ⟨h, e⟩ hb => ((e _).1 hb) ▸ h.lt⟩
theorem own_stay {w w' : World} {B n size : Nat} {e : TypeId} {v : Value} {xs : List Value} (h : w.ownsRow B e size v n xs) (hk : ∀ b, v.ownBlock = some b → w'.heap[b]? = w.heap[b]?) : w'.ownsRow B e size v n xs := by
  refine ⟨h.1, ?_⟩
  rcases h.2 with h2 | ⟨g, cap, cur, hv, hb, hg, h3⟩
  · exact .inl h2
  · exact .inr ⟨g, cap, cur, hv, hb, (hk g (by rw [hv]; rfl)).trans hg, h3⟩
theorem own_floor {w : World} {B B' size n : Nat} {e : TypeId} {v : Value} {xs : List Value} (h : w.ownsRow B e size v n xs) (hB : ∀ b, v.ownBlock = some b → B' ≤ b) : w.ownsRow B' e size v n xs :=
  ⟨h.1, h.2.imp id (fun ⟨a1, a2, a3, a4, a5, a6⟩ => ⟨a1, a2, a3, a4, hB a1 (by rw [a4]; rfl), a6⟩)⟩
def obR (e : TypeId) (size : Nat) (v : Value) (n : Nat) (xs : List Value) : Ob :=
  ⟨fun S w => w.ownsRow 0 e size v n xs ∧ ∀ b, S b ↔ v.ownBlock = some b, fun ⟨h, q⟩ hk hs => ⟨own_stay h (fun b hb => hk b (h.lt b hb).2 ((q b).2 hb)), q⟩, fun ⟨h, q⟩ hb => (h.lt _ ((q _).1 hb)).2⟩
theorem obs_swap {a b : Ob} {l : List Ob} {S : Nat → Prop} {w : World} (h : (obs (a :: b :: l)).Q S w) : (obs (b :: a :: l)).Q S w := by
  obtain ⟨S1, S2, h1, ⟨S3, S4, h3, h4, d2, e2⟩, d, e⟩ := h
  refine ⟨S3, fun k => S1 k ∨ S4 k, h3, ⟨S1, S4, h1, h4, fun k k1 k4 => d k k1 ((e2 k).2 (.inr k4)), fun _ => Iff.rfl⟩, fun k k3 k14 => ?_, fun k => ?_⟩
  · rcases k14 with k1 | k4
    · exact d k k1 ((e2 k).2 (.inl k3))
    · exact d2 k k3 k4
  · rw [e, e2]
    constructor
    · rintro (h | h | h) <;> simp [h]
    · rintro (h | h | h) <;> simp [h]
theorem obs_perm {l m : List Ob} (p : l.Perm m) : ∀ {S : Nat → Prop} {w : World}, (obs l).Q S w → (obs m).Q S w := by
  induction p with
  | nil => exact fun h => h
  | cons a p ih => intro S w ⟨S1, S2, h1, h2, d, e⟩; exact ⟨S1, S2, h1, ih h2, d, e⟩
  | swap a b l => exact fun h => obs_swap h
  | trans _ _ i1 i2 => exact fun h => i2 (i1 h)
theorem obs_append {l m : List Ob} : ∀ {S : Nat → Prop} {w : World}, (obs (l ++ m)).Q S w ↔ (obA (obs l) (obs m)).Q S w := by
  induction l with
  | nil =>
    intro S w
    constructor
    · exact fun h => ⟨fun _ => False, S, fun _ => id, h, fun _ h => h.elim, fun k => by simp⟩
    · rintro ⟨S1, S2, h1, h2, d, e⟩
      have : S = S2 := by funext k; have := e k; have h9 := h1 k; simp [h9] at this; exact propext this
      rw [this]; exact h2
  | cons a l ih =>
    intro S w
    constructor
    · rintro ⟨S1, S2, h1, h2, d, e⟩
      obtain ⟨S3, S4, h3, h4, d2, e2⟩ := ih.1 h2
      exact ⟨fun k => S1 k ∨ S3 k, S4, ⟨S1, S3, h1, h3, fun k a1 a3 => d k a1 ((e2 k).2 (.inl a3)), fun _ => Iff.rfl⟩, h4, fun k a13 a4 => a13.elim (fun a1 => d k a1 ((e2 k).2 (.inr a4))) (fun a3 => d2 k a3 a4), fun k => by rw [e, e2, or_assoc]⟩
    · rintro ⟨S12, S3, ⟨S1, S2, h1, h2, d, e⟩, h3, d2, e2⟩
      exact ⟨S1, fun k => S2 k ∨ S3 k, h1, ih.2 ⟨S2, S3, h2, h3, fun k a b => d2 k ((e k).2 (.inr a)) b, fun _ => Iff.rfl⟩, fun k a bc => bc.elim (d k a) (fun c => d2 k ((e k).2 (.inl a)) c), fun k => by rw [e2, e, or_assoc]⟩
theorem set_perm (e : Ob) : ∀ (l : List Ob) (i : Nat), i < l.length → (e :: l.eraseIdx i).Perm (l.set i e)
  | a :: l, 0, _ => .refl _
  | a :: l, i + 1, h => .trans (.swap a e _) (.cons a (set_perm e l i (by simpa using h)))
theorem get_perm {d : Ob} : ∀ {l : List Ob} {i : Nat}, l[i]? = some d → l.Perm (d :: l.eraseIdx i)
  | a :: l, 0, h => by simp at h; subst h; exact .refl _
  | a :: l, i + 1, h => .trans (.cons a (get_perm (by simpa using h))) (.swap d a _)
theorem obs_one {a : Ob} {S : Nat → Prop} {w : World} : (obs [a]).Q S w ↔ a.Q S w := by
  constructor
  · rintro ⟨S1, S2, h1, h2, d, e⟩
    have : S = S1 := by funext k; have := e k; have h9 := h2 k; simp [h9] at this; exact propext this
    rw [this]; exact h1
  · exact fun h => ⟨S, fun _ => False, h, fun _ => id, fun _ _ h => h, fun k => by simp⟩
def Tk (S : Nat → Prop) (W0 : World) (os : List Ob) (w : World) : Prop :=
  ∃ S', (obs os).Q S' w ∧ (∀ k, k < W0.heap.size → S' k → S k) ∧ Fo S W0 w
def nos : Nat → Prop := fun _ => False
section
variable {S : Nat → Prop} {W0 w w' : World} {os ps : List Ob} {a b d e : Ob} {i : Nat}
theorem Tk.start (h : (obs os).Q S w) : Tk S w os w := ⟨S, h, fun _ _ h => h, Fo.refl _ _⟩
theorem Tk.start1 (h : a.Q S w) : Tk S w [a] w := Tk.start (obs_one.2 h)
theorem Tk.empty (w : World) : Tk nos w [] w := ⟨nos, fun _ => id, fun _ _ h => h, Fo.refl _ _⟩
theorem Tk.size (h : Tk S W0 os w) : W0.heap.size ≤ w.heap.size := by obtain ⟨_, _, _, f⟩ := h; exact f.size
theorem Tk.fo (h : Tk S W0 os w) : Fo S W0 w := by obtain ⟨_, _, _, f⟩ := h; exact f
theorem Tk.below (h : Tk nos W0 os w) : Below W0.heap.size W0 w := by obtain ⟨_, _, _, f⟩ := h; exact ⟨f.os, f.tape, f.output, f.size, fun k hk => f.block k hk id⟩
theorem Tk.next (h : Tk S W0 os w) (hb : Below w.heap.size w w') : Tk S W0 os w' := by
  obtain ⟨S', q, l, f⟩ := h
  exact ⟨S', (obs os).stay q (fun b hb' _ => hb.block b hb') hb.size, l, f.trans (Fo.of hb S)⟩
theorem Tk.drewN (h : Tk S W0 os w) (n : Nat) : Tk S W0 os (w.drewN n) := h.next (bdrewN (Below.refl _ _) n)
theorem Tk.mono {S2 : Nat → Prop} (h : Tk S W0 os w) (hS : ∀ k, k < W0.heap.size → S k → S2 k) : Tk S2 W0 os w := by
  obtain ⟨S', q, l, f⟩ := h
  exact ⟨S', q, fun k hk h => hS k hk (l k hk h), f.mono hS⟩
theorem Tk.perm (h : Tk S W0 os w) (p : os.Perm ps) : Tk S W0 ps w := by obtain ⟨S', q, l, f⟩ := h; exact ⟨S', obs_perm p q, l, f⟩
theorem Tk.wrap (h : Tk S W0 os w) (k : ∀ {S w}, (obs os).Q S w → (obs ps).Q S w) : Tk S W0 ps w := by obtain ⟨S', q, l, f⟩ := h; exact ⟨S', k q, l, f⟩
theorem Tk.wrap1 (h : Tk S W0 os w) (k : ∀ {S w}, (obs os).Q S w → d.Q S w) : Tk S W0 [d] w := h.wrap (fun q => obs_one.2 (k q))
theorem Tk.sub (h : Tk S W0 os w) (hs : ps.Sublist os) : Tk S W0 ps w := by
  obtain ⟨S', q, l, f⟩ := h
  suffices hh : ∀ {S : Nat → Prop} {w : World}, (obs os).Q S w → ∃ S2, (obs ps).Q S2 w ∧ ∀ k, S2 k → S k by
    obtain ⟨S2, q2, l2⟩ := hh q
    exact ⟨S2, q2, fun k hk h => l k hk (l2 k h), f⟩
  clear q l f
  induction hs with
  | slnil => exact fun h => ⟨_, h, fun _ h => h⟩
  | cons a _ ih =>
    intro S w ⟨S1, S2, h1, h2, d, e⟩
    obtain ⟨S3, h3, l3⟩ := ih h2
    exact ⟨S3, h3, fun k h => (e k).2 (.inr (l3 k h))⟩
  | cons_cons a _ ih =>
    intro S w ⟨S1, S2, h1, h2, d, e⟩
    obtain ⟨S3, h3, l3⟩ := ih h2
    exact ⟨fun k => S1 k ∨ S3 k, ⟨S1, S3, h1, h3, fun k a b => d k a (l3 k b), fun _ => Iff.rfl⟩, fun k h => (e k).2 (h.imp id (l3 k))⟩
theorem Tk.drop (h : Tk S W0 os w) (i : Nat) : Tk S W0 (os.eraseIdx i) w := h.sub (List.eraseIdx_sublist ..)
theorem Tk.tail (h : Tk S W0 (a :: os) w) : Tk S W0 os w := h.sub (List.sublist_cons_self ..)
theorem Tk.call (h : Tk S W0 os w) (hi : os[i]? = some d) : ∃ S1, d.Q S1 w ∧ (∀ k, k < W0.heap.size → S1 k → S k) ∧ ∀ w' e ps, Tk S1 w (e :: ps) w' → Tk S W0 (ps ++ os.set i e) w' := by
  obtain ⟨S', q, l, f⟩ := h
  obtain ⟨S1, S2, h1, h2, dis, iff⟩ := obs_perm (get_perm hi) q
  refine ⟨S1, h1, fun k hk h => l k hk ((iff k).2 (.inl h)), fun w' e ps ⟨S3, h3, l3, f3⟩ => ?_⟩
  have hlt : i < os.length := (List.getElem?_eq_some_iff.1 hi).1
  have h4 : (obs ((e :: ps) ++ os.eraseIdx i)).Q (fun k => S3 k ∨ S2 k) w' := obs_append.2 ⟨S3, S2, h3, (obs (os.eraseIdx i)).stay h2 (fun b hb hS => f3.block b hb (fun h => dis b h hS)) f3.size, fun k a b => dis k (l3 k ((obs (os.eraseIdx i)).lt h2 b) a) b, fun _ => Iff.rfl⟩
  refine ⟨_, obs_perm (?_ : ((e :: ps) ++ os.eraseIdx i).Perm (ps ++ os.set i e)) h4, fun k hk hk2 => ?_, f.trans_new f3 (fun k hk => ?_)⟩
  · exact (List.perm_middle (l₁ := ps) (l₂ := os.eraseIdx i)).symm.trans ((set_perm e os i hlt).append_left ps)
  · rcases hk2 with hk2 | hk2
    · exact l k hk ((iff k).2 (.inl (l3 k (Nat.lt_of_lt_of_le hk f.size) hk2)))
    · exact l k hk ((iff k).2 (.inr hk2))
  · by_cases hk3 : k < W0.heap.size
    · exact .inl (l k hk3 ((iff k).2 (.inl hk)))
    · exact .inr (by omega)
theorem Tk.get (h : Tk S W0 os w) (hi : os[i]? = some d) : ∃ S1, d.Q S1 w ∧ ∀ k, k < W0.heap.size → S1 k → S k := by obtain ⟨S1, h1, h2, _⟩ := h.call hi; exact ⟨S1, h1, h2⟩
theorem Tk.add (h : Tk S W0 os w) (hb : Tk nos w ps w') : Tk S W0 (ps ++ os) w' := by
  obtain ⟨S', q, l, f⟩ := h
  obtain ⟨S2, q2, l2, f2⟩ := hb
  refine ⟨fun k => S2 k ∨ S' k, obs_append.2 ⟨S2, S', q2, (obs os).stay q (fun b hb _ => f2.block b hb id) f2.size, fun k a b => l2 k ((obs os).lt q b) a, fun _ => Iff.rfl⟩, fun k hk h => ?_, f.trans_new f2 (fun _ h => h.elim)⟩
  rcases h with h | h
  · exact (l2 k (Nat.lt_of_lt_of_le hk f.size) h).elim
  · exact l k hk h
theorem Tk.alloc (h : Tk S W0 os w) (T : TypeId) (cs : List Value) : Tk S W0 (obB w.heap.size T cs :: os) (w.alloc (.cells cs.toArray T)) := by
  refine Tk.add (ps := [obB w.heap.size T cs]) h ⟨fun k => k = w.heap.size, obs_one.2 ⟨Blk.new _ _ _, fun _ => Iff.rfl⟩, fun k hk e => by omega, (Fo.refl _ _).alloc _⟩
theorem Tk.blk {g : Nat} {T : TypeId} {cs : List Value} (h : Tk S W0 os w) (hi : os[i]? = some (obB g T cs)) : Blk w g T cs := by obtain ⟨_, q, _⟩ := h.get hi; exact q.1
theorem Tk.turn {g : Nat} {T : TypeId} {cs cs' : List Value} (h : Tk S W0 os w) (hi : os[i]? = some (obB g T cs)) (hg : w.grownBy w' (some g)) (hb : Blk w' g T cs') : Tk S W0 (os.set i (obB g T cs')) w' := by
  obtain ⟨S1, q, _, k⟩ := h.call hi
  exact k w' _ [] ⟨S1, obs_one.2 ⟨hb, q.2⟩, fun _ _ h => h, (Fo.refl _ _).grown hg (fun x hx => .inl ((q.2 x).2 (by injection hx with hx; exact hx.symm)))⟩
theorem Tk.store {g : Nat} {T : TypeId} {cs : List Value} (h : Tk S W0 os w) (hi : os[i]? = some (obB g T cs)) (j : Nat) (u : Value) : Tk S W0 (os.set i (obB g T (cs.set j u))) (w.setCell ⟨g, j, none⟩ u) :=
  h.turn hi (gone u) ((h.blk hi).set j u)
theorem Tk.row {t : TypeId} {size n : Nat} {v : Value} {xs : List Value} (h : Tk S W0 os w) (hi : os[i]? = some (obR t size v n xs)) : w.ownsRow 0 t size v n xs := by obtain ⟨_, q, _⟩ := h.get hi; exact q.1
theorem Tk.sl {t : TypeId} {size n : Nat} {v : Value} {xs : List Value} (h : Tk S W0 os w) (hi : os[i]? = some (obR t size v n xs)) : Sl w v n size xs := Sl.own (h.row hi)
theorem Tk.turnR {t : TypeId} {size n n' : Nat} {v v' : Value} {xs xs' : List Value} (h : Tk S W0 os w) (hi : os[i]? = some (obR t size v n xs)) (hg : w.grownBy w' v.ownBlock) (hb : w'.ownsRow 0 t size v' n' xs') (hv : ∀ b, v'.ownBlock = some b → v.ownBlock = some b ∨ w.heap.size ≤ b) : Tk S W0 (os.set i (obR t size v' n' xs')) w' := by
  obtain ⟨S1, q, _, k⟩ := h.call hi
  refine k w' _ [] ⟨fun b => v'.ownBlock = some b, obs_one.2 ⟨hb, fun _ => Iff.rfl⟩, fun x hx e => ?_, (Fo.refl _ _).grown hg (fun x hx => .inl ((q.2 x).2 hx))⟩
  rcases hv x e with h1 | h1
  · exact (q.2 x).2 h1
  · omega
theorem Tk.spoilR {t : TypeId} {size n : Nat} {v : Value} {xs : List Value} (h : Tk S W0 os w) (hi : os[i]? = some (obR t size v n xs)) (hg : w.grownBy w' v.ownBlock) : Tk S W0 (os.eraseIdx i) w' := by
  obtain ⟨S1, q, _, k⟩ := h.call hi
  have h2 := k w' obE [] ⟨nos, obs_one.2 (fun _ => id), fun _ _ h => h.elim, (Fo.refl _ _).grown hg (fun x hx => .inl ((q.2 x).2 hx))⟩
  have := h2.drop i
  have e : ∀ (l : List Ob) (j : Nat), (l.set j obE).eraseIdx j = l.eraseIdx j := by
    intro l
    induction l with
    | nil => intro j; rfl
    | cons x l ih => intro j; cases j with | zero => rfl | succ j => simp [ih]
  rw [List.nil_append, e] at this
  exact this
theorem Tk.addR {t : TypeId} {size n : Nat} {v : Value} {xs : List Value} (h : Tk S W0 os w) (hb : Below w.heap.size w w') (hr : w'.ownsRow w.heap.size t size v n xs) : Tk S W0 (obR t size v n xs :: os) w' :=
  Tk.add (ps := [obR t size v n xs]) h ⟨fun b => v.ownBlock = some b, obs_one.2 ⟨own_floor hr (fun _ _ => Nat.zero_le _), fun _ => Iff.rfl⟩, fun k hk e => by have := (hr.lt k e).1; omega, Fo.of hb _⟩
end
end Go.Proofs.YtkaalinoiilmoaaGreat
namespace Go.Proofs.YtkaalinoiilmoaaGreat
open Go.RowKit
set_option linter.unusedVariables false
set_option linter.unusedSimpArgs false
set_option maxRecDepth 100000
structure Pa where
  lv : Int
  ct : Int
  fr : List Int
  fi : Int
  co : Int
def paD : Pa := ⟨0, 0, [], 0, 0⟩
def Pa.fc (p : Pa) : Int × Int := (p.fi, p.co)
theorem fc_getD (l : List Pa) (i : Nat) : (l.map Pa.fc).getD i (0, 0) = (l.getD i paD).fc := by
  simp only [List.getD, List.getElem?_map]
  cases l[i]? <;> rfl
def PaAt (w : World) (b a : Nat) (p : Pa) : Prop := ∃ A2 c2, w.cell? ⟨b, a, none⟩ = some (.int .i64 p.lv) ∧ w.cell? ⟨b, a + 1, none⟩ = some (.int .i64 p.ct) ∧ w.cell? ⟨b, a + 2, none⟩ = some (.slice A2 p.fr.length c2) ∧
  w.cell? ⟨b, a + 3, none⟩ = some (.int .i64 p.fi) ∧ w.cell? ⟨b, a + 4, none⟩ = some (.int .i64 p.co) ∧ Sl w (.slice A2 p.fr.length c2) p.fr.length 1 (ints p.fr) ∧ (A2 = none → c2 = 0)
theorem PaAt.below {w w' : World} {b a : Nat} {p : Pa} (h : PaAt w b a p) (hb : Below w.heap.size w w') (hlt : b < w.heap.size) : PaAt w' b a p := by
  have g := fun x => hb.cell (p := ⟨b, x, none⟩) hlt
  obtain ⟨A2, c2, h0, h1, h2, h3, h4, h5, h6⟩ := h
  exact ⟨A2, c2, (g _).trans h0, (g _).trans h1, (g _).trans h2, (g _).trans h3, (g _).trans h4, h5.below hb, h6⟩
def PaS (w : World) (v : Value) (l : List Pa) : Prop :=
  ∃ A cap, v = .slice A l.length cap ∧ (0 < l.length → ∃ b o, A = some ⟨b, o, none⟩ ∧ b < w.heap.size ∧ ∀ i, i < l.length → PaAt w b (o + i * 5) (l.getD i paD))
def PaZ (l : List Pa) : Prop := l.length * 56 ≤ 140737488351232 ∧ ∀ i, (l.getD i paD).fr.length * 8 ≤ 140737488351232
theorem PaS.below {w w' : World} {v : Value} {l : List Pa} (h : PaS w v l) (hb : Below w.heap.size w w') : PaS w' v l := by
  obtain ⟨A, cap, hv, hA⟩ := h
  refine ⟨A, cap, hv, fun h0 => ?_⟩
  obtain ⟨b, o, e, hlt, hi⟩ := hA h0
  exact ⟨b, o, e, Nat.lt_of_lt_of_le hlt hb.size, fun i hi' => (hi i hi').below hb hlt⟩
theorem PaS.pts {w : World} {v : Value} {l : List Pa} (h : PaS w v l) (hz : PaZ l) : PtS w v (l.map Pa.fc) := by
  obtain ⟨A, cap, hv, hA⟩ := h
  have hz1 := hz.1
  refine ⟨A, cap, by rw [hv, List.length_map], by rw [List.length_map]; unfold maxLen; omega, fun h0 => ?_⟩
  rw [List.length_map] at h0
  obtain ⟨b, o, e, hlt, hi⟩ := hA h0
  refine ⟨b, o, e, hlt, fun i hi' => ?_⟩
  rw [List.length_map] at hi'
  rw [fc_getD]
  obtain ⟨A2, c2, h0, h1, h2, h3, h4, _⟩ := hi i hi'
  exact ⟨_, _, A2, _, c2, h0, h1, h2, h3, h4⟩
def pac (x : Pa × Value) : List Value := [.int .i64 x.1.lv, .int .i64 x.1.ct, x.2, .int .i64 x.1.fi, .int .i64 x.1.co]
def pcl (L : List (Pa × Value)) : List Value := L.flatMap pac
theorem pcl_append (L M : List (Pa × Value)) : pcl (L ++ M) = pcl L ++ pcl M := by simp [pcl, List.flatMap_append]
theorem pcl_one (x : Pa × Value) : pcl [x] = pac x := by simp [pcl]
theorem pcl_get (L : List (Pa × Value)) : ∀ i (h : i < L.length), (pcl L)[i * 5]? = some (.int .i64 L[i].1.lv) ∧ (pcl L)[i * 5 + 1]? = some (.int .i64 L[i].1.ct) ∧ (pcl L)[i * 5 + 2]? = some L[i].2 ∧ (pcl L)[i * 5 + 3]? = some (.int .i64 L[i].1.fi) ∧ (pcl L)[i * 5 + 4]? = some (.int .i64 L[i].1.co) := by
  induction L with
  | nil => intro i h; simp at h
  | cons p L ih =>
    intro i h
    have e : pcl (p :: L) = pac p ++ pcl L := by simp [pcl]
    match i with
    | 0 => rw [e]; simp [pac]
    | i + 1 =>
      have := ih i (by simpa using h)
      have hp : (pac p).length = 5 := rfl
      rw [e, List.getElem?_append_right (by omega), List.getElem?_append_right (by omega), List.getElem?_append_right (by omega), List.getElem?_append_right (by omega), List.getElem?_append_right (by omega), hp]
      rw [show (i + 1) * 5 - 5 = i * 5 by omega, show (i + 1) * 5 + 1 - 5 = i * 5 + 1 by omega, show (i + 1) * 5 + 2 - 5 = i * 5 + 2 by omega, show (i + 1) * 5 + 3 - 5 = i * 5 + 3 by omega, show (i + 1) * 5 + 4 - 5 = i * 5 + 4 by omega]
      simpa using this
def PaO (w : World) (B : Nat) (v : Value) (l : List Pa) : Prop :=
  ∃ L : List (Pa × Value), L.map (·.1) = l ∧ w.ownsRow B 70 5 v L.length (pcl L) ∧ ∀ x ∈ L, w.ownsRow B 3 1 x.2 x.1.fr.length (ints x.1.fr)
theorem PaO.below {w w' : World} {B : Nat} {v : Value} {l : List Pa} (h : PaO w B v l) (hb : Below w.heap.size w w') : PaO w' B v l := by
  obtain ⟨L, e, ho, hf⟩ := h
  exact ⟨L, e, own_below ho hb, fun x hx => own_below (hf x hx) hb⟩
theorem own_nilcap {w : World} {B n : Nat} {e : TypeId} {size : Nat} {v : Value} {xs : List Value} (h : w.ownsRow B e size v n xs) : ∃ A c, v = .slice A n c ∧ (A = none → c = 0) := by
  rcases h.2 with ⟨rfl, rfl⟩ | ⟨g, cap, cur, rfl, _⟩
  · exact ⟨none, 0, rfl, fun _ => rfl⟩
  · exact ⟨_, cap, rfl, fun e => by cases e⟩
theorem PaO.pas {w : World} {B : Nat} {v : Value} {l : List Pa} (h : PaO w B v l) : PaS w v l := by
  obtain ⟨L, e, ho, hf⟩ := h
  have hl : l.length = L.length := by rw [← e, List.length_map]
  obtain ⟨A, cap, hv, hc, hxl, hA⟩ := Sl.own ho
  refine ⟨A, cap, by rw [hl]; exact hv, fun h0 => ?_⟩
  obtain ⟨b, o, e', hlt, hcell⟩ := hA (by omega)
  refine ⟨b, o, e', hlt, fun i hi => ?_⟩
  have hi' : i < L.length := by omega
  obtain ⟨h0, h1, h2, h3, h4⟩ := pcl_get L i hi'
  have hg : l.getD i paD = L[i].1 := by
    subst e
    simp [List.getD, List.getElem?_map, List.getElem?_eq_getElem hi']
  have hr := hf _ (List.getElem_mem hi')
  obtain ⟨A2, c2, e2, hn⟩ := own_nilcap hr
  rw [hg]
  rw [e2] at h2
  refine ⟨A2, c2, hcell _ _ h0, ?_, ?_, ?_, ?_, by rw [← e2]; exact Sl.own hr, hn⟩
  · have := hcell _ _ h1; simpa [Nat.add_assoc] using this
  · have := hcell _ _ h2; simpa [Nat.add_assoc] using this
  · have := hcell _ _ h3; simpa [Nat.add_assoc] using this
  · have := hcell _ _ h4; simpa [Nat.add_assoc] using this
theorem infoPart : (Tryz.prog.info? 70).map (fun i => (i.zero, i.size, i.bytes)) = some (some (.agg #[.int .i64 0, .int .i64 0, .slice none 0 0, .int .i64 0, .int .i64 0]), 5, 56) := by kernel_rfl
theorem infoInP : (Tryz.prog.info? 3).map (fun i => (i.zero, i.size, i.bytes)) = some (some (.int .i64 0), 1, 8) := by kernel_rfl
theorem ints_oneP (fs : List Int) : ∀ u ∈ ints fs, u.oneCell' = true := by intro u hu; obtain ⟨x, _, rfl⟩ := List.mem_map.1 hu; rfl
def CpP (w : World) (l : List Pa) (k : Nat) (v : Value) (wr : World) : Prop := PaO wr w.heap.size v (l.take k) ∧ Below w.heap.size w wr
set_option maxHeartbeats 4000000 in
theorem copy_parts (u : Value) (l : List Pa) (w : World) (h : PaS w u l) (hz : PaZ l) :
    Calls Tryz.prog 16 #[u] w fun e w' => ∃ u', e = .returned u' ∧ PaO w' w.heap.size u' l ∧ Below w.heap.size w w' := by
  obtain ⟨A, cap, rfl, hA⟩ := h
  obtain ⟨n, hl⟩ : ∃ n, l.length = n := ⟨_, rfl⟩
  have HL := Lib.hid hl
  obtain ⟨hz1, hz2⟩ := hz
  rw [hl] at hA hz1 ⊢
  have HA := Lib.hid hA; have HZ := Lib.hid hz2
  obtain ⟨i0, hi, hy0, hy1, hy2⟩ := info_parts infoPart
  have HI := Lib.hid hi; have HY0 := Lib.hid hy0; have HY1 := Lib.hid hy1; have HY2 := Lib.hid hy2
  obtain ⟨j0, hj, hj0, hj1, hj2⟩ := info_parts infoInP
  have HJ := Lib.hid hj; have HJ0 := Lib.hid hj0; have HJ1 := Lib.hid hj1; have HJ2 := Lib.hid hj2
  clear hi hy0 hy1 hy2 hj hj0 hj1 hj2 hA hz2 hl
  go_enter Tryz.func16, Tryz.ntmps16
  go_wp2_with fail
  go_loopw [3, 4] (fun x i wr => ∃ (k : Nat) (v : Value), k ≤ n ∧ v = x ∧ i = .int .i64 k ∧ Hid (CpP w l k v wr)) (fun _ i _ => n - (intOf i).toNat)
  case atStart => exact ⟨0, _, by omega, rfl, rfl, Lib.hid ⟨⟨[], by simp, World.ownsRow_nil _ _ _ _, fun x hx => by cases hx⟩, Below.refl _ _⟩⟩
  case round =>
    obtain ⟨k, v, hk, rfl, rfl, H⟩ := hrel
    by_cases hlt : k < n
    · obtain ⟨b, o, rfl, hb, hat⟩ := HA.out (by omega)
      have hp := hat k hlt
      obtain ⟨hO, hB⟩ := H.out
      have hf8 := HZ.out k
      have htk : l.take (k + 1) = l.take k ++ [l.getD k paD] := by
        rw [List.take_add_one, List.getElem?_eq_getElem (by rw [HL.out]; exact hlt)]
        simp [List.getD, List.getElem?_eq_getElem (show k < l.length by rw [HL.out]; exact hlt)]
      have HTK := Lib.hid htk
      clear htk hat
      generalize l.getD k paD = p at *
      obtain ⟨lv, ct, fr, fi, co⟩ := p
      obtain ⟨A2, c2, q0, q1, q2, q3, q4, hsl, hnil⟩ := hp
      simp only at q0 q1 q2 q3 q4 hsl hf8
      have g := fun x => hB.cell (p := ⟨b, x, none⟩) hb
      rw [← g] at q0 q1 q2 q3 q4
      have hsl := hsl.below hB
      have hws := hB.size
      have HO := Lib.hid hO; have HB := Lib.hid hB
      have hmade : ((wr.alloc (.cells #[.int .i64 lv, .int .i64 ct, .slice A2 fr.length c2, .int .i64 fi, .int .i64 co] 70)).alloc (.cells #[] 3)).ownsRow w.heap.size 3 1 (.slice (some ⟨wr.heap.size + 1, 0, none⟩) 0 0) 0 [] := by
        have := World.ownsRow_made (wr.alloc (.cells #[.int .i64 lv, .int .i64 ct, .slice A2 fr.length c2, .int .i64 fi, .int .i64 co] 70)) (e := 3) (size := 1) #[] 0 (Nat.le_refl _) (Nat.zero_le _) rfl
        rw [show (wr.alloc (.cells #[.int .i64 lv, .int .i64 ct, .slice A2 fr.length c2, .int .i64 fi, .int .i64 co] 70)).heap.size = wr.heap.size + 1 by simp] at this
        exact own_floor this (fun x hx => by simp [Value.ownBlock] at hx; omega)
      have HM := Lib.hid hmade
      have HS := Lib.hid ((hsl.below ((Below.refl _ wr).alloc (Nat.le_refl _) (.cells #[.int .i64 lv, .int .i64 ct, .slice A2 fr.length c2, .int .i64 fi, .int .i64 co] 70))).below ((Below.refl _ (wr.alloc (.cells #[.int .i64 lv, .int .i64 ct, .slice A2 fr.length c2, .int .i64 fi, .int .i64 co] 70))).alloc (Nat.le_refl _) (.cells #[] 3)))
      have HN : Hid (∀ k c, Value.slice A2 fr.length c2 = .slice none k c → c = 0) := Lib.hid (by
        intro k c e; simp only [Value.slice.injEq] at e; rw [← e.2.2]; exact hnil e.1)
      have H1 := Lib.hid (ints_oneP fr)
      have hBlk := ((Blk.new wr 70 [.int .i64 lv, .int .i64 ct, .slice A2 fr.length c2, .int .i64 fi, .int .i64 co]).alloc (.cells #[] 3))
      have HBK := Lib.hid hBlk
      clear hmade hsl hnil hO hB g H hBlk
      go_wp2_with (at_builtin; refine wpList_append_sl rfl _ _ 44 rfl w.heap.size 3 j0 _ 1 8 Tryz.underlying44 HJ.out HJ0.out HJ1.out HJ2.out rfl (by decide) _ 0 [] rfl HM.out _ fr.length (ints fr) rfl HS.out HN.out H1.out (by unfold maxLen; omega) (by omega) (by simp; omega) ?_)
      intro v1 w1 ho hg
      rw [show (Value.slice (some ⟨wr.heap.size + 1, 0, none⟩) 0 0).ownBlock = some (wr.heap.size + 1) from rfl] at hg
      have hb1 := HBK.out.grown hg (by intro e; injection e with e; omega)
      have bW1 : Below wr.heap.size wr w1 := (((Below.refl _ wr).alloc (Nat.le_refl _) _).alloc (by simp) _).grown hg (by simp; omega) (fun x hx => by injection hx with hx; omega)
      have bW : Below wr.heap.size wr (w1.setCell ⟨wr.heap.size, 2, none⟩ v1) := bW1.setCell (p := ⟨wr.heap.size, 2, none⟩) (Nat.le_refl _) _
      have hne := own_apart_blk ho hb1 (by decide)
      have ho' : (w1.setCell ⟨wr.heap.size, 2, none⟩ v1).ownsRow w.heap.size 3 1 v1 fr.length (ints fr) :=
        own_stay ho (fun x hx => Below.heap_setCell w1 ⟨wr.heap.size, 2, none⟩ v1 x (by intro e; subst e; exact hne hx))
      have hb2 : Blk (w1.setCell ⟨wr.heap.size, 2, none⟩ v1) wr.heap.size 70 [.int .i64 lv, .int .i64 ct, v1, .int .i64 fi, .int .i64 co] := hb1.set 2 v1
      have hfz := hb1.frozen 2
      have c0 := hb2.cell 0
      have c1 := hb2.cell 1
      have c2' := hb2.cell 2
      have c3 := hb2.cell 3
      have c4 := hb2.cell 4
      have cx := hb1.cell 2
      simp only [List.getElem?_cons_zero, List.getElem?_cons_succ] at c0 c1 c2' c3 c4 cx
      obtain ⟨L, hL, hrow, hfs⟩ := HO.out.below bW
      have hLl : L.length = k := by
        have := congrArg List.length hL
        rw [List.length_map, List.length_take, HL.out] at this
        omega
      have HNW : Hid (∀ j u, (pac (⟨lv, ct, fr, fi, co⟩, v1))[j]? = some u → ((w1.setCell ⟨wr.heap.size, 2, none⟩ v1).alloc (.cells (pac (⟨lv, ct, fr, fi, co⟩, v1)).toArray 70)).cell? ((⟨w1.heap.size, 0, none⟩ : Addr).add j) = some u) := Lib.hid (by
        have := row_new (w1.setCell ⟨wr.heap.size, 2, none⟩ v1) (pac (⟨lv, ct, fr, fi, co⟩, v1)) 70
        rw [show (w1.setCell ⟨wr.heap.size, 2, none⟩ v1).heap.size = w1.heap.size by simp [World.setCell]] at this
        exact this)
      obtain ⟨A1, c1', rfl, _⟩ := own_nilcap ho
      have HLL := Lib.hid hLl
      have HO1 := Lib.hid ho'; have HROW := Lib.hid hrow; have HFS := Lib.hid hfs; have HLM := Lib.hid hL
      have BW := Lib.hid bW
      have hws1 := bW1.size
      have hws2 := bW.size
      clear ho ho' hrow hfs hL bW bW1 hb1 hb2 hne hg HBK HM HS HN H1 HO
      go_wp2_with (at_builtin; refine wpList_append_own _ rfl _ _ 22 rfl w.heap.size 70 i0 _ 5 56 Tryz.underlying22 HI.out HY0.out HY1.out HY2.out rfl (by decide) _ L.length (pcl L) rfl (HROW.out.alloc _) ⟨w1.heap.size, 0, none⟩ 1 1 (pac (⟨lv, ct, fr, fi, co⟩, .slice A1 fr.length c1')) rfl rfl (by exact HNW.out) ?h1 (by unfold maxLen; omega) (by omega) (by simp; omega) ?_)
      case h1 =>
        intro u hu
        simp only [pac, List.mem_cons, List.not_mem_nil, or_false] at hu
        rcases hu with rfl | rfl | rfl | rfl | rfl <;> rfl
      intro v2 w2 ho2 hg2 _
      have hB2 : Below w.heap.size w w2 := (((HB.out.trans (BW.out.mono hws)).alloc (by omega) _).grown hg2 (by simp; omega) (fun x hx => (HROW.out.lt x hx).1))
      have keep : ∀ (y : Value) (m : Nat) (ys : List Value), (w1.setCell ⟨wr.heap.size, 2, none⟩ (.slice A1 fr.length c1')).ownsRow w.heap.size 3 1 y m ys → w2.ownsRow w.heap.size 3 1 y m ys := fun y m ys hy =>
        own_stay hy (fun x hx => (hg2.block x (by have := (hy.lt x hx).2; rw [World.size_alloc]; omega) (fun e => own_types hy HROW.out (by decide) x hx e.symm)).trans (Below.heap_alloc _ _ x (hy.lt x hx).2))
      have hfin : PaO w2 w.heap.size v2 (l.take (k + 1)) := by
        refine ⟨L ++ [(⟨lv, ct, fr, fi, co⟩, .slice A1 fr.length c1')], ?_, ?_, fun x hx => ?_⟩
        · rw [List.map_append, HLM.out, HTK.out]; rfl
        · rw [pcl_append, pcl_one, List.length_append, HLL.out]; exact ho2
        · rcases List.mem_append.1 hx with hx | hx
          · exact keep _ _ _ (HFS.out x hx)
          · simp only [List.mem_cons, List.not_mem_nil, or_false] at hx
            subst hx
            exact keep _ _ _ HO1.out
      have HFIN := Lib.hid (show CpP w l (k + 1) v2 w2 from ⟨hfin, hB2⟩)
      clear hB2 keep hfin ho2 hg2
      go_wp2_with fail
      go_roundw
      case rel => exact ⟨k + 1, _, by omega, rfl, by go_num, HFIN⟩
      case measure => simp [intOf]; omega
    · obtain rfl : k = n := by omega
      go_wp2_with fail
      go_ret
      have h1 := H.out.1
      rw [show l.take k = l by rw [← HL.out, List.take_length]] at h1
      exact ⟨_, rfl, h1, H.out.2⟩
end Go.Proofs.YtkaalinoiilmoaaGreat
namespace Go.Proofs.YtkaalinoiilmoaaGreat
open Go.RowKit
set_option linter.unusedVariables false
set_option maxRecDepth 100000
structure Win where
  p : Int
  s : Int
  l : Int
  d : Int
instance : Inhabited Win := ⟨⟨0, 0, 0, 0⟩⟩
def wd4 (x : Win) : List Int := [x.p, x.s, x.l, x.d]
def wins (l : List Win) : List Int := l.flatMap wd4
theorem wins_nil : wins [] = [] := rfl
theorem wins_cons (x : Win) (l : List Win) : wins (x :: l) = x.p :: x.s :: x.l :: x.d :: wins l := by simp [wins, wd4]
theorem wins_len (l : List Win) : (wins l).length = l.length * 4 := by
  induction l with
  | nil => rfl
  | cons x l ih => rw [wins_cons]; simp only [List.length_cons, ih]; omega
theorem wins_get (l : List Win) : ∀ i (h : i < l.length), (wins l)[i * 4]? = some l[i].p ∧ (wins l)[i * 4 + 1]? = some l[i].s ∧ (wins l)[i * 4 + 2]? = some l[i].l ∧ (wins l)[i * 4 + 3]? = some l[i].d := by
  induction l with
  | nil => intro i h; simp at h
  | cons x l ih =>
    intro i h
    match i with
    | 0 => rw [wins_cons]; simp
    | i + 1 =>
      have := ih i (by simpa using h)
      rw [wins_cons, show (i + 1) * 4 = i * 4 + 4 by omega]
      simpa using this
theorem wins_take (l : List Win) : ∀ k, (wins l).take (k * 4) = wins (l.take k) := by
  induction l with
  | nil => intro k; simp [wins_nil]
  | cons x l ih =>
    intro k
    match k with
    | 0 => simp [wins_nil]
    | k + 1 => rw [List.take_succ_cons, wins_cons, wins_cons, show (k + 1) * 4 = k * 4 + 4 by omega]; simp [ih]
theorem wins_of (n : Nat) : ∀ zs : List Int, zs.length = n * 4 → ∃ l : List Win, zs = wins l ∧ l.length = n := by
  induction n with
  | zero => intro zs h; exact ⟨[], List.length_eq_zero_iff.1 (by simpa using h), rfl⟩
  | succ n ih =>
    intro zs h
    match zs, h with
    | a :: b :: c :: d :: zs, h =>
      obtain ⟨l, rfl, hl⟩ := ih zs (by simp at h; omega)
      exact ⟨⟨a, b, c, d⟩ :: l, by rw [wins_cons], by simp [hl]⟩
    | [], h => simp at h
    | [_], h => simp at h; omega
    | [_, _], h => simp at h; omega
    | [_, _, _], h => simp at h; omega
def W64 (x : Win) : Prop := (-9223372036854775808 ≤ x.p ∧ x.p ≤ 9223372036854775807) ∧ (-9223372036854775808 ≤ x.s ∧ x.s ≤ 9223372036854775807) ∧ (-9223372036854775808 ≤ x.l ∧ x.l ≤ 9223372036854775807) ∧ (-9223372036854775808 ≤ x.d ∧ x.d ≤ 9223372036854775807)
theorem w64_of (l : List Win) (h : ∀ z ∈ wins l, -9223372036854775808 ≤ z ∧ z ≤ 9223372036854775807) : ∀ x ∈ l, W64 x := by
  intro x hx
  have : ∀ z ∈ wd4 x, z ∈ wins l := fun z hz => List.mem_flatMap.2 ⟨x, hx, hz⟩
  exact ⟨h _ (this _ (by simp [wd4])), h _ (this _ (by simp [wd4])), h _ (this _ (by simp [wd4])), h _ (this _ (by simp [wd4]))⟩
theorem wd_at {w : World} {A : Option Addr} {n c : Nat} {l : List Win} (h : Sl w (.slice A n c) n 4 (ints (wins l))) (hl : l.length = n) (k : Nat) (hk : k < l.length) :
    ∃ b o, A = some ⟨b, o, none⟩ ∧ b < w.heap.size ∧ w.cell? ⟨b, o + k * 4, none⟩ = some (.int .i64 l[k].p) ∧ w.cell? ⟨b, o + k * 4 + 1, none⟩ = some (.int .i64 l[k].s) ∧ w.cell? ⟨b, o + k * 4 + 2, none⟩ = some (.int .i64 l[k].l) ∧ w.cell? ⟨b, o + k * 4 + 3, none⟩ = some (.int .i64 l[k].d) := by
  obtain ⟨A', c', e, _, hxl, hA⟩ := h
  simp only [Value.slice.injEq] at e
  obtain ⟨rfl, _, rfl⟩ := e
  obtain ⟨b, o, rfl, hb, hc⟩ := hA (by omega)
  have hg := wins_get l k hk
  have key : ∀ j x, (wins l)[k * 4 + j]? = some x → w.cell? ⟨b, o + k * 4 + j, none⟩ = some (.int .i64 x) := by
    intro j x hx
    have := hc (k * 4 + j) (.int .i64 x) (by simp [ints, hx])
    rw [← Nat.add_assoc] at this
    exact this
  exact ⟨b, o, rfl, hb, key 0 _ hg.1, key 1 _ hg.2.1, key 2 _ hg.2.2.1, key 3 _ hg.2.2.2⟩
theorem Sl.pre {w : World} {A : Option Addr} {n c k : Nat} {l : List Win} (h : Sl w (.slice A n c) n 4 (ints (wins l))) (hl : l.length = n) (hk : k ≤ n) : Sl w (.slice A k c) k 4 (ints (wins (l.take k))) := by
  obtain ⟨A', c', e, hc, hxl, hA⟩ := h
  simp only [Value.slice.injEq] at e
  obtain ⟨rfl, _, rfl⟩ := e
  refine ⟨A, c, rfl, by omega, by rw [ints_len, wins_len, List.length_take]; omega, fun h0 => ?_⟩
  obtain ⟨b, o, rfl, hb, hcell⟩ := hA (by omega)
  refine ⟨b, o, rfl, hb, fun j u hu => hcell j u ?_⟩
  rw [← wins_take] at hu
  simp only [ints, List.map_take] at hu
  rw [List.getElem?_take] at hu
  split at hu
  · exact hu
  · cases hu
def fitW (x : Win) (m p : Int) : Bool := decide (0 ≤ x.p ∧ x.p < p ∧ 0 ≤ x.s ∧ 1 ≤ x.l ∧ x.s + x.l ≤ m ∧ x.s ≤ x.d ∧ x.d < x.s + x.l)
def metB (x o : Win) : Bool := decide (x.s < o.s + o.l ∧ o.s < x.s + x.l)
def okB (l : List Win) (m p : Int) (k : Nat) : Bool := match l[k]? with
  | some x => fitW x m p && !(l.take k).any (metB x)
  | none => false
def headB (n : Nat) (m p : Int) : Bool := decide (1 ≤ m ∧ m ≤ 64 ∧ 1 ≤ p ∧ p ≤ 4 ∧ 1 ≤ n ∧ n ≤ 8)
def mayW (l : List Win) (m p : Int) : Bool := headB l.length m p && (List.range l.length).all (okB l m p)
theorem mayW_head {l : List Win} {m p : Int} (h : headB l.length m p = false) : mayW l m p = false := by unfold mayW; rw [h]; rfl
theorem mayW_no {l : List Win} {m p : Int} {k : Nat} (hk : k < l.length) (h : okB l m p k = false) : mayW l m p = false := by
  unfold mayW
  rw [Bool.and_eq_false_iff]
  right
  rw [List.all_eq_false]
  exact ⟨k, by simpa using hk, by simp [h]⟩
theorem mayW_yes {l : List Win} {m p : Int} (hh : headB l.length m p = true) (h : ∀ k, k < l.length → okB l m p k = true) : mayW l m p = true := by
  unfold mayW
  rw [hh, Bool.true_and, List.all_eq_true]
  intro k hk
  exact h k (by simpa using hk)
theorem ok_no_fit {l : List Win} {m p : Int} {k : Nat} (hk : k < l.length) (h : fitW l[k] m p = false) : okB l m p k = false := by
  unfold okB; rw [List.getElem?_eq_getElem hk]; simp [h]
theorem ok_meets {l : List Win} {m p : Int} {k : Nat} (hk : k < l.length) (h : (l.take k).any (metB l[k]) = true) : okB l m p k = false := by
  unfold okB; rw [List.getElem?_eq_getElem hk]; simp only [h]; simp
theorem ok_yes {l : List Win} {m p : Int} {k : Nat} (hk : k < l.length) (h : fitW l[k] m p = true) (h' : (l.take k).any (metB l[k]) = false) : okB l m p k = true := by
  unfold okB; rw [List.getElem?_eq_getElem hk]; simp only [h, h']; rfl
theorem ok_fit {l : List Win} {m p : Int} {k : Nat} (hk : k < l.length) (h : okB l m p k = true) : fitW l[k] m p = true := by
  unfold okB at h; rw [List.getElem?_eq_getElem hk] at h; simp at h; exact h.1
theorem fit_parts (x : Win) (m p : Int) : fitW x m p = true ∧ 0 ≤ x.p ∧ x.p < p ∧ 0 ≤ x.s ∧ 1 ≤ x.l ∧ x.l ≤ m - x.s ∧ x.s ≤ x.d ∧ x.d - x.s < x.l ∨
    fitW x m p = false ∧ (x.p < 0 ∨ 0 ≤ x.p ∧ p ≤ x.p ∨ 0 ≤ x.p ∧ x.p < p ∧ x.s < 0 ∨ 0 ≤ x.p ∧ x.p < p ∧ 0 ≤ x.s ∧ x.l < 1 ∨ 0 ≤ x.p ∧ x.p < p ∧ 0 ≤ x.s ∧ 1 ≤ x.l ∧ m - x.s < x.l ∨ 0 ≤ x.p ∧ x.p < p ∧ 0 ≤ x.s ∧ 1 ≤ x.l ∧ x.l ≤ m - x.s ∧ x.d < x.s ∨ 0 ≤ x.p ∧ x.p < p ∧ 0 ≤ x.s ∧ 1 ≤ x.l ∧ x.l ≤ m - x.s ∧ x.s ≤ x.d ∧ x.l ≤ x.d - x.s) := by
  by_cases h : 0 ≤ x.p ∧ x.p < p ∧ 0 ≤ x.s ∧ 1 ≤ x.l ∧ x.s + x.l ≤ m ∧ x.s ≤ x.d ∧ x.d < x.s + x.l
  · exact .inl ⟨decide_eq_true h, by omega⟩
  · refine .inr ⟨decide_eq_false h, ?_⟩
    omega
theorem fit_of {x : Win} {m p : Int} (h : fitW x m p = true) : 0 ≤ x.p ∧ x.p < p ∧ 0 ≤ x.s ∧ 1 ≤ x.l ∧ x.s + x.l ≤ m ∧ x.s ≤ x.d ∧ x.d < x.s + x.l := of_decide_eq_true h
def used (l : List Win) (j : Nat) : Bool := l.any fun x => decide (x.s ≤ j ∧ (j : Int) < x.s + x.l)
theorem used_meets {l : List Win} {x : Win} {j : Nat} (h : used l j = true) (h1 : x.s ≤ j) (h2 : (j : Int) < x.s + x.l) : l.any (metB x) = true := by
  unfold used at h
  rw [List.any_eq_true] at h ⊢
  obtain ⟨y, hy, hd⟩ := h
  have := of_decide_eq_true hd
  exact ⟨y, hy, decide_eq_true (by omega)⟩
theorem meets_used {l : List Win} {x : Win} (h0 : 0 ≤ x.s) (hx : 1 ≤ x.l) (hl : ∀ y ∈ l, 0 ≤ y.s ∧ 1 ≤ y.l) (h : ∀ j : Nat, x.s ≤ j → (j : Int) < x.s + x.l → used l j = false) : l.any (metB x) = false := by
  rw [List.any_eq_false]
  intro y hy hm
  have := of_decide_eq_true hm
  have hy' := hl y hy
  have key := h (max x.s y.s).toNat (by omega) (by omega)
  unfold used at key
  rw [List.any_eq_false] at key
  exact key y hy (by simp only [decide_eq_true_eq]; omega)
theorem used_snoc (l : List Win) (x : Win) (j : Nat) : used (l ++ [x]) j = (used l j || decide (x.s ≤ j ∧ (j : Int) < x.s + x.l)) := by
  unfold used; simp
end Go.Proofs.YtkaalinoiilmoaaGreat
namespace Go.Proofs.YtkaalinoiilmoaaGreat
open Go.RowKit
set_option linter.unusedVariables false
set_option maxRecDepth 100000
theorem num_any (n : Int) (w : World) :
    Calls Tryz.prog 9 #[.int .i64 n] w fun e w' => e = .returned (.int .i64 n) ∧ w = w' := by
  go_enter Tryz.func9, Tryz.ntmps9
  go_wp2
  go_ret
  exact ⟨rfl, rfl⟩
end Go.Proofs.YtkaalinoiilmoaaGreat
namespace Go.Proofs.YtkaalinoiilmoaaGreat
open Go.RowKit
set_option linter.unusedVariables false
set_option maxRecDepth 100000
theorem four_at {w : World} {g : Nat} {t : TypeId} {x y z u : Value} (h : Blk w g t [x, y, z, u]) : w.cell? ⟨g, 0, none⟩ = some x ∧ w.cell? ⟨g, 1, none⟩ = some y ∧ w.cell? ⟨g, 2, none⟩ = some z ∧ w.cell? ⟨g, 3, none⟩ = some u :=
  ⟨h.cell 0, h.cell 1, h.cell 2, h.cell 3⟩
def wdv (x : Win) : List Value := [.int .i64 x.p, .int .i64 x.s, .int .i64 x.l, .int .i64 x.d]
set_option maxHeartbeats 1000000 in
theorem fits_any (x : Win) (m p : Int) (hx : W64 x) (hm : 1 ≤ m ∧ m ≤ 64) (w : World) :
    Calls Tryz.prog 100 #[.agg #[.int .i64 x.p, .int .i64 x.s, .int .i64 x.l, .int .i64 x.d], .int .i64 m, .int .i64 p] w fun e w' => e = .returned (.bool (fitW x m p)) ∧ Below w.heap.size w w' := by
  obtain ⟨⟨p0, p1⟩, ⟨s0, s1⟩, ⟨l0, l1⟩, ⟨d0, d1⟩⟩ := hx
  obtain ⟨m0, m1⟩ := hm
  have hp := fit_parts x m p
  generalize fitW x m p = R at hp ⊢
  obtain ⟨xp, xs, xl, xd⟩ := x
  simp only at *
  rcases hp with ⟨rfl, h0, h1, h2, h3, h4, h5, h6⟩ | ⟨rfl, h0 | ⟨h0, h1⟩ | ⟨h0, h1, h2⟩ | ⟨h0, h1, h2, h3⟩ | ⟨h0, h1, h2, h3, h4⟩ | ⟨h0, h1, h2, h3, h4, h5⟩ | ⟨h0, h1, h2, h3, h4, h5, h6⟩⟩
  all_goals
    first
    | have hlast : decide (xd - xs < xl) = true := decide_eq_true (by omega)
    | have hlast : decide (xd - xs < xl) = false := decide_eq_false (by omega)
    | skip
  all_goals
    go_enter Tryz.func100, Tryz.ntmps100
    go_wp2
    go_ret
    exact ⟨rfl, (Below.refl _ _).alloc (Nat.le_refl _) _⟩
def fM (a : Nat) : Value := .func (.func 113) #[] #[.pointer (some ⟨a, 0, none⟩)]
set_option maxHeartbeats 1000000 in
theorem meets1_any (a : Nat) (x o : Win) (w : World) (ha : Blk w a 82 (wdv x)) (hx : 0 ≤ x.s ∧ x.s ≤ 64 ∧ 0 ≤ x.l ∧ x.l ≤ 64) (ho : 0 ≤ o.s ∧ o.s ≤ 64 ∧ 0 ≤ o.l ∧ o.l ≤ 64) :
    Calls Tryz.prog 113 #[.agg #[.int .i64 o.p, .int .i64 o.s, .int .i64 o.l, .int .i64 o.d], .pointer (some ⟨a, 0, none⟩)] w fun e w' => e = .returned (.bool (metB x o)) ∧ Below w.heap.size w w' := by
  have hlt := ha.lt
  obtain ⟨c0, c1, c2, c3⟩ := four_at ha
  obtain ⟨x0, x1, x2, x3⟩ := hx
  obtain ⟨o0, o1, o2, o3⟩ := ho
  have hR : metB x o = decide (x.s < o.s + o.l ∧ o.s < x.s + x.l) := rfl
  generalize metB x o = R at hR ⊢
  obtain ⟨xp, xs, xl, xd⟩ := x
  obtain ⟨op, os, ol, od⟩ := o
  simp only at *
  clear ha
  by_cases h1 : xs < os + ol
  · by_cases h2 : os < xs + xl
    · have hR' : R = true := by rw [hR]; exact decide_eq_true ⟨h1, h2⟩
      subst hR'; clear hR
      have hlast : decide (os < xs + xl) = true := decide_eq_true h2
      go_enter Tryz.func113, Tryz.ntmps113
      go_wp2
      go_ret
      exact ⟨rfl, (Below.refl _ _).alloc (Nat.le_refl _) _⟩
    · have hR' : R = false := by rw [hR]; exact decide_eq_false (fun h => h2 h.2)
      subst hR'; clear hR
      have hlast : decide (os < xs + xl) = false := decide_eq_false h2
      go_enter Tryz.func113, Tryz.ntmps113
      go_wp2
      go_ret
      exact ⟨rfl, (Below.refl _ _).alloc (Nat.le_refl _) _⟩
  · have hR' : R = false := by rw [hR]; exact decide_eq_false (fun h => h1 h.1)
    subst hR'; clear hR
    go_enter Tryz.func113, Tryz.ntmps113
    go_wp2
    go_ret
    exact ⟨rfl, (Below.refl _ _).alloc (Nat.le_refl _) _⟩
def idxW (f : Win → Bool) (l : List Win) : Int := match l.findIdx? f with
  | some i => i
  | none => -1
theorem idxW_found (f : Win → Bool) (l : List Win) (k : Nat) (hk : k < l.length) (h : f l[k] = true) (hall : ∀ j (hj : j < k) (hj' : j < l.length), f l[j] = false) : idxW f l = k ∧ l.any f = true := by
  refine ⟨?_, List.any_eq_true.2 ⟨_, List.getElem_mem hk, h⟩⟩
  unfold idxW
  rw [List.findIdx?_eq_some_iff_getElem.2 ⟨hk, h, fun j hj => by simp [hall j hj (by omega)]⟩]
theorem idxW_none (f : Win → Bool) (l : List Win) (hall : ∀ j (hj : j < l.length), f l[j] = false) : idxW f l = -1 ∧ l.any f = false := by
  have h : ∀ x ∈ l, f x = false := fun x hx => by obtain ⟨j, hj, rfl⟩ := List.getElem_of_mem hx; exact hall j hj
  refine ⟨?_, List.any_eq_false.2 (fun x hx => by simp [h x hx])⟩
  unfold idxW
  rw [List.findIdx?_eq_none_iff.2 (fun x hx => by simp [h x hx])]
theorem idxW_any (f : Win → Bool) (l : List Win) : -1 ≤ idxW f l ∧ (l.any f = true ∧ 0 ≤ idxW f l ∨ l.any f = false ∧ idxW f l < 0) := by
  cases h : l.findIdx? f with
  | some i =>
    obtain ⟨hi, hf, _⟩ := List.findIdx?_eq_some_iff_getElem.1 h
    have : idxW f l = i := by unfold idxW; rw [h]
    exact ⟨by omega, .inl ⟨List.any_eq_true.2 ⟨_, List.getElem_mem hi, hf⟩, by omega⟩⟩
  | none =>
    have : idxW f l = -1 := by unfold idxW; rw [h]
    rw [List.findIdx?_eq_none_iff] at h
    exact ⟨by omega, .inr ⟨List.any_eq_false.2 (fun x hx => by simp [h x hx]), by omega⟩⟩
set_option maxHeartbeats 1000000 in
theorem wifn_any (A : Option Addr) (n cap : Nat) (l : List Win) (a : Nat) (x : Win) (w : World) (hs : Sl w (.slice A n cap) n 4 (ints (wins l))) (hn : n ≤ maxLen) (hl : l.length = n) (ha : Blk w a 82 (wdv x))
    (hx : 0 ≤ x.s ∧ x.s ≤ 64 ∧ 0 ≤ x.l ∧ x.l ≤ 64) (ho : ∀ o ∈ l, 0 ≤ o.s ∧ o.s ≤ 64 ∧ 0 ≤ o.l ∧ o.l ≤ 64) :
    Calls Tryz.prog 102 #[.slice A n cap, fM a] w fun e w' => e = .returned (.int .i64 (idxW (metB x) l)) ∧ Below w.heap.size w w' := by
  have HS := Lib.hid hs; have HL := Lib.hid hl; have HA := Lib.hid ha; have HX := Lib.hid hx; have HO := Lib.hid ho
  unfold maxLen at hn
  clear hs hl ha hx ho
  unfold fM
  go_enter Tryz.func102, Tryz.ntmps102
  go_wp2_with fail
  go_loopw [8] (fun i wr => ∃ (k : Nat), k ≤ n ∧ i = .int .i64 k ∧ (∀ j (hj : j < k) (hj' : j < l.length), metB x l[j] = false) ∧ Below w.heap.size w wr) (fun i _ => n - (intOf i).toNat)
  case atStart => exact ⟨0, by omega, rfl, fun j hj => by omega, Below.refl _ _⟩
  case round =>
    obtain ⟨k, hk, rfl, hall, hbel⟩ := hrel
    have hsz := hbel.size
    have HALL := Lib.hid hall; clear hall
    by_cases hlt : k < n
    · have hkl : k < l.length := by rw [HL.out]; exact hlt
      obtain ⟨b, o, rfl, hb, c0, c1, c2, c3⟩ := wd_at (HS.out.below hbel) HL.out k hkl
      have hoy := HO.out l[k] (List.getElem_mem hkl)
      have HOY := Lib.hid hoy; clear hoy
      generalize hy : l[k] = y at *
      have HY := Lib.hid hy; clear hy
      go_wp2_with fail
      refine (meets1_any _ x y _ (HA.out.below hbel HA.out.lt) HX.out HOY.out).mono ?_
      rintro e w1 ⟨rfl, b1⟩
      have bel1 := Below.down hbel b1 hsz
      clear c0 c1 c2 c3 b1 hbel
      cases hf : metB x y with
      | true =>
        have HF := Lib.hid hf; clear hf
        go_wp2_with fail
        go_ret
        exact ⟨by rw [(idxW_found _ l k hkl (by rw [HY.out]; exact HF.out) (fun j hj => HALL.out j hj)).1]; rfl, bel1⟩
      | false =>
        have HF := Lib.hid hf; clear hf
        go_wp2_with fail
        go_roundw
        case rel => exact ⟨k + 1, by omega, by go_num, fun j hj hj' => by
          by_cases e : j = k
          · subst e; rw [HY.out]; exact HF.out
          · exact HALL.out j (by omega) hj', bel1⟩
        case measure => simp [intOf]; omega
    · go_wp2_with fail
      go_ret
      exact ⟨by rw [(idxW_none _ l (fun j hj => HALL.out j (by have := HL.out; omega) hj)).1]; rfl, hbel⟩
theorem wcfn_any (A : Option Addr) (n cap : Nat) (l : List Win) (a : Nat) (x : Win) (w : World) (hs : Sl w (.slice A n cap) n 4 (ints (wins l))) (hn : n ≤ maxLen) (hl : l.length = n) (ha : Blk w a 82 (wdv x))
    (hx : 0 ≤ x.s ∧ x.s ≤ 64 ∧ 0 ≤ x.l ∧ x.l ≤ 64) (ho : ∀ o ∈ l, 0 ≤ o.s ∧ o.s ≤ 64 ∧ 0 ≤ o.l ∧ o.l ≤ 64) :
    Calls Tryz.prog 85 #[.slice A n cap, fM a] w fun e w' => e = .returned (.bool (l.any (metB x))) ∧ Below w.heap.size w w' := by
  have hI := idxW_any (metB x) l
  have HC := Lib.hid (fun (w : World) (h : Sl w (.slice A n cap) n 4 (ints (wins l))) (h2 : Blk w a 82 (wdv x)) => wifn_any A n cap l a x w h hn hl h2 hx ho)
  have HS := Lib.hid hs; have HA := Lib.hid ha
  unfold fM at *
  generalize idxW (metB x) l = I at *
  generalize l.any (metB x) = R at *
  obtain ⟨i0, hI⟩ := hI
  clear hs ha hx ho hl
  rcases hI with ⟨rfl, hI⟩ | ⟨rfl, hI⟩
  all_goals
    go_enter Tryz.func85, Tryz.ntmps85
    go_wp2_with fail
    refine (HC.out _ HS.out HA.out).mono ?_
    rintro e w1 ⟨rfl, b1⟩
    first
    | have hlast : decide (I ≥ 0) = true := decide_eq_true (by omega)
    | have hlast : decide (I ≥ 0) = false := decide_eq_false (by omega)
    go_wp2_with fail
    go_ret
    exact ⟨rfl, b1⟩
theorem pmeets_any (A : Option Addr) (n cap : Nat) (l : List Win) (x : Win) (w : World) (hs : Sl w (.slice A n cap) n 4 (ints (wins l))) (hn : n ≤ maxLen) (hl : l.length = n)
    (hx : 0 ≤ x.s ∧ x.s ≤ 64 ∧ 0 ≤ x.l ∧ x.l ≤ 64) (ho : ∀ o ∈ l, 0 ≤ o.s ∧ o.s ≤ 64 ∧ 0 ≤ o.l ∧ o.l ≤ 64) :
    Calls Tryz.prog 101 #[.agg #[.int .i64 x.p, .int .i64 x.s, .int .i64 x.l, .int .i64 x.d], .slice A n cap] w fun e w' => e = .returned (.bool (l.any (metB x))) ∧ Below w.heap.size w w' := by
  have hb : Blk (w.alloc (.cells (wdv x).toArray 82)) w.heap.size 82 (wdv x) := Blk.new _ _ _
  have hA : Below w.heap.size w (w.alloc (.cells (wdv x).toArray 82)) := (Below.refl _ _).alloc (Nat.le_refl _) _
  have HC := Lib.hid (wcfn_any A n cap l w.heap.size x _ (hs.below hA) hn hl hb hx ho)
  have HA := Lib.hid hA
  clear hs hb hA hx ho hl
  go_enter Tryz.func101, Tryz.ntmps101
  go_wp2_with fail
  refine HC.out.mono ?_
  rintro e w1 ⟨rfl, b1⟩
  go_wp2_with fail
  go_ret
  exact ⟨rfl, Below.down HA.out b1 HA.out.size⟩
end Go.Proofs.YtkaalinoiilmoaaGreat
