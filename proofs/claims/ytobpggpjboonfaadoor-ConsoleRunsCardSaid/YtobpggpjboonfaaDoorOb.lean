/-
  Things in the heap, each with the blocks that are its own, side by side; what a call on one of them leaves of the others. No Go here.
-/
import Derived.Test.YtobpggpjboonfaaDoorFo
namespace Go.Proofs.YtobpggpjboonfaaDoor
open Go.RowKit
set_option linter.unusedVariables false
set_option maxRecDepth 100000

/-- A thing in the heap: what holds of it where the blocks S are its own; it stays where those stay. -/
structure Ob where
  Q : (Nat → Prop) → World → Prop
  stay : ∀ {S : Nat → Prop} {w w' : World}, Q S w → (∀ b, b < w.heap.size → S b → w'.heap[b]? = w.heap[b]?) → w.heap.size ≤ w'.heap.size → Q S w'
  lt : ∀ {S : Nat → Prop} {w : World} {b : Nat}, Q S w → S b → b < w.heap.size

/-- No thing. -/
def obE : Ob := ⟨fun S _ => ∀ b, ¬ S b, fun h _ _ => h, fun h hb => absurd hb (h _)⟩
/-- Two things apart from one another. -/
def obA (a b : Ob) : Ob :=
  ⟨fun S w => ∃ S1 S2, a.Q S1 w ∧ b.Q S2 w ∧ (∀ k, S1 k → S2 k → False) ∧ ∀ k, S k ↔ (S1 k ∨ S2 k),
   fun ⟨S1, S2, h1, h2, d, e⟩ hk hs => ⟨S1, S2, a.stay h1 (fun k hk' hS => hk k hk' ((e k).2 (.inl hS))) hs, b.stay h2 (fun k hk' hS => hk k hk' ((e k).2 (.inr hS))) hs, d, e⟩,
   fun ⟨S1, S2, h1, h2, d, e⟩ hb => ((e _).1 hb).elim (a.lt h1) (b.lt h2)⟩
/-- Several. -/
def obs : List Ob → Ob
  | [] => obE
  | a :: l => obA a (obs l)
/-- One of a family. -/
def obX {α : Type} (f : α → Ob) : Ob :=
  ⟨fun S w => ∃ x, (f x).Q S w, fun ⟨x, h⟩ hk hs => ⟨x, (f x).stay h hk hs⟩, fun ⟨x, h⟩ hb => (f x).lt h hb⟩
/-- .. of which besides holds p. -/
def obP (p : Prop) (a : Ob) : Ob :=
  ⟨fun S w => p ∧ a.Q S w, fun ⟨h, q⟩ hk hs => ⟨h, a.stay q hk hs⟩, fun ⟨h, q⟩ hb => a.lt q hb⟩
/-- A block that is known whole. -/
def obB (g : Nat) (T : TypeId) (cs : List Value) : Ob :=
  ⟨fun S w => Blk w g T cs ∧ ∀ b, S b ↔ b = g, fun ⟨h, e⟩ hk hs => ⟨(hk g h.lt ((e g).2 rfl)).trans h, e⟩, fun ⟨h, e⟩ hb => ((e _).1 hb) ▸ h.lt⟩
theorem own_stay {w w' : World} {B n size : Nat} {e : TypeId} {v : Value} {xs : List Value} (h : w.ownsRow B e size v n xs) (hk : ∀ b, v.ownBlock = some b → w'.heap[b]? = w.heap[b]?) : w'.ownsRow B e size v n xs := by
  refine ⟨h.1, ?_⟩
  rcases h.2 with h2 | ⟨g, cap, cur, hv, hb, hg, h3⟩
  · exact .inl h2
  · exact .inr ⟨g, cap, cur, hv, hb, (hk g (by rw [hv]; rfl)).trans hg, h3⟩
theorem own_floor {w : World} {B B' size n : Nat} {e : TypeId} {v : Value} {xs : List Value} (h : w.ownsRow B e size v n xs) (hB : ∀ b, v.ownBlock = some b → B' ≤ b) : w.ownsRow B' e size v n xs :=
  ⟨h.1, h.2.imp id (fun ⟨a1, a2, a3, a4, a5, a6⟩ => ⟨a1, a2, a3, a4, hB a1 (by rw [a4]; rfl), a6⟩)⟩
/-- A slice whose memory is its own. -/
def obR (e : TypeId) (size : Nat) (v : Value) (n : Nat) (xs : List Value) : Ob :=
  ⟨fun S w => w.ownsRow 0 e size v n xs ∧ ∀ b, S b ↔ v.ownBlock = some b, fun ⟨h, q⟩ hk hs => ⟨own_stay h (fun b hb => hk b (h.lt b hb).2 ((q b).2 hb)), q⟩, fun ⟨h, q⟩ hb => (h.lt _ ((q _).1 hb)).2⟩

/-- From here: obs of a list is that of any list with the same things. -/
theorem obs_swap {a b : Ob} {l : List Ob} {S : Nat → Prop} {w : World} (h : (obs (a :: b :: l)).Q S w) : (obs (b :: a :: l)).Q S w := by
  obtain ⟨S1, S2, h1, ⟨S3, S4, h3, h4, d2, e2⟩, d, e⟩ := h
  refine ⟨S3, fun k => S1 k ∨ S4 k, h3, ⟨S1, S4, h1, h4, fun k k1 k4 => d k k1 ((e2 k).2 (.inr k4)), fun _ => Iff.rfl⟩, fun k k3 k14 => ?_, fun k => ?_⟩
  · rcases k14 with k1 | k4
    · exact d k k1 ((e2 k).2 (.inl k3))
    · exact d2 k k3 k4
  · rw [e, e2]
    constructor
    · rintro (h | h | h) <;> simp [h]
    · rintro (h | h | h) <;> simp [h]
theorem obs_perm {l m : List Ob} (p : l.Perm m) : ∀ {S : Nat → Prop} {w : World}, (obs l).Q S w → (obs m).Q S w := by
  induction p with
  | nil => exact fun h => h
  | cons a p ih => intro S w ⟨S1, S2, h1, h2, d, e⟩; exact ⟨S1, S2, h1, ih h2, d, e⟩
  | swap a b l => exact fun h => obs_swap h
  | trans _ _ i1 i2 => exact fun h => i2 (i1 h)
theorem obs_append {l m : List Ob} : ∀ {S : Nat → Prop} {w : World}, (obs (l ++ m)).Q S w ↔ (obA (obs l) (obs m)).Q S w := by
  induction l with
  | nil =>
    intro S w
    constructor
    · exact fun h => ⟨fun _ => False, S, fun _ => id, h, fun _ h => h.elim, fun k => by simp⟩
    · rintro ⟨S1, S2, h1, h2, d, e⟩
      have : S = S2 := by funext k; have := e k; have h9 := h1 k; simp [h9] at this; exact propext this
      rw [this]; exact h2
  | cons a l ih =>
    intro S w
    constructor
    · rintro ⟨S1, S2, h1, h2, d, e⟩
      obtain ⟨S3, S4, h3, h4, d2, e2⟩ := ih.1 h2
      exact ⟨fun k => S1 k ∨ S3 k, S4, ⟨S1, S3, h1, h3, fun k a1 a3 => d k a1 ((e2 k).2 (.inl a3)), fun _ => Iff.rfl⟩, h4, fun k a13 a4 => a13.elim (fun a1 => d k a1 ((e2 k).2 (.inr a4))) (fun a3 => d2 k a3 a4), fun k => by rw [e, e2, or_assoc]⟩
    · rintro ⟨S12, S3, ⟨S1, S2, h1, h2, d, e⟩, h3, d2, e2⟩
      exact ⟨S1, fun k => S2 k ∨ S3 k, h1, ih.2 ⟨S2, S3, h2, h3, fun k a b => d2 k ((e k).2 (.inr a)) b, fun _ => Iff.rfl⟩, fun k a bc => bc.elim (d k a) (fun c => d2 k ((e k).2 (.inl a)) c), fun k => by rw [e2, e, or_assoc]⟩
theorem set_perm (e : Ob) : ∀ (l : List Ob) (i : Nat), i < l.length → (e :: l.eraseIdx i).Perm (l.set i e)
  | a :: l, 0, _ => .refl _
  | a :: l, i + 1, h => .trans (.swap a e _) (.cons a (set_perm e l i (by simpa using h)))
theorem get_perm {d : Ob} : ∀ {l : List Ob} {i : Nat}, l[i]? = some d → l.Perm (d :: l.eraseIdx i)
  | a :: l, 0, h => by simp at h; subst h; exact .refl _
  | a :: l, i + 1, h => .trans (.cons a (get_perm (by simpa using h))) (.swap d a _)
theorem obs_one {a : Ob} {S : Nat → Prop} {w : World} : (obs [a]).Q S w ↔ a.Q S w := by
  constructor
  · rintro ⟨S1, S2, h1, h2, d, e⟩
    have : S = S1 := by funext k; have := e k; have h9 := h2 k; simp [h9] at this; exact propext this
    rw [this]; exact h1
  · exact fun h => ⟨S, fun _ => False, h, fun _ => id, fun _ _ h => h, fun k => by simp⟩

/-- Since W0, where only blocks of S and new ones may have turned: the things os, whose blocks are of S or new. -/
def Tk (S : Nat → Prop) (W0 : World) (os : List Ob) (w : World) : Prop :=
  ∃ S', (obs os).Q S' w ∧ (∀ k, k < W0.heap.size → S' k → S k) ∧ Fo S W0 w
/-- No block. -/
def nos : Nat → Prop := fun _ => False

section
variable {S : Nat → Prop} {W0 w w' : World} {os ps : List Ob} {a b d e : Ob} {i : Nat}
theorem Tk.start (h : (obs os).Q S w) : Tk S w os w := ⟨S, h, fun _ _ h => h, Fo.refl _ _⟩
theorem Tk.start1 (h : a.Q S w) : Tk S w [a] w := Tk.start (obs_one.2 h)
theorem Tk.empty (w : World) : Tk nos w [] w := ⟨nos, fun _ => id, fun _ _ h => h, Fo.refl _ _⟩
theorem Tk.size (h : Tk S W0 os w) : W0.heap.size ≤ w.heap.size := by obtain ⟨_, _, _, f⟩ := h; exact f.size
theorem Tk.fo (h : Tk S W0 os w) : Fo S W0 w := by obtain ⟨_, _, _, f⟩ := h; exact f
theorem Tk.below (h : Tk nos W0 os w) : Below W0.heap.size W0 w := by obtain ⟨_, _, _, f⟩ := h; exact ⟨f.os, f.tape, f.output, f.size, fun k hk => f.block k hk id⟩
theorem Tk.next (h : Tk S W0 os w) (hb : Below w.heap.size w w') : Tk S W0 os w' := by
  obtain ⟨S', q, l, f⟩ := h
  exact ⟨S', (obs os).stay q (fun b hb' _ => hb.block b hb') hb.size, l, f.trans (Fo.of hb S)⟩
theorem Tk.drewN (h : Tk S W0 os w) (n : Nat) : Tk S W0 os (w.drewN n) := h.next (bdrewN (Below.refl _ _) n)
theorem Tk.mono {S2 : Nat → Prop} (h : Tk S W0 os w) (hS : ∀ k, k < W0.heap.size → S k → S2 k) : Tk S2 W0 os w := by
  obtain ⟨S', q, l, f⟩ := h
  exact ⟨S', q, fun k hk h => hS k hk (l k hk h), f.mono hS⟩
theorem Tk.perm (h : Tk S W0 os w) (p : os.Perm ps) : Tk S W0 ps w := by obtain ⟨S', q, l, f⟩ := h; exact ⟨S', obs_perm p q, l, f⟩
/-- One wrapped, or unwrapped. -/
theorem Tk.wrap (h : Tk S W0 os w) (k : ∀ {S w}, (obs os).Q S w → (obs ps).Q S w) : Tk S W0 ps w := by obtain ⟨S', q, l, f⟩ := h; exact ⟨S', k q, l, f⟩
theorem Tk.wrap1 (h : Tk S W0 os w) (k : ∀ {S w}, (obs os).Q S w → d.Q S w) : Tk S W0 [d] w := h.wrap (fun q => obs_one.2 (k q))
theorem Tk.sub (h : Tk S W0 os w) (hs : ps.Sublist os) : Tk S W0 ps w := by
  obtain ⟨S', q, l, f⟩ := h
  suffices hh : ∀ {S : Nat → Prop} {w : World}, (obs os).Q S w → ∃ S2, (obs ps).Q S2 w ∧ ∀ k, S2 k → S k by
    obtain ⟨S2, q2, l2⟩ := hh q
    exact ⟨S2, q2, fun k hk h => l k hk (l2 k h), f⟩
  clear q l f
  induction hs with
  | slnil => exact fun h => ⟨_, h, fun _ h => h⟩
  | cons a _ ih =>
    intro S w ⟨S1, S2, h1, h2, d, e⟩
    obtain ⟨S3, h3, l3⟩ := ih h2
    exact ⟨S3, h3, fun k h => (e k).2 (.inr (l3 k h))⟩
  | cons_cons a _ ih =>
    intro S w ⟨S1, S2, h1, h2, d, e⟩
    obtain ⟨S3, h3, l3⟩ := ih h2
    exact ⟨fun k => S1 k ∨ S3 k, ⟨S1, S3, h1, h3, fun k a b => d k a (l3 k b), fun _ => Iff.rfl⟩, fun k h => (e k).2 (h.imp id (l3 k))⟩
theorem Tk.drop (h : Tk S W0 os w) (i : Nat) : Tk S W0 (os.eraseIdx i) w := h.sub (List.eraseIdx_sublist ..)
theorem Tk.tail (h : Tk S W0 (a :: os) w) : Tk S W0 os w := h.sub (List.sublist_cons_self ..)
/-- What holds of one of them; a call on it, behind which it is e, and what else it made ps. -/
theorem Tk.call (h : Tk S W0 os w) (hi : os[i]? = some d) : ∃ S1, d.Q S1 w ∧ (∀ k, k < W0.heap.size → S1 k → S k) ∧ ∀ w' e ps, Tk S1 w (e :: ps) w' → Tk S W0 (ps ++ os.set i e) w' := by
  obtain ⟨S', q, l, f⟩ := h
  obtain ⟨S1, S2, h1, h2, dis, iff⟩ := obs_perm (get_perm hi) q
  refine ⟨S1, h1, fun k hk h => l k hk ((iff k).2 (.inl h)), fun w' e ps ⟨S3, h3, l3, f3⟩ => ?_⟩
  have hlt : i < os.length := (List.getElem?_eq_some_iff.1 hi).1
  have h4 : (obs ((e :: ps) ++ os.eraseIdx i)).Q (fun k => S3 k ∨ S2 k) w' := obs_append.2 ⟨S3, S2, h3, (obs (os.eraseIdx i)).stay h2 (fun b hb hS => f3.block b hb (fun h => dis b h hS)) f3.size, fun k a b => dis k (l3 k ((obs (os.eraseIdx i)).lt h2 b) a) b, fun _ => Iff.rfl⟩
  refine ⟨_, obs_perm (?_ : ((e :: ps) ++ os.eraseIdx i).Perm (ps ++ os.set i e)) h4, fun k hk hk2 => ?_, f.trans_new f3 (fun k hk => ?_)⟩
  · exact (List.perm_middle (l₁ := ps) (l₂ := os.eraseIdx i)).symm.trans ((set_perm e os i hlt).append_left ps)
  · rcases hk2 with hk2 | hk2
    · exact l k hk ((iff k).2 (.inl (l3 k (Nat.lt_of_lt_of_le hk f.size) hk2)))
    · exact l k hk ((iff k).2 (.inr hk2))
  · by_cases hk3 : k < W0.heap.size
    · exact .inl (l k hk3 ((iff k).2 (.inl hk)))
    · exact .inr (by omega)
theorem Tk.get (h : Tk S W0 os w) (hi : os[i]? = some d) : ∃ S1, d.Q S1 w ∧ ∀ k, k < W0.heap.size → S1 k → S k := by obtain ⟨S1, h1, h2, _⟩ := h.call hi; exact ⟨S1, h1, h2⟩
/-- One that is new. -/
theorem Tk.add (h : Tk S W0 os w) (hb : Tk nos w ps w') : Tk S W0 (ps ++ os) w' := by
  obtain ⟨S', q, l, f⟩ := h
  obtain ⟨S2, q2, l2, f2⟩ := hb
  refine ⟨fun k => S2 k ∨ S' k, obs_append.2 ⟨S2, S', q2, (obs os).stay q (fun b hb _ => f2.block b hb id) f2.size, fun k a b => l2 k ((obs os).lt q b) a, fun _ => Iff.rfl⟩, fun k hk h => ?_, f.trans_new f2 (fun _ h => h.elim)⟩
  rcases h with h | h
  · exact (l2 k (Nat.lt_of_lt_of_le hk f.size) h).elim
  · exact l k hk h
theorem Tk.alloc (h : Tk S W0 os w) (T : TypeId) (cs : List Value) : Tk S W0 (obB w.heap.size T cs :: os) (w.alloc (.cells cs.toArray T)) := by
  refine Tk.add (ps := [obB w.heap.size T cs]) h ⟨fun k => k = w.heap.size, obs_one.2 ⟨Blk.new _ _ _, fun _ => Iff.rfl⟩, fun k hk e => by omega, (Fo.refl _ _).alloc _⟩
theorem Tk.blk {g : Nat} {T : TypeId} {cs : List Value} (h : Tk S W0 os w) (hi : os[i]? = some (obB g T cs)) : Blk w g T cs := by obtain ⟨_, q, _⟩ := h.get hi; exact q.1
/-- Two blocks of one's own are two. -/
theorem Tk.ne {g g' : Nat} {T T' : TypeId} {cs cs' : List Value} {j : Nat} (h : Tk S W0 os w) (hi : os[i]? = some (obB g T cs)) (hj : os[j]? = some (obB g' T' cs')) (hij : i ≠ j) : g ≠ g' := by
  obtain ⟨S', q, _, _⟩ := h
  obtain ⟨S1, S2, h1, h2, dis, _⟩ := obs_perm (get_perm hi) q
  have hj2 : ∃ k : Nat, (os.eraseIdx i)[k]? = some (obB g' T' cs') := by
    rcases Nat.lt_or_gt_of_ne hij with hlt | hlt
    · exact ⟨j - 1, by rw [List.getElem?_eraseIdx_of_ge (by omega), show j - 1 + 1 = j by omega]; exact hj⟩
    · exact ⟨j, by rw [List.getElem?_eraseIdx_of_lt hlt]; exact hj⟩
  obtain ⟨k, hk⟩ := hj2
  obtain ⟨S3, S4, h3, h4, _, iff⟩ := obs_perm (get_perm hk) h2
  intro e
  subst e
  exact dis g ((h1.2 g).2 rfl) ((iff g).2 (.inl ((h3.2 g).2 rfl)))
/-- A block of one's own turned. -/
theorem Tk.turn {g : Nat} {T : TypeId} {cs cs' : List Value} (h : Tk S W0 os w) (hi : os[i]? = some (obB g T cs)) (hg : w.grownBy w' (some g)) (hb : Blk w' g T cs') : Tk S W0 (os.set i (obB g T cs')) w' := by
  obtain ⟨S1, q, _, k⟩ := h.call hi
  exact k w' _ [] ⟨S1, obs_one.2 ⟨hb, q.2⟩, fun _ _ h => h, (Fo.refl _ _).grown hg (fun x hx => .inl ((q.2 x).2 (by injection hx with hx; exact hx.symm)))⟩
theorem Tk.store {g : Nat} {T : TypeId} {cs : List Value} (h : Tk S W0 os w) (hi : os[i]? = some (obB g T cs)) (j : Nat) (u : Value) : Tk S W0 (os.set i (obB g T (cs.set j u))) (w.setCell ⟨g, j, none⟩ u) :=
  h.turn hi (gone u) ((h.blk hi).set j u)
theorem Tk.row {t : TypeId} {size n : Nat} {v : Value} {xs : List Value} (h : Tk S W0 os w) (hi : os[i]? = some (obR t size v n xs)) : w.ownsRow 0 t size v n xs := by obtain ⟨_, q, _⟩ := h.get hi; exact q.1
theorem Tk.rowW {t : TypeId} {size n : Nat} {v : Value} {xs : List Value} (h : Tk nos W0 os w) (hi : os[i]? = some (obR t size v n xs)) : w.ownsRow W0.heap.size t size v n xs := by
  obtain ⟨S1, q, l⟩ := h.get hi
  exact own_floor q.1 (fun b hb => Nat.le_of_not_lt (fun hlt => l b hlt ((q.2 b).2 hb)))
theorem Tk.sl {t : TypeId} {size n : Nat} {v : Value} {xs : List Value} (h : Tk S W0 os w) (hi : os[i]? = some (obR t size v n xs)) : Sl w v n size xs := Sl.own (h.row hi)
/-- A slice of one's own turned: written over, grown, or another one in its place. -/
theorem Tk.turnR {t : TypeId} {size n n' : Nat} {v v' : Value} {xs xs' : List Value} (h : Tk S W0 os w) (hi : os[i]? = some (obR t size v n xs)) (hg : w.grownBy w' v.ownBlock) (hb : w'.ownsRow 0 t size v' n' xs') (hv : ∀ b, v'.ownBlock = some b → v.ownBlock = some b ∨ w.heap.size ≤ b) : Tk S W0 (os.set i (obR t size v' n' xs')) w' := by
  obtain ⟨S1, q, _, k⟩ := h.call hi
  refine k w' _ [] ⟨fun b => v'.ownBlock = some b, obs_one.2 ⟨hb, fun _ => Iff.rfl⟩, fun x hx e => ?_, (Fo.refl _ _).grown hg (fun x hx => .inl ((q.2 x).2 hx))⟩
  rcases hv x e with h1 | h1
  · exact (q.2 x).2 h1
  · omega
/-- .. of which nothing is kept. -/
theorem Tk.spoilR {t : TypeId} {size n : Nat} {v : Value} {xs : List Value} (h : Tk S W0 os w) (hi : os[i]? = some (obR t size v n xs)) (hg : w.grownBy w' v.ownBlock) : Tk S W0 (os.eraseIdx i) w' := by
  obtain ⟨S1, q, _, k⟩ := h.call hi
  have h2 := k w' obE [] ⟨nos, obs_one.2 (fun _ => id), fun _ _ h => h.elim, (Fo.refl _ _).grown hg (fun x hx => .inl ((q.2 x).2 hx))⟩
  have := h2.drop i
  have e : ∀ (l : List Ob) (j : Nat), (l.set j obE).eraseIdx j = l.eraseIdx j := by
    intro l
    induction l with
    | nil => intro j; rfl
    | cons x l ih => intro j; cases j with | zero => rfl | succ j => simp [ih]
  rw [List.nil_append, e] at this
  exact this
theorem Tk.addR {t : TypeId} {size n : Nat} {v : Value} {xs : List Value} (h : Tk S W0 os w) (hb : Below w.heap.size w w') (hr : w'.ownsRow w.heap.size t size v n xs) : Tk S W0 (obR t size v n xs :: os) w' :=
  Tk.add (ps := [obR t size v n xs]) h ⟨fun b => v.ownBlock = some b, obs_one.2 ⟨own_floor hr (fun _ _ => Nat.zero_le _), fun _ => Iff.rfl⟩, fun k hk e => by have := (hr.lt k e).1; omega, Fo.of hb _⟩
end
end Go.Proofs.YtobpggpjboonfaaDoor
