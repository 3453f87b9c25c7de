/-
  What a law of layer 12 keeps: several Sets of the program, slices that it was handed, blocks of its own.
-/
import Derived.Test.YtffdjdllnajfcaaPnd
namespace Go.Proofs.Ytffdjdllnajfcaa
open Go.RowKit Go.ChangeMaps
set_option linter.unusedVariables false
set_option maxRecDepth 100000

/-- A Sets of the program, with all that PS asks. -/
structure SD where
  s : Nat
  n : Nat
  v : Value
  xs : List Nat
  O : Nat → Nat
  F : Nat → Bool

/-- Since W0: the Sets ss, apart from one another; us: slices of Irqs that were handed out; fr: blocks that belong to none of the Sets. -/
structure Lg (W0 : World) (ss : List SD) (us : List (Value × List Iq)) (fr : List Nat) (w : World) : Prop where
  ps : ∀ d ∈ ss, PS w d.s d.n d.v d.xs d.O d.F
  new : ∀ d ∈ ss, ∀ b, d.O b ≠ 0 → W0.heap.size ≤ b
  dis : ss.Pairwise (fun d e => ∀ b, d.O b = 0 ∨ e.O b = 0)
  held : ∀ p ∈ us, w.ownsRow W0.heap.size 50 3 p.1 p.2.length (iqs p.2) ∧ ∀ d ∈ ss, ∀ b, p.1.ownBlock = some b → d.O b = 0
  free : ∀ b ∈ fr, b < w.heap.size ∧ ∀ d ∈ ss, d.O b = 0
  below : Below W0.heap.size W0 w

section
variable {W0 w w' : World} {ss A B : List SD} {us : List (Value × List Iq)} {fr : List Nat}
theorem Lg.start (W0 : World) : Lg W0 [] [] [] W0 := ⟨by simp, by simp, .nil, by simp, by simp, Below.refl _ _⟩
theorem Lg.size (h : Lg W0 ss us fr w) : W0.heap.size ≤ w.heap.size := h.below.size
theorem Lg.next (h : Lg W0 ss us fr w) (hb : Below w.heap.size w w') : Lg W0 ss us fr w' :=
  ⟨fun d hd => (h.ps d hd).below hb (Nat.le_refl _), h.new, h.dis, fun p hp => ⟨own_below (h.held p hp).1 hb, (h.held p hp).2⟩, fun b hb' => ⟨Nat.lt_of_lt_of_le (h.free b hb').1 hb.size, (h.free b hb').2⟩, h.below.trans (hb.mono h.below.size)⟩
theorem Lg.drewN (h : Lg W0 ss us fr w) (n : Nat) : Lg W0 ss us fr (w.drewN n) := h.next (bdrewN (Below.refl _ _) n)
theorem Lg.alloc (h : Lg W0 ss us fr w) (o : Obj) : Lg W0 ss us (w.heap.size :: fr) (w.alloc o) := by
  have h2 := h.next ((Below.refl _ w).alloc (Nat.le_refl _) o)
  refine ⟨h2.ps, h2.new, h2.dis, h2.held, fun b hb => ?_, h2.below⟩
  rcases List.mem_cons.1 hb with rfl | hb
  · refine ⟨by simp, fun d hd => ?_⟩
    rcases Nat.eq_zero_or_pos (d.O w.heap.size) with e | e
    · exact e
    · have := (h.ps d hd).lt w.heap.size (by omega); omega
  · exact h2.free b hb
theorem Lg.drop (h : Lg W0 ss us fr w) {us' : List (Value × List Iq)} {fr' : List Nat} (h1 : ∀ p ∈ us', p ∈ us) (h2 : ∀ b ∈ fr', b ∈ fr) : Lg W0 ss us' fr' w :=
  ⟨h.ps, h.new, h.dis, fun p hp => h.held p (h1 p hp), fun b hb => h.free b (h2 b hb), h.below⟩
/-- A Sets that is new. -/
theorem Lg.made {s n : Nat} {v : Value} {xs : List Nat} {O : Nat → Nat} (h : Lg W0 ss us fr w) (hn : Nl w s n v xs O w') : Lg W0 (⟨s, n, v, xs, O, fun _ => false⟩ :: ss) us fr w' := by
  have h2 := h.next hn.below
  have hs := h.below.size
  refine ⟨fun d hd => ?_, fun d hd b hb => ?_, ?_, fun p hp => ⟨(h2.held p hp).1, fun d hd b hb => ?_⟩, fun b hb => ⟨(h2.free b hb).1, fun d hd => ?_⟩, h2.below⟩
  · rcases List.mem_cons.1 hd with rfl | hd
    · exact hn.ps
    · exact h2.ps d hd
  · rcases List.mem_cons.1 hd with rfl | hd
    · exact Nat.le_trans hs (hn.new b hb)
    · exact h2.new d hd b hb
  · refine List.pairwise_cons.2 ⟨fun e he b => ?_, h2.dis⟩
    rcases Nat.eq_zero_or_pos (O b) with e0 | e0
    · exact .inl e0
    · right
      have h3 := hn.new b (by omega)
      rcases Nat.eq_zero_or_pos (e.O b) with e1 | e1
      · exact e1
      · have := (h.ps e he).lt b (by omega); omega
  · rcases List.mem_cons.1 hd with rfl | hd
    · rcases Nat.eq_zero_or_pos (O b) with e0 | e0
      · exact e0
      · have h3 := hn.new b (by omega)
        have := ((h.held p hp).1.lt b hb).2; omega
    · exact (h2.held p hp).2 d hd b hb
  · rcases List.mem_cons.1 hd with rfl | hd
    · rcases Nat.eq_zero_or_pos (O b) with e0 | e0
      · exact e0
      · have h3 := hn.new b (by omega)
        have := (h.free b hb).1; omega
    · exact (h2.free b hb).2 d hd
/-- A call on one of the Sets. -/
theorem Lg.call {d : SD} {O' : Nat → Nat} {G : Nat → Bool} (h : Lg W0 (A ++ d :: B) us fr w) (hp : PS w' d.s d.n d.v d.xs O' G) (hO : ∀ b, b < w.heap.size → O' b = d.O b) (fo : Fo (fun b => d.O b ≠ 0) w w') :
    Lg W0 (A ++ { d with O := O', F := G } :: B) us fr w' ∧ ∀ b ∈ fr, w'.heap[b]? = w.heap[b]? := by
  have hsz := fo.size
  have hd : d ∈ A ++ d :: B := List.mem_append_right _ List.mem_cons_self
  have hdis := h.dis
  rw [List.pairwise_append, List.pairwise_cons] at hdis
  obtain ⟨h1, ⟨h2, h3⟩, h4⟩ := hdis
  have apart : ∀ e ∈ A ++ B, ∀ b, d.O b = 0 ∨ e.O b = 0 := fun e he b => by
    rcases List.mem_append.1 he with he | he
    · exact (h4 e he d List.mem_cons_self b).symm
    · exact h2 e he b
  have apart' : ∀ e ∈ A ++ B, ∀ b, O' b = 0 ∨ e.O b = 0 := fun e he b => by
    by_cases hb : b < w.heap.size
    · rw [hO b hb]; exact apart e he b
    · right
      rcases Nat.eq_zero_or_pos (e.O b) with e1 | e1
      · exact e1
      · have := (h.ps e (by rcases List.mem_append.1 he with he | he; exact List.mem_append_left _ he; exact List.mem_append_right _ (List.mem_cons_of_mem _ he))).lt b (by omega); omega
  have mem : ∀ e, e ∈ A ++ { d with O := O', F := G } :: B → e = { d with O := O', F := G } ∨ (e ∈ A ++ B ∧ e ∈ A ++ d :: B) := by
    intro e he
    rcases List.mem_append.1 he with he | he
    · exact .inr ⟨List.mem_append_left _ he, List.mem_append_left _ he⟩
    · rcases List.mem_cons.1 he with rfl | he
      · exact .inl rfl
      · exact .inr ⟨List.mem_append_right _ he, List.mem_append_right _ (List.mem_cons_of_mem _ he)⟩
  refine ⟨⟨fun e he => ?_, fun e he b hb => ?_, ?_, fun p hp' => ⟨?_, fun e he b hb => ?_⟩, fun b hb => ⟨Nat.lt_of_lt_of_le (h.free b hb).1 hsz, fun e he => ?_⟩, fo.below h.below h.below.size (fun i hi => h.new d hd i hi)⟩, fun b hb => fo.block b (h.free b hb).1 (fun e => e ((h.free b hb).2 d hd))⟩
  · rcases mem e he with rfl | ⟨he1, he2⟩
    · exact hp
    · refine (h.ps e he2).stay (fun b hb hOb => fo.block b hb (fun e3 => ?_)) hsz
      rcases apart e he1 b with h5 | h5
      · exact e3 h5
      · exact hOb h5
  · rcases mem e he with rfl | ⟨he1, he2⟩
    · by_cases hlt : b < w.heap.size
      · exact h.new d hd b (by rw [← hO b hlt]; exact hb)
      · have := h.below.size; omega
    · exact h.new e he2 b hb
  · rw [List.pairwise_append, List.pairwise_cons]
    refine ⟨h1, ⟨fun e he b => apart' e (List.mem_append_right _ he) b, h3⟩, fun e he f hf b => ?_⟩
    rcases List.mem_cons.1 hf with rfl | hf
    · exact (apart' e (List.mem_append_left _ he) b).symm
    · exact h4 e he f (List.mem_cons_of_mem _ hf) b
  · have hr := (h.held p hp').1
    refine ⟨hr.1, ?_⟩
    rcases hr.2 with h5 | ⟨g, cap, cur, hv, hb, hg, h6⟩
    · exact .inl h5
    · exact .inr ⟨g, cap, cur, hv, hb, (fo.block g (Array.getElem?_eq_some_iff.1 hg).1 (fun e => e ((h.held p hp').2 d hd g (by rw [hv]; rfl)))).trans hg, h6⟩
  · rcases mem e he with rfl | ⟨he1, he2⟩
    · show O' b = 0
      rw [hO b ((h.held p hp').1.lt b hb).2]; exact (h.held p hp').2 d hd b hb
    · exact (h.held p hp').2 e he2 b hb
  · rcases mem e he with rfl | ⟨he1, he2⟩
    · show O' b = 0
      rw [hO b (h.free b hb).1]; exact (h.free b hb).2 d hd
    · exact (h.free b hb).2 e he2
/-- .. one that hands out a slice. -/
theorem Lg.take {d : SD} {O' : Nat → Nat} {G : Nat → Bool} {u : Value} {L : List Iq} (h : Lg W0 (A ++ d :: B) us fr w) (hp : PS w' d.s d.n d.v d.xs O' G) (hO : ∀ b, b < w.heap.size → O' b = d.O b) (fo : Fo (fun b => d.O b ≠ 0) w w')
    (hu : w'.ownsRow w.heap.size 50 3 u L.length (iqs L)) (hub : ∀ b, u.ownBlock = some b → O' b = 0) : Lg W0 (A ++ { d with O := O', F := G } :: B) ((u, L) :: us) fr w' ∧ ∀ b ∈ fr, w'.heap[b]? = w.heap[b]? := by
  obtain ⟨h1, h2⟩ := h.call hp hO fo
  refine ⟨⟨h1.ps, h1.new, h1.dis, fun p hp' => ?_, h1.free, h1.below⟩, h2⟩
  rcases List.mem_cons.1 hp' with rfl | hp'
  · refine ⟨own_base hu h.below.size, fun e he b hb => ?_⟩
    rcases List.mem_append.1 he with he' | he'
    · rcases Nat.eq_zero_or_pos (e.O b) with e1 | e1
      · exact e1
      · have := (h.ps e (List.mem_append_left _ he')).lt b (by omega)
        have := (hu.lt b hb).1; omega
    · rcases List.mem_cons.1 he' with rfl | he'
      · exact hub b hb
      · rcases Nat.eq_zero_or_pos (e.O b) with e1 | e1
        · exact e1
        · have := (h.ps e (List.mem_append_right _ (List.mem_cons_of_mem _ he'))).lt b (by omega)
          have := (hu.lt b hb).1; omega
  · exact h1.held p hp'
/-- A block of the law's own turned; no slice lies in it. -/
theorem Lg.turn {k : Nat} (h : Lg W0 ss us fr w) (hk : k ∈ fr) (hW : W0.heap.size ≤ k) (hu : ∀ p ∈ us, p.1.ownBlock ≠ some k) (hg : w.grownBy w' (some k)) : Lg W0 ss us fr w' :=
  ⟨fun d hd => (h.ps d hd).stay (fun b hb hO => hg.block b hb (fun e => hO (by injection e with e; rw [e]; exact (h.free k hk).2 d hd))) hg.size, h.new, h.dis,
    fun p hp => ⟨(h.held p hp).1.kept hg (.inr (hu p hp)), (h.held p hp).2⟩, fun b hb => ⟨Nat.lt_of_lt_of_le (h.free b hb).1 hg.size, (h.free b hb).2⟩, h.below.grown hg h.below.size (fun i hi => by injection hi with hi; exact hi ▸ hW)⟩
/-- A slice that was handed out is written over: it is no more of use. -/
theorem Lg.spoil {p : Value × List Iq} (h : Lg W0 ss [p] fr w) (hg : w.grownBy w' p.1.ownBlock) : Lg W0 ss [] fr w' := by
  have hp := h.held p List.mem_cons_self
  exact ⟨fun d hd => (h.ps d hd).stay (fun b hb hO => hg.block b hb (fun e => hO (hp.2 d hd b e.symm))) hg.size, h.new, h.dis, by simp, fun b hb => ⟨Nat.lt_of_lt_of_le (h.free b hb).1 hg.size, (h.free b hb).2⟩,
    h.below.grown hg h.below.size (fun i hi => (hp.1.lt i hi).1)⟩
end
end Go.Proofs.Ytffdjdllnajfcaa
