/-
  The calls of package pending, for a law with one Sets.
-/
import Derived.Test.YtffdjdllnajfcaaLg
namespace Go.Proofs.Ytffdjdllnajfcaa
open Go.RowKit Go.ChangeMaps
set_option linter.unusedVariables false
set_option maxRecDepth 100000

/-- Since W0: one Sets at s, of n parts, in which F waits. -/
def L1 (W0 : World) (s n : Nat) (F : Nat → Bool) (us : List (Value × List Iq)) (fr : List Nat) (w : World) : Prop := ∃ v xs O, Lg W0 [⟨s, n, v, xs, O, F⟩] us fr w
/-- The law's own blocks stay. -/
def Ke (fr : List Nat) (w w' : World) : Prop := ∀ b ∈ fr, w'.heap[b]? = w.heap[b]?
theorem Ke.blk {fr : List Nat} {w w' : World} {b : Nat} {T : TypeId} {cs : List Value} (h : Ke fr w w') (hb : b ∈ fr) (hk : Blk w b T cs) : Blk w' b T cs := (h b hb).trans hk

section
variable {W0 w w' : World} {s n : Nat} {F : Nat → Bool} {us : List (Value × List Iq)} {fr : List Nat}
theorem L1.next (h : L1 W0 s n F us fr w) (hb : Below w.heap.size w w') : L1 W0 s n F us fr w' := by obtain ⟨v, xs, O, h⟩ := h; exact ⟨v, xs, O, h.next hb⟩
theorem L1.drewN (h : L1 W0 s n F us fr w) (q : Nat) : L1 W0 s n F us fr (w.drewN q) := by obtain ⟨v, xs, O, h⟩ := h; exact ⟨v, xs, O, h.drewN q⟩
theorem L1.alloc (h : L1 W0 s n F us fr w) (o : Obj) : L1 W0 s n F us (w.heap.size :: fr) (w.alloc o) := by obtain ⟨v, xs, O, h⟩ := h; exact ⟨v, xs, O, h.alloc o⟩
theorem L1.drop (h : L1 W0 s n F us fr w) {us' : List (Value × List Iq)} {fr' : List Nat} (h1 : ∀ p ∈ us', p ∈ us) (h2 : ∀ b ∈ fr', b ∈ fr) : L1 W0 s n F us' fr' w := by obtain ⟨v, xs, O, h⟩ := h; exact ⟨v, xs, O, h.drop h1 h2⟩
theorem L1.turn {k : Nat} (h : L1 W0 s n F us fr w) (hk : k ∈ fr) (hW : W0.heap.size ≤ k) (hu : ∀ p ∈ us, p.1.ownBlock ≠ some k) (hg : w.grownBy w' (some k)) : L1 W0 s n F us fr w' := by obtain ⟨v, xs, O, h⟩ := h; exact ⟨v, xs, O, h.turn hk hW hu hg⟩
theorem L1.below (h : L1 W0 s n F us fr w) : Below W0.heap.size W0 w := by obtain ⟨v, xs, O, h⟩ := h; exact h.below
theorem L1.held (h : L1 W0 s n F us fr w) {p : Value × List Iq} (hp : p ∈ us) : w.ownsRow W0.heap.size 50 3 p.1 p.2.length (iqs p.2) := by obtain ⟨v, xs, O, h⟩ := h; exact (h.held p hp).1
theorem L1.sl (h : L1 W0 s n F us fr w) {p : Value × List Iq} (hp : p ∈ us) : Sl w p.1 p.2.length 3 (iqs p.2) := Sl.own (h.held hp)
theorem L1.spoil {p : Value × List Iq} (h : L1 W0 s n F [p] fr w) (hg : w.grownBy w' p.1.ownBlock) : L1 W0 s n F [] fr w' := by obtain ⟨v, xs, O, h⟩ := h; exact ⟨v, xs, O, h.spoil hg⟩
theorem L1.lt (h : L1 W0 s n F us fr w) : s < w.heap.size := by obtain ⟨v, xs, O, h⟩ := h; exact (h.ps _ List.mem_cons_self).blk.lt
end

theorem l1new (n : Nat) (w : World) (h1 : 1 ≤ n) (h4 : n ≤ 4) :
    Calls Try.prog 8 #[.int .i64 n] w fun e w' => ∃ s, e = .returned (.tuple #[.pointer (some ⟨s, 0, none⟩), .int .i64 0]) ∧ L1 w s n (fun _ => false) [] [] w' :=
  (pnew_yes n w h1 h4).mono fun e w' ⟨he, v, xs, O, h⟩ => ⟨_, he, v, xs, O, (Lg.start w).made h⟩

theorem l1raise {W0 : World} {s n : Nat} {F : Nat → Bool} {us : List (Value × List Iq)} {fr : List Nat} (p d k : Nat) (w : World) (h : L1 W0 s n F us fr w) (hp : p < n) (hd : d < 4) (hk : k < 8) :
    Calls Try.prog 12 #[.pointer (some ⟨s, 0, none⟩), .int .i64 p, .int .i64 d, .int .i64 k] w fun e w' => e = .returned (.tuple #[.bool (!F (p * 32 + (d * 8 + k))), .int .i64 0]) ∧ L1 W0 s n (putF F (p * 32 + (d * 8 + k))) us fr w' ∧ Ke fr w w' := by
  obtain ⟨v, xs, O, h⟩ := h
  refine (praise_yes s n v xs O F p d k w (h.ps _ List.mem_cons_self) hp hd hk).mono ?_
  rintro e w' ⟨he, O', hps, hO, fo⟩
  obtain ⟨h1, h2⟩ := Lg.call (A := []) (B := []) h hps hO fo
  exact ⟨he, ⟨v, xs, O', h1⟩, h2⟩

theorem l1raise_no {W0 : World} {s n : Nat} {F : Nat → Bool} {us : List (Value × List Iq)} {fr : List Nat} (p d k : Int) (w : World) (h : L1 W0 s n F us fr w) (hb : (hP n p && isP d k) = false) :
    Calls Try.prog 12 #[.pointer (some ⟨s, 0, none⟩), .int .i64 p, .int .i64 d, .int .i64 k] w fun e w' => e = .returned (.tuple #[.bool false, .int .i64 1200]) ∧ w = w' := by
  obtain ⟨v, xs, O, h⟩ := h
  exact praise_no s n v xs O F p d k w (h.ps _ List.mem_cons_self) hb

theorem l1take {W0 : World} {s n : Nat} {F : Nat → Bool} {us : List (Value × List Iq)} {fr : List Nat} (p : Nat) (t : Int) (mv : Value) (M : List Iq) (nM : Nat) (w : World) (h : L1 W0 s n F us fr w) (hp : p < n) (hM : Sl w mv nM 3 (iqs M)) (hl : M.length = nM) (hn : nM ≤ 140737488355328) :
    Calls Try.prog 15 #[.pointer (some ⟨s, 0, none⟩), .int .i64 p, .int .i64 t, mv] w fun e w' => ∃ u, e = .returned u ∧ L1 W0 s n (takF F p M) ((u, tks t (tkL (fun k => F (p * 32 + k)) M)) :: us) fr w' ∧ Ke fr w w' := by
  obtain ⟨v, xs, O, h⟩ := h
  refine (ptake_yes s n v mv xs O F p t M nM w (h.ps _ List.mem_cons_self) hp hM hl hn).mono ?_
  rintro e w' ⟨u, he, hu, O', hps, hO, fo, hub⟩
  obtain ⟨h1, h2⟩ := Lg.take (A := []) (B := []) (L := tks t (tkL (fun k => F (p * 32 + k)) M)) h hps hO fo (by rw [tks_len]; exact hu) hub
  exact ⟨u, he, ⟨v, xs, O', h1⟩, h2⟩

theorem l1take_no {W0 : World} {s n : Nat} {F : Nat → Bool} {us : List (Value × List Iq)} {fr : List Nat} (p t : Int) (mv : Value) (w : World) (h : L1 W0 s n F us fr w) (hb : hP n p = false) :
    Calls Try.prog 15 #[.pointer (some ⟨s, 0, none⟩), .int .i64 p, .int .i64 t, mv] w fun e w' => e = .returned (.slice none 0 0) ∧ w = w' := by
  obtain ⟨v, xs, O, h⟩ := h
  exact ptake_no s n v mv xs O F p t w (h.ps _ List.mem_cons_self) hb

theorem l1clear {W0 : World} {s n : Nat} {F : Nat → Bool} {us : List (Value × List Iq)} {fr : List Nat} (d : Int) (w : World) (h : L1 W0 s n F us fr w) :
    Calls Try.prog 20 #[.pointer (some ⟨s, 0, none⟩), .int .i64 d] w fun e w' => e = .returned (.int .i64 (cntA F d n : Nat)) ∧ L1 W0 s n (clF F d n) us fr w' ∧ Ke fr w w' := by
  obtain ⟨v, xs, O, h⟩ := h
  refine (pclear_any s n v xs O F d w (h.ps _ List.mem_cons_self)).mono ?_
  rintro e w' ⟨he, O', hps, hO, fo⟩
  obtain ⟨h1, h2⟩ := Lg.call (A := []) (B := []) h hps hO fo
  exact ⟨he, ⟨v, xs, O', h1⟩, h2⟩

/-- No mask. -/
theorem sl_nil (w : World) : Sl w (.slice none 0 0) 0 3 (iqs []) := ⟨none, 0, rfl, Nat.le_refl _, rfl, fun h => absurd h (by omega)⟩
end Go.Proofs.Ytffdjdllnajfcaa
