/-
  Contracts of the program's set in plain words: add, take, clear.
-/
import Derived.Test.YtjmdgjpepogogaaPn9
namespace Go.Proofs.Ytjmdgjpepogogaa
open Go.RowKit Go.ChangeMaps
set_option linter.unusedVariables false
set_option maxRecDepth 100000

/-- Is place k named by one of M? -/
def mkB (M : List Iq) (k : Nat) : Bool := decide (∃ q ∈ M, (q.d, q.v) = pz k)
/-- Those that are taken; how many of a device there are. -/
def tkL (F : Nat → Bool) (M : List Iq) : List Nat := (List.range 32).filter (fun k => F k && !mkB M k)
def cntL (F : Nat → Bool) (d : Int) : Nat := ((List.range 32).filter (fun k => F k && dv d k)).length
def putF (F : Nat → Bool) (k : Nat) : Nat → Bool := fun i => if i = k then true else F i

theorem perm_F {l : List Nat} {F : Nat → Bool} (hn : l.Nodup) (h : ∀ k, k ∈ l ↔ (k < 32 ∧ F k = true)) : l.Perm ((List.range 32).filter F) := by
  rw [List.perm_ext_iff_of_nodup hn (List.nodup_range.filter _)]
  intro a
  rw [h, List.mem_filter, List.mem_range]

theorem sadd_set (S : Nat → Prop) (x k : Nat) (F : Nat → Bool) (w : World) (h : SetIs S w x F) (h32 : k < 32) :
    Calls Try.prog 63 #[.pointer (some ⟨x, 0, none⟩), .agg #[.int .i64 ((k / 8 : Nat) : Int), .int .i64 ((k % 8 : Nat) : Int)]] w fun e w' => e = .returned (.bool (!F k)) ∧ SetIs (Nw S w) w' x (putF F k) ∧ Fo S w w' := by
  obtain ⟨m, v, l, h, hF⟩ := h
  cases hk : F k with
  | true =>
    have hkl : k ∈ l := (hF k).2 ⟨h32, hk⟩
    refine (sadd_old S x m k v l w h hkl).mono ?_
    rintro e w' ⟨rfl, hb⟩
    refine ⟨rfl, ⟨m, v, l, (h.below hb (Nat.le_refl _)).weak (fun b hb => .inl hb), fun i => ?_⟩, Fo.of hb S⟩
    rw [hF i]; unfold putF
    by_cases e : i = k
    · subst e; simp [hk]
    · simp [e]
  | false =>
    have hkl : k ∉ l := fun e => by have := ((hF k).1 e).2; rw [hk] at this; cases this
    refine (sadd_new S x m k v l w h hkl h32).mono ?_
    rintro e w' ⟨rfl, v', l', h', p', fo⟩
    refine ⟨rfl, ⟨m, v', l', h', fun i => ?_⟩, fo⟩
    rw [p'.mem_iff, List.mem_cons, hF i]; unfold putF
    by_cases e : i = k
    · subst e; simp [h32]
    · simp [e]

theorem stake_set (S : Nat → Prop) (x : Nat) (F : Nat → Bool) (mv : Value) (M : List Iq) (n : Nat) (w : World) (h : SetIs S w x F) (hM : Sl w mv n 3 (iqs M)) (hl : M.length = n) (hn : n ≤ 140737488355328) :
    Calls Try.prog 55 #[.pointer (some ⟨x, 0, none⟩), mv] w fun e w' => ∃ u, e = .returned u ∧ RW w' w.heap.size u (tkL F M) ∧ SetIs (fun b => Nw S w b ∧ u.ownBlock ≠ some b) w' x (fun k => F k && mkB M k) ∧ Fo S w w' := by
  obtain ⟨m, v, l, h, hF⟩ := h
  refine (stake_any S x m v mv l M n w h hM hl hn).mono ?_
  rintro e w' ⟨u, t, P, hs, rfl, z⟩
  have hP : P = (List.range 32).filter F := by
    refine List.Perm.eq_of_pairwise (le := (· < ·)) (fun a b _ _ h1 h2 => by omega) z.srt (List.pairwise_lt_range.filter _) (z.pm.trans (perm_F h.nd hF))
  have hB_ : ∀ k ∈ P, hB hs k = mkB M k := by
    intro k hk
    have hkl : k ∈ l := z.pm.mem_iff.1 hk
    unfold hB mkB
    rw [decide_eq_decide, z.am]
    exact ⟨fun h => h.2, fun h => ⟨List.mem_map.2 ⟨k, hkl, rfl⟩, h⟩⟩
  have e1 : P.filter (fun k => !hB hs k) = tkL F M := by
    rw [show P.filter (fun k => !hB hs k) = P.filter (fun k => !mkB M k) from List.filter_congr (fun k hk => by rw [hB_ k hk])]
    rw [hP, List.filter_filter]
    unfold tkL
    exact List.filter_congr (fun k _ => Bool.and_comm _ _)
  refine ⟨u, rfl, by rw [← e1]; exact z.ru, ⟨m, t, _, z.st, fun k => ?_⟩, z.fo⟩
  rw [List.mem_filter]
  constructor
  · rintro ⟨h1, h2⟩
    have := (hF k).1 (z.pm.mem_iff.1 h1)
    exact ⟨this.1, by show (F k && mkB M k) = true; rw [← hB_ k h1, h2, this.2]; rfl⟩
  · rintro ⟨h1, h2⟩
    simp only [Bool.and_eq_true] at h2
    have h3 : k ∈ P := z.pm.mem_iff.2 ((hF k).2 ⟨h1, h2.1⟩)
    exact ⟨h3, by rw [hB_ k h3]; exact h2.2⟩

theorem sclear_set (S : Nat → Prop) (x : Nat) (F : Nat → Bool) (d : Int) (w : World) (h : SetIs S w x F) :
    Calls Try.prog 65 #[.pointer (some ⟨x, 0, none⟩), .int .i64 d] w fun e w' => e = .returned (.int .i64 (cntL F d : Nat)) ∧ SetIs (Nw S w) w' x (fun k => F k && !dv d k) ∧ Fo S w w' := by
  obtain ⟨m, v, l, h, hF⟩ := h
  refine (sclear_any S x m v l d w h).mono ?_
  rintro e w' ⟨rfl, u, l', h', p', fo⟩
  refine ⟨?_, ⟨m, u, l', h', fun k => ?_⟩, fo⟩
  · have := ((perm_F h.nd hF).filter (dv d)).length_eq
    rw [this, List.filter_filter]
    unfold cntL
    rw [show (List.range 32).filter (fun a => dv d a && F a) = (List.range 32).filter (fun k => F k && dv d k) from List.filter_congr (fun k _ => Bool.and_comm _ _)]
  · rw [p'.mem_iff, List.mem_filter, hF k]
    simp [and_assoc]

end Go.Proofs.Ytjmdgjpepogogaa
