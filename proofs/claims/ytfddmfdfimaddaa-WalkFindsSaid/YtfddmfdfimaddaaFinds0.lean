/-
  Plain words for layer 5's law WalkFinds: tables of words, and what a walk finds in them. No Go here.
-/
import Derived.Test.YtfddmfdfimaddaaMemWords
import Derived.Test.YtfddmfdfimaddaaWalk0
namespace Go.Proofs.Ytfddmfdfimaddaa
open Go.RowKit
set_option linter.unusedVariables false

theorem getD_set (l : List Int) (i j : Nat) (x : Int) (h : j < l.length) : (l.set i x).getD j 0 = if i = j then x else l.getD j 0 := by
  rw [List.getD_eq_getElem?_getD, List.getElem?_set]
  by_cases e : i = j
  · subst e; rw [if_pos rfl, if_pos h, if_pos rfl]; rfl
  · rw [if_neg e, if_neg e, List.getD_eq_getElem?_getD]

/-- The root's words, so far. -/
def rootK : Nat → List Int
  | 0 => List.replicate 128 0
  | k + 1 => (rootK k).set k (1 + 2 * 3 + 4096 * (1 + (k : Int)))
theorem rootK_len (k : Nat) : (rootK k).length = 128 := by
  induction k with
  | zero => simp [rootK]
  | succ k ih => unfold rootK; rw [List.length_set, ih]
theorem root0 : zeros 512 = wds (rootK 0) := by decide +kernel

structure Fnd (q a : List Int) : Prop where
  ql : q.length = 128
  qr : ∀ x ∈ q, 0 ≤ x ∧ x ≤ 4294967295
  al : a.length = 128
  root : ∀ j, j < 4 → q.getD j 0 = 1 + 2 * 3 + 4096 * (1 + (j : Int))
  rest : ∀ j, 4 ≤ j → j < 16 → q.getD j 0 = 0
  leaf : ∀ k, k < 64 → (a.getD (k * 2) 0 = 0 ∧ a.getD (k * 2 + 1) 0 = 0 ∧ q.getD (16 + k) 0 = 0) ∨
    (0 ≤ a.getD (k * 2) 0 ∧ a.getD (k * 2) 0 < 8 ∧ 1 ≤ a.getD (k * 2 + 1) 0 ∧ a.getD (k * 2 + 1) 0 ≤ 3 ∧ q.getD (16 + k) 0 = 1 + 2 * a.getD (k * 2 + 1) 0 + 4096 * a.getD (k * 2) 0)

def noWant : List Int := List.replicate 128 0
theorem fnd_root : Fnd (rootK 4) noWant :=
  ⟨rootK_len 4, by decide +kernel, by decide +kernel, by decide +kernel, by
    have : ∀ j : Fin 16, 4 ≤ j.val → (rootK 4).getD j.val 0 = 0 := by decide +kernel
    intro j h1 h2
    exact this ⟨j, h2⟩ h1, by
    have : ∀ k : Fin 64, noWant.getD (k.val * 2) 0 = 0 ∧ noWant.getD (k.val * 2 + 1) 0 = 0 ∧ (rootK 4).getD (16 + k.val) 0 = 0 := by decide +kernel
    intro k hk
    exact .inl (this ⟨k, hk⟩)⟩

theorem Fnd.put {q a : List Int} (h : Fnd q a) (K : Nat) (f p : Int) (hK : K < 64) (h0 : 0 ≤ f) (h1 : f < 8) (h2 : 1 ≤ p) (h3 : p ≤ 3) :
    Fnd (q.set (16 + K) (1 + 2 * p + 4096 * f)) ((a.set (K * 2) f).set (K * 2 + 1) p) := by
  have hl := h.ql
  have ha := h.al
  refine ⟨by rw [List.length_set]; exact h.ql, set_range q _ _ _ _ h.qr (by omega), by rw [List.length_set, List.length_set]; exact h.al, ?_, ?_, ?_⟩
  · intro j hj
    rw [getD_set _ _ _ _ (by omega), if_neg (by omega)]
    exact h.root j hj
  · intro j h4 h5
    rw [getD_set _ _ _ _ (by omega), if_neg (by omega)]
    exact h.rest j h4 h5
  · intro k hk
    have sl : ∀ i x, (a.set i x).length = 128 := fun i x => by rw [List.length_set]; exact ha
    rw [getD_set q (16 + K) (16 + k) _ (by omega), getD_set (a.set (K * 2) f) (K * 2 + 1) (k * 2) p (by rw [sl]; omega), getD_set (a.set (K * 2) f) (K * 2 + 1) (k * 2 + 1) p (by rw [sl]; omega), getD_set a (K * 2) (k * 2) f (by omega), getD_set a (K * 2) (k * 2 + 1) f (by omega)]
    by_cases e : K = k
    · subst e
      rw [if_neg (by omega), if_pos rfl, if_pos rfl, if_pos rfl]
      exact .inr ⟨h0, h1, h2, h3, rfl⟩
    · rw [if_neg (by omega), if_neg (by omega), if_neg (by omega), if_neg (by omega), if_neg (by omega)]
      exact h.leaf k hk

/-- A step in a table of words. -/
theorem s_word {q : List Int} (hl : q.length = 128) (hr : ∀ x ∈ q, 0 ≤ x ∧ x ≤ 4294967295) (F k : Int) (j : Nat) (hj : j < 128) (h : F * 64 + k * 4 = 4 * (j : Int)) : sW (wds q) F k = q.getD j 0 := by
  unfold sW
  rw [h]
  exact (wds_wd q j (by omega) hr).1
theorem s_zero {q : List Int} (hl : q.length = 128) (hr : ∀ x ∈ q, 0 ≤ x ∧ x ≤ 4294967295) (F k : Int) (j : Nat) (hj : j < 128) (h : F * 64 + k * 4 = 4 * (j : Int)) (hz : q.getD j 0 = 0) : sC (wds q) F k = 501 ∧ sF (wds q) F k = 0 ∧ sP (wds q) F k = 0 := by
  have hs := s_cases (wds q) F k 8 (by rw [wds_len]; omega)
  rw [s_word hl hr F k j hj h, hz] at hs
  rcases hs with ⟨h, _⟩ | ⟨_, h, _⟩ | ⟨_, _, _, h⟩ | ⟨_, _, h, _⟩
  · exact absurd h (by decide)
  · exact absurd h (by decide)
  · exact h
  · exact absurd rfl h
theorem s_there {q : List Int} (hl : q.length = 128) (hr : ∀ x ∈ q, 0 ≤ x ∧ x ≤ 4294967295) (F k : Int) (j : Nat) (hj : j < 128) (h : F * 64 + k * 4 = 4 * (j : Int)) (f p : Int) (h0 : 0 ≤ f) (h1 : f < 8) (h2 : 1 ≤ p) (h3 : p ≤ 3) (hz : q.getD j 0 = 1 + 2 * p + 4096 * f) : sC (wds q) F k = 0 ∧ sF (wds q) F k = f ∧ sP (wds q) F k = p := by
  have hs := s_cases (wds q) F k 8 (by rw [wds_len]; omega)
  have hg := g_of f p h2 h3 h0 (by omega)
  rw [eN_yes f p h2 h3 h0 (by omega)] at hg
  rw [s_word hl hr F k j hj h, hz, hg.1, hg.2.1, hg.2.2] at hs
  rcases hs with ⟨h, _⟩ | ⟨_, h, _⟩ | ⟨_, _, h, _⟩ | ⟨_, _, _, h⟩
  · cases h
  · omega
  · omega
  · exact h

theorem Fnd.walk {q a : List Int} (h : Fnd q a) (k : Nat) (hk : k < 64) : wF (wds q) 0 k = a.getD (k * 2) 0 ∧ wP (wds q) 0 k = a.getD (k * 2 + 1) 0 ∧ wC (wds q) 0 k = (if a.getD (k * 2 + 1) 0 = 0 then 501 else 0) ∧ 0 ≤ a.getD (k * 2 + 1) 0 ∧ a.getD (k * 2 + 1) 0 ≤ 3 := by
  have hr := s_there h.ql h.qr 0 ((k : Int) / 16) (k / 16) (by omega) (by omega) (1 + (k / 16 : Nat)) 3 (by omega) (by omega) (by omega) (by omega) (h.root (k / 16) (by omega))
  have ho : wOk (wds q) 0 k = true := decide_eq_true (by rw [wds_len, h.ql]; omega)
  have hw : wC (wds q) 0 k = sC (wds q) (1 + (k / 16 : Nat)) ((k : Int) % 16) ∧ wF (wds q) 0 k = sF (wds q) (1 + (k / 16 : Nat)) ((k : Int) % 16) ∧ wP (wds q) 0 k = sP (wds q) (1 + (k / 16 : Nat)) ((k : Int) % 16) := by
    rcases w_cases (wds q) 0 k with ⟨hh, _⟩ | ⟨_, hh, _⟩ | ⟨_, _, hh, _⟩ | ⟨_, _, _, h1, h2, h3⟩
    · rw [ho] at hh; cases hh
    · exact absurd hr.1 hh
    · exact absurd hr.2.2 hh
    · rw [hr.2.1] at h1 h2 h3; exact ⟨h1, h2, h3⟩
  rw [hw.1, hw.2.1, hw.2.2]
  rcases h.leaf k hk with ⟨h1, h2, h3⟩ | ⟨h1, h2, h3, h4, h5⟩
  · have hs := s_zero h.ql h.qr (1 + (k / 16 : Nat)) ((k : Int) % 16) (16 + k) (by omega) (by omega) h3
    rw [hs.1, hs.2.1, hs.2.2, h1, h2, if_pos rfl]
    exact ⟨rfl, rfl, rfl, by omega, by omega⟩
  · have hs := s_there h.ql h.qr (1 + (k / 16 : Nat)) ((k : Int) % 16) (16 + k) (by omega) (by omega) _ _ h1 h2 h3 h4 h5
    rw [hs.1, hs.2.1, hs.2.2, if_neg (by omega)]
    exact ⟨rfl, rfl, rfl, by omega, h4⟩

theorem Fnd.far {q a : List Int} (h : Fnd q a) (x : Int) (h0 : 64 ≤ x) (h1 : x < 256) : wF (wds q) 0 x = 0 ∧ wP (wds q) 0 x = 0 ∧ wC (wds q) 0 x = 501 := by
  have hs := s_zero h.ql h.qr 0 (x / 16) (x / 16).toNat (by omega) (by omega) (h.rest _ (by omega) (by omega))
  have ho : wOk (wds q) 0 x = true := decide_eq_true (by rw [wds_len, h.ql]; omega)
  rcases w_cases (wds q) 0 x with ⟨hh, _⟩ | ⟨_, _, h1, h2, h3⟩ | ⟨_, hh, _⟩ | ⟨_, hh, _⟩
  · rw [ho] at hh; cases hh
  · exact ⟨h2, h3, h1.trans hs.1⟩
  · omega
  · omega

end Go.Proofs.Ytfddmfdfimaddaa
