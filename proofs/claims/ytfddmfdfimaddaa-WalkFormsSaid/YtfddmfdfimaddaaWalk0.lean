/-
  Plain words for layer 5: what a step answers, what a walk answers. No Go here.
-/
import Derived.Test.YtfddmfdfimaddaaPhys0
import Derived.Test.YtfddmfdfimaddaaPte0
namespace Go.Proofs.Ytfddmfdfimaddaa
open Go.RowKit
set_option linter.unusedVariables false

/-- Word k of frame F. -/
def sW (l : List UInt8) (F k : Int) : Int := wdN l (F * 64 + k * 4)
/-- A step's error, its frame, its rights. -/
def sC (l : List UInt8) (F k : Int) : Int := if gB (sW l F k) = true ∧ gF (sW l F k) < ((l.length / 64 : Nat) : Int) then (if gP (sW l F k) = 0 then 501 else 0) else 502
def sF (l : List UInt8) (F k : Int) : Int := if sC l F k = 0 then gF (sW l F k) else 0
def sP (l : List UInt8) (F k : Int) : Int := if sC l F k = 0 then gP (sW l F k) else 0
def wOk (l : List UInt8) (r p : Int) : Bool := decide (0 ≤ p ∧ p < 256 ∧ 0 ≤ r ∧ r < ((l.length / 64 : Nat) : Int))
/-- A walk's error, its frame, its rights. -/
def wC (l : List UInt8) (r p : Int) : Int := if wOk l r p then (if sC l r (p / 16) = 0 then (if sP l r (p / 16) = 3 then sC l (sF l r (p / 16)) (p % 16) else 502) else sC l r (p / 16)) else 500
def wF (l : List UInt8) (r p : Int) : Int := if wC l r p = 0 then sF l (sF l r (p / 16)) (p % 16) else 0
def wP (l : List UInt8) (r p : Int) : Int := if wC l r p = 0 then sP l (sF l r (p / 16)) (p % 16) else 0

/-- Both numbers of a word's entry. -/
theorem g_bounds (x : Int) (h : gB x = true) : 0 ≤ gF x ∧ gF x < 64 ∧ 0 ≤ gP x ∧ gP x ≤ 3 := by
  rw [gF_eq x h, gP_eq x h]
  have h := of_decide_eq_true h
  omega

theorem s_cases (l : List UInt8) (F k : Int) (m : Nat) (hm : l.length = 64 * m) :
    (gB (sW l F k) = false ∧ sC l F k = 502 ∧ sF l F k = 0 ∧ sP l F k = 0) ∨
    (gB (sW l F k) = true ∧ (m : Int) ≤ gF (sW l F k) ∧ sC l F k = 502 ∧ sF l F k = 0 ∧ sP l F k = 0) ∨
    (gB (sW l F k) = true ∧ gF (sW l F k) < m ∧ gP (sW l F k) = 0 ∧ sC l F k = 501 ∧ sF l F k = 0 ∧ sP l F k = 0) ∨
    (gB (sW l F k) = true ∧ gF (sW l F k) < m ∧ gP (sW l F k) ≠ 0 ∧ sC l F k = 0 ∧ sF l F k = gF (sW l F k) ∧ sP l F k = gP (sW l F k)) := by
  have hd : l.length / 64 = m := by omega
  have hC : sC l F k = if gB (sW l F k) = true ∧ gF (sW l F k) < (m : Int) then (if gP (sW l F k) = 0 then 501 else 0) else 502 := by unfold sC; rw [hd]
  have no : ∀ c : Int, c ≠ 0 → sC l F k = c → sC l F k = c ∧ sF l F k = 0 ∧ sP l F k = 0 := fun c h0 h => ⟨h, by unfold sF; rw [if_neg (by rw [h]; exact h0)], by unfold sP; rw [if_neg (by rw [h]; exact h0)]⟩
  by_cases hb : gB (sW l F k) = true
  · by_cases hf : gF (sW l F k) < m
    · rw [if_pos ⟨hb, hf⟩] at hC
      by_cases hp : gP (sW l F k) = 0
      · rw [if_pos hp] at hC
        exact .inr (.inr (.inl ⟨hb, hf, hp, no _ (by omega) hC⟩))
      · rw [if_neg hp] at hC
        exact .inr (.inr (.inr ⟨hb, hf, hp, hC, by unfold sF; rw [if_pos hC], by unfold sP; rw [if_pos hC]⟩))
    · rw [if_neg (fun h => hf h.2)] at hC
      exact .inr (.inl ⟨hb, by omega, no _ (by omega) hC⟩)
  · rw [if_neg (fun h => hb h.1)] at hC
    exact .inl ⟨by simpa using hb, no _ (by omega) hC⟩

theorem s_bounds (l : List UInt8) (F k : Int) (m : Nat) (hm : l.length = 64 * m) (h : sC l F k = 0) : 0 ≤ sF l F k ∧ sF l F k < m := by
  rcases s_cases l F k m hm with ⟨_, h1, _⟩ | ⟨_, _, h1, _⟩ | ⟨_, _, _, h1, _⟩ | ⟨hb, hf, _, _, h2, _⟩
  · omega
  · omega
  · omega
  · rw [h2]; exact ⟨(g_bounds _ hb).1, hf⟩

theorem w_cases (l : List UInt8) (r p : Int) :
    (wOk l r p = false ∧ wC l r p = 500 ∧ wF l r p = 0 ∧ wP l r p = 0) ∨
    (wOk l r p = true ∧ sC l r (p / 16) ≠ 0 ∧ wC l r p = sC l r (p / 16) ∧ wF l r p = 0 ∧ wP l r p = 0) ∨
    (wOk l r p = true ∧ sC l r (p / 16) = 0 ∧ sP l r (p / 16) ≠ 3 ∧ wC l r p = 502 ∧ wF l r p = 0 ∧ wP l r p = 0) ∨
    (wOk l r p = true ∧ sC l r (p / 16) = 0 ∧ sP l r (p / 16) = 3 ∧ wC l r p = sC l (sF l r (p / 16)) (p % 16) ∧ wF l r p = sF l (sF l r (p / 16)) (p % 16) ∧ wP l r p = sP l (sF l r (p / 16)) (p % 16)) := by
  unfold wF wP wC
  by_cases ho : wOk l r p = true
  · rw [ho, if_pos rfl]
    by_cases hc : sC l r (p / 16) = 0
    · rw [if_pos hc]
      by_cases h3 : sP l r (p / 16) = 3
      · rw [if_pos h3]
        refine .inr (.inr (.inr ⟨rfl, hc, h3, rfl, ?_, ?_⟩))
        · by_cases h : sC l (sF l r (p / 16)) (p % 16) = 0
          · rw [if_pos h]
          · rw [if_neg h]
            have e : ∀ F, ¬ sC l F (p % 16) = 0 → sF l F (p % 16) = 0 := fun F h => by unfold sF; rw [if_neg h]
            exact (e _ h).symm
        · by_cases h : sC l (sF l r (p / 16)) (p % 16) = 0
          · rw [if_pos h]
          · rw [if_neg h]
            have e : ∀ F, ¬ sC l F (p % 16) = 0 → sP l F (p % 16) = 0 := fun F h => by unfold sP; rw [if_neg h]
            exact (e _ h).symm
      · rw [if_neg h3]
        exact .inr (.inr (.inl ⟨rfl, hc, h3, rfl, rfl, rfl⟩))
    · rw [if_neg hc]
      exact .inr (.inl ⟨rfl, hc, rfl, by rw [if_neg hc], by rw [if_neg hc]⟩)
  · have ho : wOk l r p = false := by simpa using ho
    rw [ho]
    exact .inl ⟨rfl, rfl, rfl, rfl⟩

end Go.Proofs.Ytfddmfdfimaddaa
