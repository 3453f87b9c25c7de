/-
  Plain words for ConsoleNext: how long one window's offset is waited for. No Go here.
-/
import Derived.Test.YtobpggpjboonfaaDoorCn1
namespace Go.Proofs.YtobpggpjboonfaaDoor
set_option linter.unusedVariables false
set_option maxRecDepth 100000

theorem md_add (k j m : Nat) (hm : 0 < m) : (k % m + j < m → (k + j) % m = k % m + j) ∧ (m ≤ k % m + j → k % m + j < 2 * m → (k + j) % m = k % m + j - m) := by
  have e : (k + j) % m = (k % m + j) % m := (Nat.mod_add_mod k m j).symm
  refine ⟨fun h => ?_, fun h1 h2 => ?_⟩
  · rw [e, Nat.mod_eq_of_lt h]
  · rw [e, Nat.mod_eq_sub_mod h1, Nat.mod_eq_of_lt (by omega)]

theorem nx_plain (m d k : Nat) (hm : 1 ≤ m) (hm64 : m ≤ 64) (hd : d < m) (hk : k ≤ 1023) :
    ∃ w, w < m ∧ (k + w) % m = d ∧ (∀ j, j < w → (k + j) % m ≠ d) ∧ nxtN [⟨0, 0, m, d⟩] m 0 k = (k + w : Nat) ∧ nxtC [⟨0, 0, m, d⟩] m 0 k = 0 := by
  have hr : k % m < m := Nat.mod_lt _ (by omega)
  have hM : mayW [(⟨0, 0, m, d⟩ : Win)] m 4 = true := by
    refine mayW_yes (decide_eq_true (by simp; omega)) (fun i hi => ?_)
    have : i = 0 := by simp at hi; exact hi
    subst this
    exact ok_yes hi (decide_eq_true (by simp only [List.getElem_cons_zero]; omega)) rfl
  have hA : askW [(⟨0, 0, m, d⟩ : Win)] m k = true := by
    unfold askW
    rw [hM, decide_eq_true (by omega)]; rfl
  have hw : ∀ w : Nat, w < m → ((d : Int) - (k : Int) % (m : Int) + m) % m = w → wtW [(⟨0, 0, m, d⟩ : Win)] 0 m ((k : Int) % (m : Int)) m = w := by
    intro w h1 h2
    simp only [wtW, if_true]
    rw [h2, if_pos (by omega)]
  have fin : ∀ w : Nat, w < m → ((d : Int) - (k : Int) % (m : Int) + m) % m = w → nxtN [⟨0, 0, m, d⟩] m 0 k = (k + w : Nat) ∧ nxtC [⟨0, 0, m, d⟩] m 0 k = 0 := by
    intro w h1 h2
    have h3 := hw w h1 h2
    unfold nxtN nxtC
    rw [hA, h3, decide_eq_true (by omega)]
    exact ⟨by simp, by simp⟩
  have ek : (k : Int) % (m : Int) = ((k % m : Nat) : Int) := by simp
  by_cases h : k % m ≤ d
  · refine ⟨d - k % m, by omega, by rw [(md_add k (d - k % m) m (by omega)).1 (by omega)]; omega, fun j hj => by rw [(md_add k j m (by omega)).1 (by omega)]; omega, fin _ (by omega) ?_⟩
    rw [ek, show (d : Int) - ((k % m : Nat) : Int) + (m : Int) = ((d - k % m + m : Nat) : Int) by omega]
    have : (d - k % m + m) % m = d - k % m := by rw [Nat.add_mod_right, Nat.mod_eq_of_lt (by omega)]
    rw [← this]; simp
  · refine ⟨d + m - k % m, by omega, by rw [(md_add k (d + m - k % m) m (by omega)).2 (by omega) (by omega)]; omega, fun j hj => ?_, fin _ (by omega) ?_⟩
    · rcases Nat.lt_or_ge (k % m + j) m with h1 | h1
      · rw [(md_add k j m (by omega)).1 h1]; omega
      · rw [(md_add k j m (by omega)).2 h1 (by omega)]; omega
    · rw [ek, show (d : Int) - ((k % m : Nat) : Int) + (m : Int) = ((d + m - k % m : Nat) : Int) by omega]
      have : (d + m - k % m) % m = d + m - k % m := Nat.mod_eq_of_lt (by omega)
      rw [← this]; simp

end Go.Proofs.YtobpggpjboonfaaDoor
