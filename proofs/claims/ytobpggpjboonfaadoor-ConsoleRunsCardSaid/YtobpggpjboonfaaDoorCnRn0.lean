/-
  A script's lines, one behind the other: PLAIN.
-/
import Derived.Test.YtobpggpjboonfaaDoorCnE
namespace Go.Proofs.YtobpggpjboonfaaDoor
open Go.RowKit Go.Lib
set_option linter.unusedVariables false
set_option linter.unusedSimpArgs false
set_option maxRecDepth 100000

/-- Behind k bytes, the line at hand from a on: what is told. -/
structure RnI (t : List UInt8) (k a : Nat) (D : List UInt8) : Prop where
  le : a ≤ k
  more : k ≤ t.length → D ++ (lns10 ((t.drop a).take (k - a)) (t.drop k)).flatMap lnS = rnS t
  done : t.length < k → D = rnS t
  few : D.length ≤ 6000 * k
theorem RnI.start (t : List UInt8) : RnI t 0 0 [] := ⟨Nat.le_refl _, fun _ => by simp [rnS], fun h => by omega, by simp⟩
theorem RnI.byte {t : List UInt8} {k a : Nat} {D : List UInt8} (h : RnI t k a D) (hk : k < t.length) (hb : t.getD k 0 ≠ 10) : RnI t (k + 1) a D :=
  ⟨by have := h.le; omega, fun _ => by
    have h1 := h.more (by omega)
    rw [wd_drop t k hk, lns10, if_neg hb, ← wd_cur t k a h.le hk] at h1
    exact h1, fun h2 => by omega, by have := h.few; omega⟩
theorem RnI.lf {t : List UInt8} {k a : Nat} {D : List UInt8} (h : RnI t k a D) (hk : k < t.length) (hb : t.getD k 0 = 10) : RnI t (k + 1) (k + 1) (D ++ lnS ((t.drop a).take (k - a))) := by
  have h1 := h.more (by omega)
  rw [wd_drop t k hk, lns10, if_pos hb, List.flatMap_cons, ← List.append_assoc] at h1
  exact ⟨Nat.le_refl _, fun _ => by rw [Nat.sub_self, List.take_zero]; exact h1, fun h2 => by omega, by have := h.few; have := lnS_len ((t.drop a).take (k - a)); rw [List.length_append]; omega⟩
theorem lnS_nil : lnS [] = [] := by unfold lnS; rw [fld_nil]; rfl
theorem RnI.last {t : List UInt8} {k a : Nat} {D : List UInt8} (h : RnI t k a D) (hk : k = t.length) :
    (a = k → RnI t (k + 1) a D) ∧ RnI t (k + 1) (k + 1) (D ++ lnS ((t.drop a).take (k - a))) := by
  have h1 := h.more (by omega)
  rw [List.drop_eq_nil_of_le (show t.length ≤ k by omega), lns10] at h1
  simp only [List.flatMap_cons, List.flatMap_nil, List.append_nil] at h1
  refine ⟨fun e => ?_, ⟨Nat.le_refl _, fun h2 => by omega, fun _ => h1, by have := h.few; have := lnS_len ((t.drop a).take (k - a)); rw [List.length_append]; omega⟩⟩
  subst e
  rw [Nat.sub_self, List.take_zero, lnS_nil, List.append_nil] at h1
  exact ⟨by omega, fun h2 => by omega, fun _ => h1, by have := h.few; omega⟩

/-- A word is not empty. -/
theorem fld_ne (t : List UInt8) : ∀ cur, ∀ v ∈ fld cur t, v ≠ [] := by
  induction t with
  | nil =>
    intro cur v hv
    rw [fld_nil] at hv
    split at hv
    · cases hv
    · rename_i h; simp at hv; subst hv; exact h
  | cons c t ih =>
    intro cur v hv
    rw [fld] at hv
    split at hv
    · split at hv
      · exact ih _ _ hv
      · rename_i h
        rcases List.mem_cons.1 hv with rfl | hv
        · exact h
        · exact ih _ _ hv
    · exact ih _ _ hv
/-- What a line tells, by its words. -/
theorem lnS_none {P : List UInt8} (h : fld [] P = []) : lnS P = [] := by unfold lnS; rw [h]; rfl
theorem lnS_rem {P l : List UInt8} {ts : List (List UInt8)} (h : fld [] P = (35 :: l) :: ts) : lnS P = [] := by
  unfold lnS; rw [h]
  have : syS ((35 :: l) :: ts) = false := by simp [syS, hasPrefix, List.isPrefixOf]
  rw [this]; rfl
theorem lnS_told {P l : List UInt8} {c : UInt8} {ts : List (List UInt8)} (h : fld [] P = (c :: l) :: ts) (hc : c ≠ 35) : lnS P = otS (asS ((c :: l) :: ts)) ++ [10] := by
  unfold lnS; rw [h]
  have h2 : ¬ (35 : UInt8) = c := fun e => hc e.symm
  have : syS ((c :: l) :: ts) = true := by simp [syS, hasPrefix, List.isPrefixOf, h2]
  rw [this]; rfl
theorem strCells_str (l : List UInt8) : strCells (str l) = bts l := by unfold strCells bts; rw [str_list]

end Go.Proofs.YtobpggpjboonfaaDoor
