/-
  Plain words for IrqApart: two Units, of which the second one has seen just what the first device was asked.
-/
import Derived.Test.YtjmdgjpepogogaaIrClears
namespace Go.Proofs.Ytjmdgjpepogogaa
open Go.RowKit Go.ChangeMaps
set_option linter.unusedVariables false
set_option maxRecDepth 100000

theorem ixa0 (v : Nat) : ixR 0 v = v := by unfold ixR; omega
theorem ixa1 (v : Nat) : ixR 1 v = 8 + v := by unfold ixR; omega
theorem inA0 {v : Nat} (hv : v < 8) : inR 2 0 v = true := by unfold inR; simp; omega
theorem inA1 {v : Nat} (hv : v < 8) : inR 2 1 v = true := by unfold inR; simp; omega
theorem atA0 (T : List Ro) (v : Nat) : atR T 0 v = T.getD v ro0 := by unfold atR; rw [ixa0]
theorem reA0 {T : List Ro} {v : Nat} (hv : v < 8) : reC 2 T 0 v = if (T.getD v ro0).is then 0 else 1101 := by unfold reC; rw [inA0 hv, atA0]; rfl
theorem getD_setA (T : List Ro) (j i : Nat) (x : Ro) (hl : T.length = 32) (hj : j < 32) : (T.set j x).getD i ro0 = if i = j then x else T.getD i ro0 := by
  simp only [List.getD_eq_getElem?_getD, List.getElem?_set]
  by_cases e : i = j
  · subst e; rw [if_pos rfl, if_pos (by omega), if_pos rfl]; rfl
  · rw [if_neg (fun h => e h.symm), if_neg e]

/-- The two are alike, as far as the first partition can tell. -/
structure Ig (Ta Tb : List Ro) (Fa Fb : Nat → Bool) : Prop where
  la : Ta.length = 32
  lb : Tb.length = 32
  e0 : ∀ v, v < 8 → Tb.getD v ro0 = Ta.getD v ro0
  f0 : ∀ k, k < 32 → Fb k = Fa k
  fz : ∀ k, 8 ≤ k → k < 32 → Fa k = false
  f1 : ∀ k, k < 32 → Fb (32 + k) = false
theorem Ig.start : Ig newT newT noF noF := ⟨newT_len, newT_len, fun _ _ => rfl, fun _ _ => rfl, fun _ _ _ => rfl, fun _ _ => rfl⟩
section
variable {Ta Tb : List Ro} {Fa Fb : Nat → Bool} {v : Nat}
theorem Ig.set0 (h : Ig Ta Tb Fa Fb) (hv : v < 8) (x : Ro) : Ig (Ta.set v x) (Tb.set v x) Fa Fb :=
  ⟨by simpa using h.la, by simpa using h.lb, fun i hi => by rw [getD_setA _ _ _ _ h.la (by omega), getD_setA _ _ _ _ h.lb (by omega), h.e0 i hi], h.f0, h.fz, h.f1⟩
theorem Ig.set1 (h : Ig Ta Tb Fa Fb) (hv : v < 8) (x : Ro) : Ig (Ta.set (8 + v) x) Tb Fa Fb :=
  ⟨by simpa using h.la, h.lb, fun i hi => by rw [getD_setA _ _ _ _ h.la (by omega), if_neg (by omega), h.e0 i hi], h.f0, h.fz, h.f1⟩
/-- The error of an entry, and the entry, in both. -/
theorem Ig.re (h : Ig Ta Tb Fa Fb) (hv : v < 8) : reC 2 Tb 0 v = reC 2 Ta 0 v := by rw [reA0 hv, reA0 hv, h.e0 v hv]
theorem Ig.uu (h : Ig Ta Tb Fa Fb) (hv : v < 8) : uuC 2 Tb 0 v = uuC 2 Ta 0 v := by unfold uuC; rw [h.re hv]
/-- Route. -/
theorem Ig.route0 (h : Ig Ta Tb Fa Fb) (hv : v < 8) : Ig (urT 2 2 Ta 0 v 0) (urT 2 2 Tb 0 v 0) Fa Fb := by
  have e : ∀ T, urT 2 2 T 0 v 0 = T.set v ⟨true, 0, false⟩ := fun T => by rw [(ur_ok (D := 2) (n := 2) (T := T) (d := 0) (v := v) (p := 0) (by omega) (by omega) (by omega) (by omega)).2, ixa0]
  rw [e, e]; exact h.set0 hv _
theorem Ig.route1 (h : Ig Ta Tb Fa Fb) (hv : v < 8) : Ig (urT 2 2 Ta 1 v 1) Tb Fa Fb := by
  have e : urT 2 2 Ta 1 v 1 = Ta.set (8 + v) ⟨true, 1, false⟩ := by rw [(ur_ok (D := 2) (n := 2) (T := Ta) (d := 1) (v := v) (p := 1) (by omega) (by omega) (by omega) (by omega)).2, ixa1]
  rw [e]; exact h.set1 hv _
/-- Unroute. -/
theorem Ig.gv (h : Ig Ta Tb Fa Fb) : Ig Ta Tb (gvF Fa v 2) (gvF Fb v 2) := by
  refine ⟨h.la, h.lb, h.e0, fun k hk => ?_, fun k h8 hk => ?_, fun k hk => ?_⟩ <;> unfold gvF
  · rw [h.f0 k hk]
  · rw [h.fz k h8 hk]; simp
  · rw [h.f1 k hk]; simp
theorem Ig.un0 (h : Ig Ta Tb Fa Fb) (hv : v < 8) : Ig (ruT 2 Ta 0 v) (ruT 2 Tb 0 v) (uuF 2 2 Ta Fa 0 v) (uuF 2 2 Tb Fb 0 v) := by
  unfold ruT uuF
  rw [h.re hv, ixa0]
  split
  · exact (h.set0 hv ro0).gv
  · exact h
theorem Ig.un1 (h : Ig Ta Tb Fa Fb) (hv : v < 8) : Ig (ruT 2 Ta 1 v) Tb (uuF 2 2 Ta Fa 1 v) Fb := by
  unfold ruT uuF
  rw [ixa1]
  split
  · have g := h.set1 hv ro0
    refine ⟨g.la, g.lb, g.e0, fun k hk => ?_, fun k h8 hk => ?_, g.f1⟩ <;> unfold gvF
    · by_cases e : k / 32 < 2 ∧ k % 32 = 8 + v
      · rw [if_pos e, h.f0 k hk]; exact h.fz k (by omega) hk
      · rw [if_neg e]; exact h.f0 k hk
    · rw [h.fz k h8 hk]; simp
  · exact h
/-- Mask. -/
theorem Ig.mask0 (h : Ig Ta Tb Fa Fb) (hv : v < 8) (m : Bool) : Ig (rmT 2 Ta 0 v m) (rmT 2 Tb 0 v m) Fa Fb := by
  unfold rmT
  rw [h.re hv, ixa0, atA0, atA0, h.e0 v hv]
  split
  · exact h.set0 hv _
  · exact h
theorem Ig.mask1 (h : Ig Ta Tb Fa Fb) (hv : v < 8) (m : Bool) : Ig (rmT 2 Ta 1 v m) Tb Fa Fb := by
  unfold rmT
  rw [ixa1]
  split
  · exact h.set1 hv _
  · exact h
/-- Deliver. -/
theorem Ig.mb (h : Ig Ta Tb Fa Fb) (k : Nat) (hk : k < 8) : mB 2 Tb k = mB 2 Ta k := by
  unfold mB rlM
  rw [show k / 8 = 0 by omega, show k % 8 = k by omega]
  rw [show ((0 : Nat) : Int) = 0 from rfl, h.re hk, atA0, atA0, h.e0 k hk]
theorem Ig.dl (h : Ig Ta Tb Fa Fb) (t : Int) : udL 2 2 Tb Fb 0 t = udL 2 2 Ta Fa 0 t := by
  have e : dlN 2 Tb Fb 0 = dlN 2 Ta Fa 0 := plN_congr (fun k hk => by
    rw [show 0 * 32 + k = k by omega, h.f0 k hk]
    by_cases h8 : k < 8
    · rw [h.mb k h8]
    · rw [h.fz k (by omega) hk]; simp)
  unfold udL
  rw [show (0 : Int).toNat = 0 from rfl, e]
theorem Ig.df0 (h : Ig Ta Tb Fa Fb) : Ig Ta Tb (udF 2 2 Ta Fa 0) (udF 2 2 Tb Fb 0) := by
  have e : ∀ T F, udF 2 2 T F 0 = dlF 2 T F 0 := fun _ _ => rfl
  rw [e, e]
  refine ⟨h.la, h.lb, h.e0, fun k hk => ?_, fun k h8 hk => ?_, fun k hk => ?_⟩ <;> unfold dlF
  · rw [if_pos (by omega), if_pos (by omega), h.f0 k hk]
    by_cases h8 : k < 8
    · rw [show k % 32 = k by omega, h.mb k h8]
    · rw [h.fz k (by omega) hk]; simp
  · rw [h.fz k h8 hk]; simp
  · rw [h.f1 k hk]; simp
theorem Ig.df1 (h : Ig Ta Tb Fa Fb) : Ig Ta Tb (udF 2 2 Ta Fa 1) Fb := by
  have e : ∀ T F, udF 2 2 T F 1 = dlF 2 T F 1 := fun _ _ => rfl
  rw [e]
  refine ⟨h.la, h.lb, h.e0, fun k hk => ?_, fun k h8 hk => ?_, h.f1⟩ <;> unfold dlF
  · rw [if_neg (by omega)]; exact h.f0 k hk
  · rw [if_neg (by omega)]; exact h.fz k h8 hk
theorem Ig.none1 (h : Ig Ta Tb Fa Fb) (t : Int) : udL 2 2 Tb Fb 1 t = [] := by
  have e : dlN 2 Tb Fb 1 = plN (fun _ => false) 32 := plN_congr (fun k hk => by rw [show 1 * 32 + k = 32 + k by omega, h.f1 k hk]; rfl)
  unfold udL
  rw [show (1 : Int).toNat = 1 from rfl, e]; rfl
/-- Clear. -/
theorem Ig.clear0 (h : Ig Ta Tb Fa Fb) : Ig (rcT 2 Ta 0) (rcT 2 Tb 0) (ucF 2 2 Fa 0) (ucF 2 2 Fb 0) := by
  have e : ∀ T, rcT 2 T 0 = clrT T 0 := fun _ => rfl
  have e2 : ∀ F, ucF 2 2 F 0 = clF F 0 2 := fun _ => rfl
  rw [e, e, e2, e2]
  refine ⟨by rw [clrT_len _ _ (by rw [h.la]; decide)]; exact h.la, by rw [clrT_len _ _ (by rw [h.lb]; decide)]; exact h.lb, fun v hv => ?_, fun k hk => ?_, fun k h8 hk => ?_, fun k hk => ?_⟩
  · rw [clrT_get _ _ _ (by rw [h.lb]; decide), clrT_get _ _ _ (by rw [h.la]; decide), if_pos (by omega), if_pos (by omega)]
  · unfold clF; rw [h.f0 k hk]
  · unfold clF; rw [h.fz k h8 hk]; simp
  · unfold clF; rw [h.f1 k hk]; simp
theorem Ig.clear1 (h : Ig Ta Tb Fa Fb) : Ig (rcT 2 Ta 1) Tb (ucF 2 2 Fa 1) Fb := by
  have e : rcT 2 Ta 1 = clrT Ta 1 := rfl
  have e2 : ucF 2 2 Fa 1 = clF Fa 1 2 := rfl
  rw [e, e2]
  refine ⟨by rw [clrT_len _ _ (by rw [h.la]; decide)]; exact h.la, h.lb, fun v hv => ?_, fun k hk => ?_, fun k h8 hk => ?_, h.f1⟩
  · rw [clrT_get _ _ _ (by rw [h.la]; decide), if_neg (by omega), h.e0 v hv]
  · unfold clF
    rw [if_pos (by omega), h.f0 k hk]
    by_cases h8 : k < 8
    · have : dv 1 (k % 32) = false := by unfold dv; simp; omega
      rw [this]; simp
    · rw [h.fz k (by omega) hk]; simp
  · unfold clF; rw [h.fz k h8 hk]; simp
/-- Raise. -/
theorem Ig.ra (h : Ig Ta Tb Fa Fb) (hv : v < 8) : uaC 2 2 Tb 0 v 0 = uaC 2 2 Ta 0 v 0 := by
  unfold uaC rlP
  rw [h.re hv, atA0, atA0, h.e0 v hv]
theorem Ig.raise0 (h : Ig Ta Tb Fa Fb) (hv : v < 8) : Ig Ta Tb (uaF 2 2 Ta Fa 0 v 0) (uaF 2 2 Tb Fb 0 v 0) := by
  unfold uaF
  rw [h.ra hv, ixa0, show (0 : Int).toNat * 32 + v = v by simp]
  split
  · refine ⟨h.la, h.lb, h.e0, fun k hk => ?_, fun k h8 hk => ?_, fun k hk => ?_⟩ <;> unfold putF
    · rw [h.f0 k hk]
    · rw [if_neg (by omega)]; exact h.fz k h8 hk
    · rw [if_neg (by omega)]; exact h.f1 k hk
  · exact h
theorem Ig.raise1 (h : Ig Ta Tb Fa Fb) (hv : v < 8) : Ig Ta Tb (uaF 2 2 Ta Fa 1 v 1) Fb := by
  unfold uaF
  rw [ixa1, show (1 : Int).toNat * 32 + (8 + v) = 32 + (8 + v) by simp]
  split
  · refine ⟨h.la, h.lb, h.e0, fun k hk => ?_, fun k h8 hk => ?_, h.f1⟩ <;> unfold putF
    · rw [if_neg (by omega)]; exact h.f0 k hk
    · rw [if_neg (by omega)]; exact h.fz k h8 hk
  · exact h
end
end Go.Proofs.Ytjmdgjpepogogaa
