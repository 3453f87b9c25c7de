/-
  Numbers as cells, by a function; one of them given, a row of them wiped. No Go here.
-/
import Derived.Test.YtfkdohnpfjdehaaMem
namespace Go.Proofs.Ytfkdohnpfjdehaa
open Go.RowKit
set_option linter.unusedVariables false
set_option maxRecDepth 100000

/-- Numbers as cells. -/
def itc (f : Nat → Int) (N : Nat) : List Value := (List.range N).map (fun i => .int .i64 (f i))
theorem itc_len (f : Nat → Int) (N : Nat) : (itc f N).length = N := by simp [itc]
theorem itc_get (f : Nat → Int) (N i : Nat) (h : i < N) : (itc f N)[i]? = some (.int .i64 (f i)) := by
  simp [itc, List.getElem?_map, List.getElem?_range h]
theorem itc_congr {f g : Nat → Int} {N : Nat} (h : ∀ i, i < N → f i = g i) : itc f N = itc g N := by
  unfold itc
  exact List.map_congr_left (fun i hi => by rw [h i (List.mem_range.1 hi)])
/-- One number given. -/
def iF (f : Nat → Int) (k : Nat) (x : Int) : Nat → Int := fun i => if i = k then x else f i
theorem itc_set (f : Nat → Int) (N k : Nat) (x : Int) : (itc f N).set k (.int .i64 x) = itc (iF f k x) N := by
  apply List.ext_getElem?
  intro i
  rw [List.getElem?_set]
  by_cases h : i < N
  · rw [itc_get _ _ _ h, itc_get _ _ _ h, itc_len]
    unfold iF
    by_cases e : k = i
    · subst e; simp [h]
    · rw [if_neg e, if_neg (fun e' => e e'.symm)]
  · rw [List.getElem?_eq_none (by rw [itc_len]; omega), List.getElem?_eq_none (by rw [itc_len]; omega), itc_len]
    by_cases e : k = i
    · subst e; simp [h]
    · rw [if_neg e]


theorem iF_here (f : Nat → Int) (k : Nat) (x : Int) : iF f k x k = x := by unfold iF; rw [if_pos rfl]
/-- Nothing but 0. -/
def noI : Nat → Int := fun _ => 0
/-- The i-th row of 8 is 0. -/
def zF (f : Nat → Int) (i : Nat) : Nat → Int := fun k => if k / 8 = i then 0 else f k
theorem itc_one (f : Nat → Int) (N : Nat) : ∀ u ∈ itc f N, u.oneCell' = true := by
  intro u hu
  obtain ⟨i, _, rfl⟩ := List.mem_map.1 hu
  rfl
/-- A row of 8 written over with 0. -/
theorem itc_wipe (f : Nat → Int) (N i : Nat) (z : List Value) (h : i * 8 + 8 ≤ N) : (z ++ itc f N).take (z.length + i * 8) ++ itc noI 8 ++ (z ++ itc f N).drop (z.length + i * 8 + (itc noI 8).length) = z ++ itc (zF f i) N := by
  have hl := itc_len f N
  have hl8 := itc_len noI 8
  rw [hl8, List.take_append, List.take_of_length_le (by omega), show z.length + i * 8 - z.length = i * 8 by omega]
  rw [List.drop_append, List.drop_eq_nil_of_le (by omega), show z.length + i * 8 + 8 - z.length = i * 8 + 8 by omega, List.nil_append, List.append_assoc, List.append_assoc]
  congr 1
  apply List.ext_getElem?
  intro k
  by_cases hk : k < N
  · rw [itc_get _ _ _ hk]
    unfold zF
    by_cases h1 : k < i * 8
    · rw [List.getElem?_append_left (by simp [hl]; omega), List.getElem?_take_of_lt h1, itc_get _ _ _ hk, if_neg (by omega)]
    · rw [List.getElem?_append_right (by simp [hl]; omega)]
      rw [show k - (List.take (i * 8) (itc f N)).length = k - i * 8 by simp [hl]; omega]
      by_cases h2 : k < i * 8 + 8
      · rw [List.getElem?_append_left (by omega), itc_get _ _ _ (by omega), if_pos (by omega)]; rfl
      · rw [List.getElem?_append_right (by omega), List.getElem?_drop, hl8, show i * 8 + 8 + (k - i * 8 - 8) = k by omega, itc_get _ _ _ hk, if_neg (by omega)]
  · rw [List.getElem?_eq_none (by simp [hl, hl8]; omega), List.getElem?_eq_none (by rw [itc_len]; omega)]

end Go.Proofs.Ytfkdohnpfjdehaa
