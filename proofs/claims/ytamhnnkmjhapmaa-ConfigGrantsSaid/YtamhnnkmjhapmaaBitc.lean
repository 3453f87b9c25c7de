/-
  Bits as cells, by a function; one of them given. (Out of Pr1.) No Go here.
-/
import Derived.Test.YtamhnnkmjhapmaaMem
namespace Go.Proofs.Ytamhnnkmjhapmaa
open Go.RowKit
set_option linter.unusedVariables false
set_option maxRecDepth 100000

/-- Bits as cells. -/
def bitc (F : Nat → Bool) (N : Nat) : List Value := (List.range N).map (fun i => .bool (F i))
theorem bitc_len (F : Nat → Bool) (N : Nat) : (bitc F N).length = N := by simp [bitc]
theorem bitc_get (F : Nat → Bool) (N i : Nat) (h : i < N) : (bitc F N)[i]? = some (.bool (F i)) := by
  simp [bitc, List.getElem?_map, List.getElem?_range h]
theorem bitc_congr {F G : Nat → Bool} {N : Nat} (h : ∀ i, i < N → F i = G i) : bitc F N = bitc G N := by
  unfold bitc
  exact List.map_congr_left (fun i hi => by rw [h i (List.mem_range.1 hi)])
/-- One bit given. -/
def bitF (F : Nat → Bool) (k : Nat) (b : Bool) : Nat → Bool := fun i => if i = k then b else F i
theorem bitc_set (F : Nat → Bool) (N k : Nat) (b : Bool) : (bitc F N).set k (.bool b) = bitc (bitF F k b) N := by
  apply List.ext_getElem?
  intro i
  rw [List.getElem?_set]
  by_cases h : i < N
  · rw [bitc_get _ _ _ h, bitc_get _ _ _ h, bitc_len]
    unfold bitF
    by_cases e : k = i
    · subst e; simp [h]
    · rw [if_neg e, if_neg (fun e' => e e'.symm)]
  · rw [List.getElem?_eq_none (by rw [bitc_len]; omega), List.getElem?_eq_none (by rw [bitc_len]; omega), bitc_len]
    by_cases e : k = i
    · subst e; simp [h]
    · rw [if_neg e]
/-- No bit. -/
def noB : Nat → Bool := fun _ => false
theorem bitF_here (F : Nat → Bool) (k : Nat) (b : Bool) : bitF F k b k = b := by unfold bitF; rw [if_pos rfl]

end Go.Proofs.Ytamhnnkmjhapmaa
