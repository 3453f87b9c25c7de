/-
  A cell of a slice of ints. No Go here.
-/
import Derived.Test.YtobpggpjboonfaaDoorMem
namespace Go.Proofs.YtobpggpjboonfaaDoor
open Go.RowKit
set_option linter.unusedVariables false
set_option maxRecDepth 100000

theorem sli_at {w : World} {v : Value} {n : Nat} {zs : List Int} (h : Sl w v n 1 (ints zs)) (k : Nat) (hk : k < n) : ∃ b o cap, v = .slice (some ⟨b, o, none⟩) n cap ∧ b < w.heap.size ∧ w.cell? ⟨b, o + k, none⟩ = some (.int .i64 (zs.getD k 0)) := by
  obtain ⟨A, cap, rfl, hc, hl, hA⟩ := h
  obtain ⟨b, o, rfl, hb, hcell⟩ := hA (by omega)
  exact ⟨b, o, cap, rfl, hb, hcell k _ (ints_get zs k (by rw [ints_len] at hl; omega))⟩

end Go.Proofs.YtobpggpjboonfaaDoor
