/-
  The contract of the document's Word.
-/
import Derived.Test.YtfkdohnpfjdehaaPhysR
namespace Go.Proofs.Ytfkdohnpfjdehaa
open Go.RowKit
set_option linter.unusedVariables false
set_option maxRecDepth 100000

theorem or4 (y0 y1 y2 y3 : UInt8) : bits BinOp.or IntKind.i64 (bits BinOp.or IntKind.i64 (bits BinOp.or IntKind.i64 (wrap64 (y0.toNat : Int)) (wrap64 (wrap64 (y1.toNat : Int) * 256))) (wrap64 (wrap64 (y2.toNat : Int) * 65536))) (wrap64 (wrap64 (y3.toNat : Int) * 16777216)) = num4 [y0, y1, y2, y3] := by
  have h0 : wrap64 (y0.toNat : Int) = numTo [y0, y1, y2, y3] 1 := by
    have := y0.toNat_lt
    simp [numTo, wrap64]
    omega
  have h1 := or_step [y0, y1, y2, y3] 1 (by omega) _ rfl
  have h2 := or_step [y0, y1, y2, y3] 2 (by omega) _ rfl
  have h3 := or_step [y0, y1, y2, y3] 3 (by omega) _ rfl
  rw [num4_to, h0]
  have e1 : (2 : Int) ^ (8 * 1) = 256 := by decide
  have e2 : (2 : Int) ^ (8 * 2) = 65536 := by decide
  have e3 : (2 : Int) ^ (8 * 3) = 16777216 := by decide
  rw [e1] at h1; rw [e2] at h2; rw [e3] at h3
  simp only [List.getD_cons_zero, List.getD_cons_succ] at h1 h2 h3
  rw [h1, h2, h3]

theorem take4 (l : List UInt8) (a : Nat) (h : a + 4 ≤ l.length) : (l.drop a).take 4 = [l.getD a 0, l.getD (a + 1) 0, l.getD (a + 2) 0, l.getD (a + 3) 0] := by
  have g : ∀ k (hk : k < l.length), l.getD k 0 = l[k] := by intro k hk; simp [List.getD, List.getElem?_eq_getElem hk]
  rw [g a (by omega), g (a + 1) (by omega), g (a + 2) (by omega), g (a + 3) (by omega)]
  rw [List.drop_eq_getElem_cons (by omega), List.drop_eq_getElem_cons (by omega), List.drop_eq_getElem_cons (by omega), List.drop_eq_getElem_cons (by omega)]
  rfl

end Go.Proofs.Ytfkdohnpfjdehaa
