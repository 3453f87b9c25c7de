/-
  A memory read whole. (Mems of layer 3 holds its own copies: never import both.)
-/
import Derived.Test.YtggdbiniklchoaaPhysAll
namespace Go.Proofs.Ytggdbiniklchoaa
open Go.RowKit
set_option linter.unusedVariables false
set_option maxRecDepth 100000

theorem rd_whole (l : List UInt8) : str (rdL l 0 (l.length : Nat)) = str l ∧ errC (mayB 0 (l.length : Nat) l.length) = 0 := by
  have hs : mayB 0 (l.length : Nat) l.length = true := decide_eq_true (by omega)
  constructor
  · unfold rdL
    rw [hs, if_pos rfl, Int.toNat_zero, Int.toNat_natCast, List.drop_zero, List.take_of_length_le (Nat.le_refl _)]
  · rw [hs]; rfl

theorem RM.whole {w : World} {r b : Nat} {l : List UInt8} (h : RM w r b l) : (convert 51 9 (.slice (some ⟨b, 0, none⟩) l.length l.length)).run Try.prog w = .ok (.string (str l)) w :=
  conv_str (w := w) b 0 l.length l (fun i hi => by rw [Nat.zero_add, h.at_ hi])

end Go.Proofs.Ytggdbiniklchoaa
