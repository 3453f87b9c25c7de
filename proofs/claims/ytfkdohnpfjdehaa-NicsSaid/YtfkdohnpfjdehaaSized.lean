/-
  What a row's step tells of a slice that came in: its bytes stay below the reach of a machine, and a slice of no memory has no capacity. No Go function here.
-/
import Derived.Test.YtfkdohnpfjdehaaArgs
import Derived.SizedLaws
namespace Go.Proofs.Ytfkdohnpfjdehaa
open Go.RowKit Go.ChangeShapes Go.WideShapes Go.Deep
set_option linter.unusedVariables false
set_option maxRecDepth 100000

section
variable {H : Type} {enc : TypeId × Value → H} {P : Program}
theorem sized_sl {t e : TypeId} {B R : Nat} {W : World} {v : Value} {d : DataW H} {p : List MemPlace} (ht : P.underlying t = some (.slice e)) (hB : P.bytesOf e = B)
    (h : DataW.Trod enc P W 0 (fun _ => true) true t v d p) (hw : ∀ q ∈ d.weights P t, q ≤ R) : ∀ A n c, v = .slice A n c → n * B ≤ R ∧ (A = none → c = 0) := by
  rintro A n c rfl
  obtain ⟨fuel, hf⟩ := h
  rcases DataW.trod_slice ht hf with ⟨h0, _⟩ | ⟨a, len, cap, elems, rest, k, _, h0, hx, _, _, _, hlen, _⟩
  · simp only [Value.cells, List.cons.injEq, Value.slice.injEq, and_true] at h0
    obtain ⟨rfl, rfl, rfl⟩ := h0
    exact ⟨by simp, fun _ => rfl⟩
  · simp only [Value.cells, List.cons.injEq, Value.slice.injEq, and_true] at h0
    obtain ⟨rfl, rfl, rfl⟩ := h0
    obtain ⟨rfl, rfl⟩ := Prod.mk.inj hx
    have := hw ((elems.length + rest.length) * P.bytesOf e) (by simp [DataW.weights, ht])
    rw [hB] at this
    exact ⟨Nat.le_trans (Nat.mul_le_mul_right _ (by omega)) this, fun e => by cases e⟩
end

end Go.Proofs.Ytfkdohnpfjdehaa
