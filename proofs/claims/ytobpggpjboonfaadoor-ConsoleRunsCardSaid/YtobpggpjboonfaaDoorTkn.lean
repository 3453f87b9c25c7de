/-
  A drawn region by hand, one operation a line: tky i (it yields), tkn i (its place's guard says no).
-/
import Derived.Deep.RegionHeld3
import Derived.Test.YtobpggpjboonfaaDoorPlain
namespace Go.Proofs.YtobpggpjboonfaaDoor
open Go
set_option linter.unusedVariables false
section
variable {P : Program} {md : Region.Mode} {ops : Array Oper} {Q : Exit → Act → World → Prop} {S : World → Prop} {fuel : Nat} {listed l' : Array Bool} {a a' : Act} {w : World} {oi : Oper} {v : Value}
theorem tky (i : Nat) (h : wpAnyH P md ops Q S fuel l' a' w)
    (hi : ops[i]? = some oi := by rfl) (hs : Region.noSelect ops = true := by kernel_rfl) (hf : Region.free md ops listed i = true := by kernel_rfl) (hr : (Region.ready md ops listed).contains i = true := by kernel_rfl)
    (hy : YieldsIf P ops S oi v a := by
      refine Or.inl ⟨by rfl, ?_⟩
      intro w hSw
      (try dsimp only at hSw)
      first | (go_simp; done) | (go_simp; with_reducible rfl))
    (hQ : ∀ c a w, Q (.panic c) (a.put oi.dst v) w → Q (.panic c) a w := by exact fun _ _ _ h => h)
    (hS : S w := by assumption)
    (hl : listed.setIfInBounds i true = l' := by
      (try simp only [List.setIfInBounds_toArray, List.set_cons_zero, List.set_cons_succ])
      exact rfl)
    (ha : a.put oi.dst v = a' := by
      (try simp only [Act.put, List.getElem_toArray, List.getElem_cons_succ, List.getElem_cons_zero, List.setIfInBounds_toArray, List.set_cons_zero, List.set_cons_succ])
      exact rfl) : wpAnyH P md ops Q S (fuel + 1) listed a w := by
  subst hl ha; exact wpAnyH_take hi hs hf hr hQ hy hS h
theorem tkn (i : Nat) (h : wpAnyH P md ops Q S fuel l' a' w)
    (hi : ops[i]? = some oi := by rfl) (hs : Region.noSelect ops = true := by kernel_rfl) (hf : Region.free md ops listed i = true := by kernel_rfl) (hr : (Region.ready md ops listed).contains i = true := by kernel_rfl)
    (hy : YieldsIf P ops S oi undef a := by exact Or.inr ⟨by rfl, rfl⟩)
    (hQ : ∀ c a w, Q (.panic c) (a.put oi.dst undef) w → Q (.panic c) a w := by exact fun _ _ _ h => h)
    (hS : S w := by assumption)
    (hl : listed.setIfInBounds i true = l' := by
      (try simp only [List.setIfInBounds_toArray, List.set_cons_zero, List.set_cons_succ])
      exact rfl)
    (ha : a.put oi.dst undef = a' := by
      (try simp only [Act.put, List.getElem_toArray, List.getElem_cons_succ, List.getElem_cons_zero, List.setIfInBounds_toArray, List.set_cons_zero, List.set_cons_succ])
      exact rfl) : wpAnyH P md ops Q S (fuel + 1) listed a w := by
  subst hl ha; exact wpAnyH_take hi hs hf hr hQ hy hS h
end
end Go.Proofs.YtobpggpjboonfaaDoor
