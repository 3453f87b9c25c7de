/-
  Which function a method called through an interface is, where the interface holds a pointer to the row.
-/
import Derived.Test.YtjmdgjpepogogaaMem
import Derived.Test.YtjmdgjpepogogaaChecked
namespace Go.Proofs.Ytjmdgjpepogogaa
open Go.RowKit
set_option linter.unusedVariables false
set_option maxRecDepth 100000

theorem meth_get {P : Program} {t : TypeId} {name : String} {p : List FieldStep} {q : Option (FuncId × Bool)} (h : (P.info? t).map (fun i => (i.methods.find? (fun m => m.name == name)).map (fun m => (m.path.toList, m.func))) = some (some (p, q))) :
    ∃ i m, P.info? t = some i ∧ i.methods.find? (fun m => m.name == name) = some m ∧ m.path = p.toArray ∧ m.func = q := by
  cases hi : P.info? t with
  | none => rw [hi] at h; cases h
  | some i =>
    rw [hi] at h
    simp only [Option.map_some, Option.some.injEq] at h
    cases hm : i.methods.find? (fun m => m.name == name) with
    | none => rw [hm] at h; cases h
    | some m =>
      rw [hm] at h
      simp only [Option.map_some, Option.some.injEq, Prod.mk.injEq] at h
      exact ⟨i, m, rfl, hm, by rw [← h.1], h.2⟩

/-- A method of the row itself: the row is loaded. -/
theorem meth_val (name : String) (f : FuncId) (h : (Try.prog.info? 124).map (fun i => (i.methods.find? (fun m => m.name == name)).map (fun m => (m.path.toList, m.func))) = some (some ([], some (f, false))))
    (a : Addr) (v : Value) (w : World) (hc : w.cell? a = some v) : ∀ F, 0 < F → (method F 124 (.pointer (some a)) name).run Try.prog w = .ok (f, v) w := by
  intro F hF
  obtain ⟨F, rfl⟩ : ∃ k, F = k + 1 := ⟨F - 1, by omega⟩
  obtain ⟨i, m, h1, h2, h3, h4⟩ := meth_get h
  have hs : ∀ ty x, (Builtin.ssaWrapNilChk_ #[ty] ty #[.pointer (some a), strVal "", strVal x]).run Try.prog w = .ok (.pointer (some a)) w := fun _ _ => rfl
  simp [method, typeInfo, go_sem, h1, h2, h3, h4, follow, receiverAt, Place.get, hs, loadVar, hc]
/-- A method of the pointer. -/
theorem meth_ptr (name : String) (f : FuncId) (h : (Try.prog.info? 124).map (fun i => (i.methods.find? (fun m => m.name == name)).map (fun m => (m.path.toList, m.func))) = some (some ([], some (f, true))))
    (a : Addr) (w : World) : ∀ F, 0 < F → (method F 124 (.pointer (some a)) name).run Try.prog w = .ok (f, .pointer (some a)) w := by
  intro F hF
  obtain ⟨F, rfl⟩ : ∃ k, F = k + 1 := ⟨F - 1, by omega⟩
  obtain ⟨i, m, h1, h2, h3, h4⟩ := meth_get h
  simp [method, typeInfo, go_sem, h1, h2, h3, h4, follow, receiverAt, Place.get]

theorem meth_len {a : Addr} {v : Value} {w : World} (hc : w.cell? a = some v) : ∀ F, 0 < F → (method F 124 (.pointer (some a)) "Len").run Try.prog w = .ok (94, v) w := meth_val _ _ (by kernel_rfl) a v w hc
theorem meth_less {a : Addr} {v : Value} {w : World} (hc : w.cell? a = some v) : ∀ F, 0 < F → (method F 124 (.pointer (some a)) "Less").run Try.prog w = .ok (95, v) w := meth_val _ _ (by kernel_rfl) a v w hc
theorem meth_swap {a : Addr} {v : Value} {w : World} (hc : w.cell? a = some v) : ∀ F, 0 < F → (method F 124 (.pointer (some a)) "Swap").run Try.prog w = .ok (96, v) w := meth_val _ _ (by kernel_rfl) a v w hc
theorem meth_push (a : Addr) (w : World) : ∀ F, 0 < F → (method F 124 (.pointer (some a)) "Push").run Try.prog w = .ok (98, .pointer (some a)) w := meth_ptr _ _ (by kernel_rfl) a w
theorem meth_pop (a : Addr) (w : World) : ∀ F, 0 < F → (method F 124 (.pointer (some a)) "Pop").run Try.prog w = .ok (97, .pointer (some a)) w := meth_ptr _ _ (by kernel_rfl) a w
end Go.Proofs.Ytjmdgjpepogogaa
