/-
  Contracts of package sched: Delivers, Opens, Next.
-/
import Derived.Test.YtamhnnkmjhapmaaSch2
import Derived.BigRegion
import Derived.Deep.DeepCutAuto
namespace Go.Proofs.Ytamhnnkmjhapmaa
open Go.RowKit
set_option linter.unusedVariables false
set_option linter.unusedSimpArgs false
set_option maxRecDepth 100000

theorem tmod_pos {t m : Int} (h0 : 0 ≤ t) (h1 : 1 ≤ m) (h2 : m ≤ 64) : IntKind.i64.wrap (t.tmod m) = t % m ∧ 0 ≤ t % m ∧ t % m < m ∧ t.tmod m = t % m := by
  have e : t.tmod m = t % m := Int.tmod_eq_emod_of_nonneg h0
  have a := Int.emod_nonneg t (show m ≠ 0 by omega)
  have b := Int.emod_lt_of_pos t (show 0 < m by omega)
  rw [e]
  exact ⟨IntWalk.i64_in _ (by omega), a, b, rfl⟩

theorem ask_nums {l : List Win} {m t : Int} (h : askW l m t = true) : 0 ≤ t ∧ t ≤ 1048575 ∧ 1 ≤ m ∧ m ≤ 64 := by
  unfold askW at h
  rw [Bool.and_eq_true, decide_eq_true_eq] at h
  have := (mayW_all h.2).1
  exact ⟨h.1.1, h.1.2, this.1, this.2.1⟩

end Go.Proofs.Ytamhnnkmjhapmaa
