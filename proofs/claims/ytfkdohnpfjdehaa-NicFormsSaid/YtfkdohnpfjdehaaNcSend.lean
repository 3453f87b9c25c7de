/-
  Layer 20, plain words: the ways of a Send and of a Receive. (Out of Nc3.) No Go function here.
-/
import Derived.Test.YtfkdohnpfjdehaaNcP
namespace Go.Proofs.Ytfkdohnpfjdehaa
open Go.RowKit
set_option linter.unusedVariables false
set_option maxRecDepth 100000

theorem nsend_ways (ls : List (Int × Int)) (a b : Int) (n : Nat) : (inP ls.length a = false ∧ nsC ls a b n = 2000) ∨ (inP ls.length a = true ∧ inP ls.length b = false ∧ nsC ls a b n = 2000) ∨ (inP ls.length a = true ∧ inP ls.length b = true ∧ n < 1 ∧ nsC ls a b n = 2000) ∨
    (inP ls.length a = true ∧ inP ls.length b = true ∧ 1 ≤ n ∧ 32 < n ∧ nsC ls a b n = 2000) ∨ (inP ls.length a = true ∧ inP ls.length b = true ∧ 1 ≤ n ∧ n ≤ 32 ∧ nsL ls a b = false ∧ nsC ls a b n = 2001) ∨ (inP ls.length a = true ∧ inP ls.length b = true ∧ 1 ≤ n ∧ n ≤ 32 ∧ nsL ls a b = true ∧ nsC ls a b n = 0) := by
  unfold nsC nsB
  cases inP ls.length a
  · exact .inl ⟨rfl, by simp⟩
  cases inP ls.length b
  · exact .inr (.inl ⟨rfl, rfl, by simp⟩)
  by_cases h1 : n < 1
  · exact .inr (.inr (.inl ⟨rfl, rfl, h1, by rw [if_neg]; simp; omega⟩))
  by_cases h2 : 32 < n
  · exact .inr (.inr (.inr (.inl ⟨rfl, rfl, by omega, h2, by rw [if_neg]; simp; omega⟩)))
  have e : (true && true && decide (1 ≤ n ∧ n ≤ 32)) = true := by simp; omega
  rw [e, if_pos rfl]
  cases nsL ls a b
  · exact .inr (.inr (.inr (.inr (.inl ⟨rfl, rfl, by omega, by omega, rfl, rfl⟩))))
  · exact .inr (.inr (.inr (.inr (.inr ⟨rfl, rfl, by omega, by omega, rfl, rfl⟩))))

theorem nrecv_ways (ls : List (Int × Int)) (Q : Nat → List Ms) (p : Int) : (inP ls.length p = false ∧ nrC ls Q p = 2000 ∧ nrM ls Q p = ⟨0, []⟩ ∧ nrQ ls Q p = Q) ∨ (∃ k : Nat, p = k ∧ k < ls.length ∧ Q k = [] ∧ nrC ls Q p = 2002 ∧ nrM ls Q p = ⟨0, []⟩ ∧ nrQ ls Q p = Q) ∨
    (∃ (k : Nat) (m : Ms) (q : List Ms), p = k ∧ k < ls.length ∧ Q k = m :: q ∧ nrC ls Q p = 0 ∧ nrM ls Q p = m ∧ nrQ ls Q p = upF Q k q) := by
  cases h : inP ls.length p
  · refine .inl ⟨rfl, ?_, ?_, ?_⟩
    · unfold nrC; rw [h]; rfl
    · unfold nrM; rw [h]; rfl
    · unfold nrQ; rw [h]; rfl
  · obtain ⟨k, rfl, hk⟩ := (inP_iff _ _).1 h
    have e1 : nrC ls Q k = if (Q k).length = 0 then 2002 else 0 := by unfold nrC; rw [h, if_pos rfl, Int.toNat_natCast]
    have e2 : nrM ls Q k = (Q k).headD ⟨0, []⟩ := by unfold nrM; rw [h, if_pos rfl, Int.toNat_natCast]
    have e3 : nrQ ls Q k = upF Q k (Q k).tail := by unfold nrQ; rw [h, if_pos rfl, Int.toNat_natCast]
    rw [e1, e2, e3]
    by_cases hq : Q k = []
    · exact .inr (.inl ⟨k, rfl, hk, hq, by rw [hq]; rfl, by rw [hq]; rfl, by rw [hq, List.tail_nil, ← hq, upF_self]⟩)
    · obtain ⟨m, q, hm⟩ : ∃ m q, Q k = m :: q := List.exists_cons_of_ne_nil hq
      exact .inr (.inr ⟨k, m, q, rfl, hk, hm, by rw [hm]; rfl, by rw [hm]; rfl, by rw [hm]; rfl⟩)

end Go.Proofs.Ytfkdohnpfjdehaa
