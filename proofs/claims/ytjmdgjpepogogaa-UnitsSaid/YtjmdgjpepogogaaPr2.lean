/-
  Contracts of the document's Pending: Raise.
-/
import Derived.Test.YtjmdgjpepogogaaPr1
namespace Go.Proofs.Ytjmdgjpepogogaa
open Go.RowKit Go.ChangeMaps
set_option linter.unusedVariables false
set_option maxRecDepth 100000

theorem rraise_no (r n b : Nat) (F : Nat → Bool) (p d v : Int) (w : World) (h : RP w r n b F) (hb : (hP n p && isP d v) = false) :
    Calls Try.prog 51 #[.pointer (some ⟨r, 0, none⟩), .int .i64 p, .int .i64 d, .int .i64 v] w fun e w' => e = .returned (.tuple #[.bool false, .int .i64 1200]) ∧ w = w' := by
  have c0 := h.at0
  have hn4 := h.n4
  have hrl := h.blk.lt
  clear h
  have hcase : p < 0 ∨ (0 ≤ p ∧ (n : Int) ≤ p) ∨ (0 ≤ p ∧ p < n ∧ d < 0) ∨ (0 ≤ p ∧ p < n ∧ 0 ≤ d ∧ 4 ≤ d) ∨ (0 ≤ p ∧ p < n ∧ 0 ≤ d ∧ d < 4 ∧ v < 0) ∨ (0 ≤ p ∧ p < n ∧ 0 ≤ d ∧ d < 4 ∧ 0 ≤ v ∧ 8 ≤ v) := by
    unfold hP isP at hb; simp at hb; omega
  clear hb
  rcases hcase with h1 | ⟨h1, h2⟩ | ⟨h1, h2, h3⟩ | ⟨h1, h2, h3, h4⟩ | ⟨h1, h2, h3, h4, h5⟩ | ⟨h1, h2, h3, h4, h5, h6⟩
  all_goals
    go_enter Try.func51, Try.ntmps51
    go_wp2_with fail
    go_ret2
    exact ⟨rfl, rfl⟩

theorem rraise_yes (r n b : Nat) (F : Nat → Bool) (p d v : Nat) (w : World) (h : RP w r n b F) (hp : p < n) (hd : d < 4) (hv : v < 8) :
    Calls Try.prog 51 #[.pointer (some ⟨r, 0, none⟩), .int .i64 p, .int .i64 d, .int .i64 v] w fun e w' => e = .returned (.tuple #[.bool (!F (p * 32 + (d * 8 + v))), .int .i64 0]) ∧ RP w' r n b (putF F (p * 32 + (d * 8 + v))) ∧ w.grownBy w' (some b) := by
  have c0 := h.at0
  have hn4 := h.n4
  have hrl := h.blk.lt
  have hbl := h.row.lt
  have hc := h.cell p d v hp hd hv
  have hf := h.frozen (p * 32 + d * 8 + v)
  have hset := h.set (p * 32 + d * 8 + v) true
  have hg : w.grownBy (w.setCell ⟨b, p * 32 + d * 8 + v, none⟩ (.bool true)) (some b) := gone _
  have e1 : p * 32 + (d * 8 + v) = p * 32 + d * 8 + v := by omega
  have e2 : bitF F (p * 32 + d * 8 + v) true = putF F (p * 32 + d * 8 + v) := rfl
  rw [e2] at hset
  rw [e1]
  have HSET := Lib.hid hset
  have HG := Lib.hid hg
  clear e1 e2 h hset hg
  generalize F (p * 32 + d * 8 + v) = fb at *
  have i1 : (p : Int) < (n : Int) := by omega
  have i2 : (d : Int) < 4 := by omega
  have i3 : (v : Int) < 8 := by omega
  go_enter Try.func51, Try.ntmps51
  go_wp2_with fail
  go_ret2
  exact ⟨rfl, HSET.out, HG.out⟩
end Go.Proofs.Ytjmdgjpepogogaa
