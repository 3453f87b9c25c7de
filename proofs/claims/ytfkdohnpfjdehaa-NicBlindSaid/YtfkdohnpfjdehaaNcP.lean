/-
  Layer 20, plain words: what Send, Receive, Queue, Dropped answer and leave. No Go function here.
-/
import Derived.Test.YtfkdohnpfjdehaaNc0
namespace Go.Proofs.Ytfkdohnpfjdehaa
open Go.RowKit
set_option linter.unusedVariables false
set_option maxRecDepth 100000

/-- What a queue has, and how many are only counted, behind one message more. -/
def adQ (Q : Nat → List Ms) (p : Nat) (m : Ms) : Nat → List Ms := if (Q p).length < 8 then upF Q p (Q p ++ [m]) else Q
def adD (Q : Nat → List Ms) (D : Nat → Int) (p : Nat) : Nat → Int := if (Q p).length < 8 then D else iF D p (min (D p + 1) 65535)

/-- Send: the error; the queues then; the counts then. -/
def nsB (ls : List (Int × Int)) (a b : Int) (n : Nat) : Bool := inP ls.length a && inP ls.length b && decide (1 ≤ n ∧ n ≤ 32)
def nsL (ls : List (Int × Int)) (a b : Int) : Bool := lD (labL ls b.toNat) (labC ls b.toNat) (labL ls a.toNat) (labC ls a.toNat)
def nsC (ls : List (Int × Int)) (a b : Int) (n : Nat) : Int := if nsB ls a b n then (if nsL ls a b then 0 else 2001) else 2000
def nsQ (ls : List (Int × Int)) (Q : Nat → List Ms) (a b : Int) (s : List UInt8) : Nat → List Ms := if nsC ls a b s.length = 0 then adQ Q b.toNat ⟨a, s⟩ else Q
def nsD (ls : List (Int × Int)) (Q : Nat → List Ms) (D : Nat → Int) (a b : Int) (n : Nat) : Nat → Int := if nsC ls a b n = 0 then adD Q D b.toNat else D
/-- Receive: the error; the message; the queues then. -/
def nrC (ls : List (Int × Int)) (Q : Nat → List Ms) (p : Int) : Int := if inP ls.length p then (if (Q p.toNat).length = 0 then 2002 else 0) else 2000
def nrM (ls : List (Int × Int)) (Q : Nat → List Ms) (p : Int) : Ms := if inP ls.length p then (Q p.toNat).headD ⟨0, []⟩ else ⟨0, []⟩
def nrQ (ls : List (Int × Int)) (Q : Nat → List Ms) (p : Int) : Nat → List Ms := if inP ls.length p then upF Q p.toNat (Q p.toNat).tail else Q
/-- Queue, Dropped. -/
def nqX (ls : List (Int × Int)) (Q : Nat → List Ms) (p : Int) : List Ms := if inP ls.length p then Q p.toNat else []
def ndX (ls : List (Int × Int)) (D : Nat → Int) (p : Int) : Int := if inP ls.length p then D p.toNat else 0

/-- Several messages, two cells each. -/
def mss (q : List Ms) : List Value := q.flatMap mcs
theorem mss_len (q : List Ms) : (mss q).length = q.length * 2 := by
  induction q with
  | nil => rfl
  | cons m q ih => show (mcs m ++ mss q).length = _; rw [List.length_append, ih, List.length_cons]; show 2 + _ = _; omega
theorem mss_append (q r : List Ms) : mss (q ++ r) = mss q ++ mss r := by simp [mss, List.flatMap_append]
theorem mss_one (m : Ms) : mss [m] = mcs m := by simp [mss]
theorem mss_cons (m : Ms) (q : List Ms) : mss (m :: q) = mcs m ++ mss q := rfl
theorem mcs_one (m : Ms) : ∀ u ∈ mcs m, u.oneCell' = true := by
  intro u hu
  simp only [mcs, List.mem_cons, List.not_mem_nil, or_false] at hu
  rcases hu with rfl | rfl <;> rfl
theorem mss_oneCell (q : List Ms) : ∀ u ∈ mss q, u.oneCell' = true := by
  intro u hu
  obtain ⟨m, _, h⟩ := List.mem_flatMap.1 hu
  exact mcs_one m u h
theorem mss_get (q : List Ms) (i : Nat) (h : i < q.length) : (mss q)[i * 2]? = some (.int .i64 q[i].f) ∧ (mss q)[i * 2 + 1]? = some (.string (str q[i].s)) := by
  induction q generalizing i with
  | nil => cases h
  | cons m q ih =>
    cases i with
    | zero => exact ⟨rfl, rfl⟩
    | succ i =>
      have := ih i (by simpa using h)
      rw [mss_cons, show (i + 1) * 2 = i * 2 + 1 + 1 by omega]
      exact this
theorem upF_self {α : Type} (F : Nat → α) (k : Nat) : upF F k (F k) = F := by funext i; unfold upF; split; (next h => rw [h]); rfl

end Go.Proofs.Ytfkdohnpfjdehaa
