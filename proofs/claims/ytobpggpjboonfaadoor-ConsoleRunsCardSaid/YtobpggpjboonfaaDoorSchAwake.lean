/-
  Contracts of layer 10 whose answers are known; the contract of its awake: it answers true, whatever the world.
-/
import Derived.Test.YtobpggpjboonfaaDoorSch3
namespace Go.Proofs.YtobpggpjboonfaaDoor
open Go.RowKit
set_option linter.unusedVariables false
set_option linter.unusedSimpArgs false
set_option maxRecDepth 100000

/-- A slice of windows that the calls may be asked about. -/
structure Ws (w : World) (v : Value) (n : Nat) (l : List Win) : Prop where
  sl : Sl w v n 4 (ints (wins l))
  len : l.length = n
  big : n ≤ maxLen
  in64 : ∀ x ∈ l, W64 x
theorem Ws.below {w w' : World} {v : Value} {n : Nat} {l : List Win} (h : Ws w v n l) (hb : Below w.heap.size w w') : Ws w' v n l := ⟨h.sl.below hb, h.len, h.big, h.in64⟩
theorem Ws.form {w : World} {v : Value} {n : Nat} {l : List Win} (h : Ws w v n l) : ∃ A cap, v = .slice A n cap := by obtain ⟨A, c, e, _⟩ := h.sl; exact ⟨A, c, e⟩
theorem Ws.drew {w : World} {v : Value} {n : Nat} {l : List Win} (h : Ws w v n l) : Ws w.drew v n l := ⟨h.sl.drewN 1, h.len, h.big, h.in64⟩

section
variable {v : Value} {n : Nat} {l : List Win} {w : World}
theorem may_ws (h : Ws w v n l) (m p : Int) (b : Bool) (hb : mayW l m p = b) :
    Calls Tryd.prog 76 #[v, .int .i64 m, .int .i64 p] w fun e w' => e = .returned (.bool b) ∧ Below w.heap.size w w' := by
  obtain ⟨A, c, rfl⟩ := h.form; subst hb; exact pmay_any A n c l m p w h.sl h.big h.len h.in64
theorem nxt_ws (h : Ws w v n l) (m p t : Int) (a c : Int) (ha : nxtN l m p t = a) (hc : nxtC l m p t = c) :
    Calls Tryd.prog 53 #[v, .int .i64 m, .int .i64 p, .int .i64 t] w fun e w' => e = .returned (.tuple #[.int .i64 a, .int .i64 c]) ∧ Below w.heap.size w w' := by
  obtain ⟨A, c, rfl⟩ := h.form; subst ha hc; exact pnxt_any A n _ l m p t w h.sl h.big h.len h.in64
end

/-- The windows that awake asks about. -/
def wsA : List Win := [⟨1, 2, 3, 3⟩, ⟨0, 0, 2, 0⟩]
theorem wsA_in : ∀ x ∈ wsA, W64 x := by intro x hx; simp only [wsA, List.mem_cons, List.not_mem_nil, or_false] at hx; rcases hx with rfl | rfl <;> (unfold W64; simp)
theorem wsA_lit (w : World) : Ws (w.alloc (.cells #[.int .i64 1, .int .i64 2, .int .i64 3, .int .i64 3, .int .i64 0, .int .i64 0, .int .i64 2, .int .i64 0] 71)) (.slice (some ⟨w.heap.size, 0, none⟩) 2 2) 2 wsA :=
  ⟨Sl.lit w (ints (wins wsA)) 2 4 _ rfl, rfl, by unfold maxLen; omega, wsA_in⟩

end Go.Proofs.YtobpggpjboonfaaDoor
