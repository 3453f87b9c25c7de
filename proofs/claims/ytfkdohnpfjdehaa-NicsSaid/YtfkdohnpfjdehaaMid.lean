/-
  A struct or an array by value, in the midst of a block: stored by an equation of the run, loaded in a region that draws its order. No Go function here.
-/
import Derived.Test.YtfkdohnpfjdehaaMem
import Derived.Deep.MidRow
import Derived.StillTailTactics
namespace Go.Proofs.Ytfkdohnpfjdehaa
open Go.RowKit
set_option linter.unusedVariables false
set_option maxRecDepth 100000

/-- A load of a whole struct, in a region that draws its order ('go_still_tail'). -/
theorem wpStill_load_mid {P : Program} {ops : Array Oper} {w : World} {Q : Act → Prop} {op : Oper} {rest : List Oper} {a : Act} (hw : Region.wanted op (yielded ops a.tmps) = true) (ty : TypeId) (x : Operand) (ho : op.op = .load ty x)
    (b o : Nat) (hx : a.eval x = .pointer (some ⟨b, o, none⟩)) (cs : List Value) (d : TypeDesc) (hS : w.rangeAt b o cs)
    (hu : P.underlying ty = some d) (hd : d.isRow = true) (hi : (P.info? ty).map (·.size) = some cs.length) (h : wpStill P ops w Q rest (a.put op.dst (.agg cs.toArray))) : wpStill P ops w Q (op :: rest) a := by
  refine wpStill_step (fun K hK => ?_)
  have hv : (execOp a.eval op).run P w = .ok (.value (.agg cs.toArray)) w := by
    unfold execOp
    simp only [ho, hx, Instr.loadAt, Instr.sureAddr, Sem.run_bind, Sem.run_pure, Result.andThen_ok, run_loadVar_mid w b o ty cs d hS hu hd hi]
  rw [if_pos hw]
  unfold Oper.still
  rw [hv, Oper.stillUpon_value]
  exact hK _ h

theorem Blk.mid {w : World} {b : Nat} {t : TypeId} {cs : List Value} (h : Blk w b t cs) : w.rangeAt b 0 cs := fun j v hj => by rw [Nat.zero_add, h.cell]; exact hj
/-- Cells written over some of a block's. -/
theorem Blk.over {P : Program} {w : World} {b : Nat} {t : TypeId} {cs : List Value} (h : Blk w b t cs) (o : Nat) (C : List Value) (hl : o + C.length ≤ cs.length) (h1 : ∀ u ∈ C, u.oneCell' = true) :
    ∃ w1, Sem.run P (storeCells ⟨b, o, none⟩ C) w = .ok () w1 ∧ Blk w1 b t (cs.take o ++ C ++ cs.drop (o + C.length)) ∧ w.grownBy w1 (some b) := by
  have := run_storeCells_at P b o t C 0 cs.toArray w h (by simpa using hl) h1
  simp only [Nat.add_zero] at this
  exact ⟨_, this, h.row _, grown_setRow _ _ _⟩
theorem Blk.over0 {P : Program} {w : World} {b : Nat} {t : TypeId} {cs : List Value} (h : Blk w b t cs) (C : List Value) (hl : C.length = cs.length) (h1 : ∀ u ∈ C, u.oneCell' = true) :
    ∃ w1, Sem.run P (storeCells ⟨b, 0, none⟩ C) w = .ok () w1 ∧ Blk w1 b t C ∧ w.grownBy w1 (some b) := by
  obtain ⟨w1, a1, a2, a3⟩ := h.over (P := P) 0 C (by omega) h1
  refine ⟨w1, a1, ?_, a3⟩
  rw [List.take_zero, List.nil_append, Nat.zero_add, hl, List.drop_length, List.append_nil] at a2
  exact a2
theorem Blk.same {w : World} {b : Nat} {t t' : TypeId} {cs cs' : List Value} (h : Blk w b t cs) (h' : Blk w b t' cs') : cs' = cs := by
  have h1 : w.heap[b]? = _ := h
  have h2 : w.heap[b]? = _ := h'
  rw [h1] at h2
  simp only [Option.some.injEq, Obj.cells.injEq] at h2
  exact (congrArg Array.toList h2.1).symm

end Go.Proofs.Ytfkdohnpfjdehaa
