/-
  Contracts of the document's memory: NewMem, Frames, Read, Write, Zero, Word, PutWord.
-/
import Derived.Test.YtfkdohnpfjdehaaPhys2
import Derived.StillTailTactics
import Derived.Laws.OwnMore
import Derived.IntWalk
namespace Go.Proofs.Ytfkdohnpfjdehaa
open Go.RowKit
set_option linter.unusedVariables false
set_option maxRecDepth 100000

/-- 'make([]byte, n)'. -/
theorem make_u8 (w : World) (n : Nat) (hn : n ≤ 65536) : (Instr.makeSlice 60 (.int .i64 (n : Int)) (.int .i64 (n : Int))).run Try.prog w = .ok (.slice (some ⟨w.heap.size, 0, none⟩) n n) (w.alloc (.cells (bts (zeros n)).toArray 5)) := by
  have hi : (Try.prog.info? 5).map (fun i => (i.zero, i.size, i.bytes)) = some (some (.int .u8 0), 1, 1) := by kernel_rfl
  obtain ⟨i0, hi, hz0, hz1, hz2⟩ := info_parts hi
  have := run_makeSlice (P := Try.prog) w 60 5 i0 (.int .u8 0) Try.underlying60 hi hz0 .i64 .i64 n n (by omega) (by omega) (by rw [hz1]; omega) (by rw [hz2]; omega) (by omega)
  rw [this, Int.toNat_natCast, hz1, Nat.mul_one]
  have e : madeCells (Value.int .u8 0).cells n = (bts (zeros n)).toArray := by
    apply Array.toList_inj.1
    apply List.ext_getElem
    · simp [madeCells, bts, zeros]
    · intro i h1 h2
      simp [madeCells, bts, zeros, Value.cells, Nat.mod_one]
  rw [e]

/-- 's[a:a+n]' of a slice of bytes that is all of its row. -/
theorem sl_lh (w : World) (b len a n : Nat) (hn : a + n ≤ len) (hl : len ≤ 65536) : ∃ o, (n = 0 ∨ o = a) ∧ (Instr.slice 60 (.slice (some ⟨b, 0, none⟩) len len) (some (.int .i64 (a : Int))) (some (.int .i64 ((a : Int) + n))) none).run Try.prog w = .ok (.slice (some ⟨b, o, none⟩) n (len - a)) w := by
  have ht := Try.underlying60
  have he : Try.prog.elem 60 = 5 := by kernel_rfl
  have hz : (Go.sizeOf 5).run Try.prog w = .ok 1 w := by
    have hi : (Try.prog.info? 5).map (fun i => (i.zero, i.size, i.bytes)) = some (some (.int .u8 0), 1, 1) := by kernel_rfl
    obtain ⟨i0, hi, _, hz1, _⟩ := info_parts hi
    simp [Go.sizeOf, typeInfo, hi, hz1]
  rw [run_slice_lh w 60 _ _ _ (by rw [he]; exact ht) .i64 .i64 _ _ (by omega) (by omega) (by omega), he, hz]
  by_cases h : len = a
  · exact ⟨0, .inl (by omega), by simp [Result.andThen, sliced, h]; omega⟩
  · exact ⟨a, .inr rfl, by simp [Result.andThen, sliced, h, add_none]; omega⟩

theorem zero64_at (k : Nat) (h : k < 64) : zero64.getD k 0 = 0 := by
  unfold zero64
  rw [List.getD_eq_getElem?_getD, List.getElem?_replicate, if_pos h]
  rfl
end Go.Proofs.Ytfkdohnpfjdehaa
