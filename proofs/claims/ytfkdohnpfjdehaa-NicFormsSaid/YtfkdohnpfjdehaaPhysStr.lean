/-
  Layer 3: what a call on a memory answers where it refuses, and where it does not; strings made of bytes.
-/
import Derived.Test.YtfkdohnpfjdehaaPhysAwake
namespace Go.Proofs.Ytfkdohnpfjdehaa
open Go.RowKit
set_option linter.unusedVariables false
set_option maxRecDepth 100000

theorem wr_none (l : List UInt8) (a : Int) (s : ByteArray) (h : ¬ (0 ≤ a ∧ a ≤ l.length ∧ (s.size : Int) ≤ l.length - a)) : wrL l a s.data.toList = l ∧ errC (mayB a s.size l.length) = 300 := by
  have hs : mayB a s.size l.length = false := decide_eq_false (by omega)
  have hs' : mayB a s.data.toList.length l.length = false := by rw [list_len]; exact hs
  constructor
  · unfold wrL; rw [hs']; rfl
  · rw [hs]; rfl
theorem rd_none (l : List UInt8) (a n : Int) (h : ¬ (0 ≤ a ∧ 0 ≤ n ∧ a ≤ l.length ∧ n ≤ l.length - a)) : str (rdL l a n) = ⟨#[]⟩ ∧ errC (mayB a n l.length) = 300 := by
  have hs : mayB a n l.length = false := decide_eq_false h
  constructor
  · unfold rdL; rw [hs]; rfl
  · rw [hs]; rfl
theorem pw_none (l : List UInt8) (a x : Int) (h : ¬ (0 ≤ a ∧ a % 4 = 0 ∧ a + 4 ≤ l.length ∧ 0 ≤ x ∧ x ≤ 4294967295)) : pwL l a x = l ∧ errC (pwB l.length a x) = 300 := by
  have hs : pwB l.length a x = false := decide_eq_false h
  constructor
  · unfold pwL; rw [hs]; rfl
  · rw [hs]; rfl
theorem wd_none (l : List UInt8) (a : Int) (h : ¬ (0 ≤ a ∧ a % 4 = 0 ∧ a + 4 ≤ l.length)) : wdN l a = 0 ∧ errC (wdB l.length a) = 300 := by
  have hs : wdB l.length a = false := decide_eq_false h
  constructor
  · unfold wdN; rw [hs]; rfl
  · rw [hs]; rfl
theorem ze_none (l : List UInt8) (f : Int) (h : ¬ (0 ≤ f ∧ 64 * f < l.length)) : zeL l f = l ∧ errC (zeB l.length f) = 300 := by
  have hs : zeB l.length f = false := decide_eq_false h
  constructor
  · unfold zeL; rw [hs]; rfl
  · rw [hs]; rfl

theorem ze_yes (l : List UInt8) (f : Nat) (h : 64 * f < l.length) : zeL l f = put l (64 * f) zero64 ∧ errC (zeB l.length f) = 0 := by
  have hs : zeB l.length f = true := decide_eq_true (by omega)
  constructor
  · unfold zeL; rw [hs, if_pos rfl, Int.toNat_natCast]
  · rw [hs]; rfl
/-- What is written all over. -/
theorem wr_all (l s : List UInt8) (h : s.length = l.length) : wrL l 0 s = s ∧ errC (mayB 0 (s.length : Nat) l.length) = 0 := by
  have hs : mayB 0 s.length l.length = true := decide_eq_true (by omega)
  constructor
  · unfold wrL
    rw [hs, if_pos rfl, Int.toNat_zero]
    simp [put, h]
  · rw [hs]; rfl
theorem wr_yes (l : List UInt8) (a : Nat) (s : ByteArray) (h : a + s.size ≤ l.length) : wrL l a s.data.toList = put l a s.data.toList ∧ errC (mayB a s.size l.length) = 0 := by
  have hs : mayB a s.size l.length = true := decide_eq_true (by omega)
  have hs' : mayB a s.data.toList.length l.length = true := by rw [list_len]; exact hs
  constructor
  · unfold wrL; rw [hs', if_pos rfl, Int.toNat_natCast]
  · rw [hs]; rfl
theorem rd_yes (l : List UInt8) (a n : Nat) (h : a + n ≤ l.length) : rdL l a n = (l.drop a).take n ∧ errC (mayB a n l.length) = 0 := by
  have hs : mayB a n l.length = true := decide_eq_true (by omega)
  constructor
  · unfold rdL; rw [hs, if_pos rfl, Int.toNat_natCast, Int.toNat_natCast]
  · rw [hs]; rfl
theorem put_mid (l : List UInt8) (a : Nat) (s : List UInt8) (h : a + s.length ≤ l.length) : ((put l a s).drop a).take s.length = s := by
  have e : (l.take a).length = a := by rw [List.length_take]; omega
  unfold put
  rw [List.append_assoc, List.drop_append_of_le_length (by omega), List.drop_of_length_le (by omega), List.nil_append, List.take_left]
theorem put_str (l : List UInt8) (a : Nat) (s : ByteArray) : (str l).extract 0 a ++ s ++ (str l).extract (a + s.size) l.length = str (put l a s.data.toList) := by
  apply ByteArray.ext
  apply Array.toList_inj.1
  simp [put, str]
  exact List.take_of_length_le (by simp)

/-- A slice of one byte, as a string. -/
theorem one_str (W : World) (V : Int) (y : UInt8) (h : V = (y.toNat : Int)) : (convert 60 9 (.slice (some ⟨W.heap.size, 0, none⟩) 1 1)).run Try.prog (W.alloc (.cells #[.int .u8 V] 5)) = .ok (.string (str [y])) (W.alloc (.cells #[.int .u8 V] 5)) := by
  subst h
  have hb := Blk.new W 5 (bts [y])
  exact conv_str (w := W.alloc (.cells (bts [y]).toArray 5)) W.heap.size 0 1 [y] (fun i hi => by rw [hb.cell, Nat.zero_add, bts_get _ i hi])

theorem make_str (W : World) (n : Nat) (hn : n ≤ 65536) : (convert 60 9 (.slice (some ⟨W.heap.size, 0, none⟩) n n)).run Try.prog (W.alloc (.cells (bts (zeros n)).toArray 5)) = .ok (.string (str (zeros n))) (W.alloc (.cells (bts (zeros n)).toArray 5)) := by
  have hb := Blk.new W 5 (bts (zeros n))
  have := conv_str (w := W.alloc (.cells (bts (zeros n)).toArray 5)) W.heap.size 0 n (zeros n) (fun i hi => by rw [hb.cell, Nat.zero_add, bts_get _ i hi])
  rw [zeros_len] at this
  exact this

end Go.Proofs.Ytfkdohnpfjdehaa
