/-
  Plain words of layer 3: a memory's bytes as a list; a memory in memory, the program's and the document's. No Go function here.
-/
import Derived.Test.YtggdbiniklchoaaMem
import Derived.Test.YtggdbiniklchoaaChecked
import Derived.Lib.BufferWrite
import Derived.Lib.SlBytesRow
import Derived.Lib.SliceRun
import Derived.Laws.CopyRow
import Derived.Test.YtggdbiniklchoaaMay
import Derived.StillTailTactics
import Derived.Laws.OwnMore
import Derived.IntWalk
import Derived.Test.YtggdbiniklchoaaNum
namespace Go.Proofs.Ytggdbiniklchoaa
open Go.RowKit
set_option linter.unusedVariables false
set_option maxRecDepth 100000

/-- The cells of bytes. -/
def bts (l : List UInt8) : List Value := l.map fun b => Value.int .u8 (b.toNat : Int)
theorem bts_len (l : List UInt8) : (bts l).length = l.length := by simp [bts]
theorem bts_append (a b : List UInt8) : bts (a ++ b) = bts a ++ bts b := by simp [bts]
theorem bts_take (l : List UInt8) (k : Nat) : (bts l).take k = bts (l.take k) := by simp [bts]
theorem bts_drop (l : List UInt8) (k : Nat) : (bts l).drop k = bts (l.drop k) := by simp [bts]
theorem bts_get (l : List UInt8) (k : Nat) (h : k < l.length) : (bts l)[k]? = some (.int .u8 ((l.getD k 0).toNat : Int)) := by
  simp [bts, List.getD, List.getElem?_eq_getElem h]

/-- A list with s put at a. -/
def put (l : List UInt8) (a : Nat) (s : List UInt8) : List UInt8 := l.take a ++ s ++ l.drop (a + s.length)
theorem put_len (l : List UInt8) (a : Nat) (s : List UInt8) (h : a + s.length ≤ l.length) : (put l a s).length = l.length := by simp [put]; omega
theorem put_nil (l : List UInt8) (a : Nat) : put l a [] = l := by simp [put]
theorem put_step (l : List UInt8) (a : Nat) (s : List UInt8) (k : Nat) (hk : k < s.length) (h : a + s.length ≤ l.length) (x : UInt8) (hx : s.getD k 0 = x) : (put l a (s.take k)).set (a + k) x = put l a (s.take (k + 1)) := by
  have hx' : s[k]? = some x := by rw [← hx]; simp [List.getD, List.getElem?_eq_getElem hk]
  have e1 : min a l.length = a := by omega
  have e2 : min k s.length = k := by omega
  have hA : (l.take a ++ s.take k).length = a + k := by rw [List.length_append, List.length_take, List.length_take, e1, e2]
  unfold put
  rw [List.length_take, List.length_take, e2, show min (k + 1) s.length = k + 1 by omega, List.set_append_right _ _ (by omega), hA, Nat.sub_self, List.take_add_one, hx']
  have hd : l.drop (a + k) = l[a + k]'(by omega) :: l.drop (a + (k + 1)) := by rw [List.drop_eq_getElem_cons (by omega)]; rfl
  rw [hd, List.set_cons_zero]
  simp
theorem bts_put (l : List UInt8) (a : Nat) (s : List UInt8) : bts (put l a s) = (bts l).take a ++ bts s ++ (bts l).drop (a + s.length) := by
  simp [put, bts_append, bts_take, bts_drop]

/-- The string of bytes. -/
def str (l : List UInt8) : ByteArray := ⟨l.toArray⟩
theorem str_size (l : List UInt8) : (str l).size = l.length := by simp [str, ByteArray.size]
theorem str_list (l : List UInt8) : (str l).data.toList = l := by simp [str]
theorem str_of (s : ByteArray) : str s.data.toList = s := by
  apply ByteArray.ext
  show s.data.toList.toArray = s.data
  exact Array.toArray_toList ..
theorem list_len (s : ByteArray) : s.data.toList.length = s.size := Array.length_toList
theorem str_append (a b : List UInt8) : str a ++ str b = str (a ++ b) := by
  apply ByteArray.ext
  rw [ByteArray.data_append]
  exact List.append_toArray ..

/-- May n bytes from a on be reached, where there are s? -/
def mayB (a n s : Int) : Bool := decide (0 ≤ a ∧ 0 ≤ n ∧ a ≤ s ∧ n ≤ s - a)
def errC (b : Bool) : Int := if b then 0 else 300
theorem errC_or (b : Bool) : errC b = 0 ∨ errC b = 300 := by cases b <;> simp [errC]
def wrL (l : List UInt8) (a : Int) (s : List UInt8) : List UInt8 := if mayB a s.length l.length then put l a.toNat s else l
theorem wrL_len (l : List UInt8) (a : Int) (s : List UInt8) : (wrL l a s).length = l.length := by
  unfold wrL; split
  · rename_i h
    simp only [mayB, decide_eq_true_eq] at h
    exact put_len _ _ _ (by omega)
  · rfl
def rdL (l : List UInt8) (a n : Int) : List UInt8 := if mayB a n l.length then (l.drop a.toNat).take n.toNat else []

/-- The number of four bytes, the lowest first. -/
def num4 (b : List UInt8) : Int := (b.getD 0 0).toNat + 256 * (b.getD 1 0).toNat + 65536 * (b.getD 2 0).toNat + 16777216 * (b.getD 3 0).toNat
/-- A number's four bytes. -/
def by4 (x : Int) : List UInt8 := [UInt8.ofNat x.toNat, UInt8.ofNat (x / 256).toNat, UInt8.ofNat (x / 65536).toNat, UInt8.ofNat (x / 16777216).toNat]
theorem by4_len (x : Int) : (by4 x).length = 4 := rfl
theorem num_by (x : Int) (h0 : 0 ≤ x) (h1 : x ≤ 4294967295) : num4 (by4 x) = x := by
  obtain ⟨x, rfl⟩ := Int.eq_ofNat_of_zero_le h0
  simp only [num4, by4, List.getD_cons_zero, List.getD_cons_succ, UInt8.toNat_ofNat']
  omega
theorem num4_bound (b : List UInt8) : 0 ≤ num4 b ∧ num4 b ≤ 4294967295 := by
  have h0 := (b.getD 0 0).toNat_lt
  have h1 := (b.getD 1 0).toNat_lt
  have h2 := (b.getD 2 0).toNat_lt
  have h3 := (b.getD 3 0).toNat_lt
  unfold num4
  omega

def wdB (size : Nat) (a : Int) : Bool := decide (0 ≤ a ∧ a % 4 = 0 ∧ a + 4 ≤ size)
def wdN (l : List UInt8) (a : Int) : Int := if wdB l.length a then num4 ((l.drop a.toNat).take 4) else 0
def pwB (size : Nat) (a x : Int) : Bool := decide (0 ≤ a ∧ a % 4 = 0 ∧ a + 4 ≤ size ∧ 0 ≤ x ∧ x ≤ 4294967295)
def pwL (l : List UInt8) (a x : Int) : List UInt8 := if pwB l.length a x then put l a.toNat (by4 x) else l
theorem pwL_len (l : List UInt8) (a x : Int) : (pwL l a x).length = l.length := by
  unfold pwL; split
  · rename_i h
    simp only [pwB, decide_eq_true_eq] at h
    exact put_len _ _ _ (by rw [by4_len]; omega)
  · rfl
def zeB (size : Nat) (f : Int) : Bool := decide (0 ≤ f ∧ 64 * f < size)
def zero64 : List UInt8 := List.replicate 64 0
theorem zero64_len : zero64.length = 64 := by simp [zero64]
def zeL (l : List UInt8) (f : Int) : List UInt8 := if zeB l.length f then put l (64 * f.toNat) zero64 else l

/-- A program's memory of so many bytes: at block g. -/
def PM (w : World) (g : Nat) (l : List UInt8) : Prop :=
  ∃ (m : Nat) (rest : List Value), 1 ≤ m ∧ m ≤ 64 ∧ l.length = 64 * m ∧ rest.length = 4096 - 64 * m ∧ Blk w g 57 (.int .i64 m :: (bts l ++ rest))

section
variable {w w' : World} {g : Nat} {l : List UInt8}
theorem PM.lt (h : PM w g l) : g < w.heap.size := by obtain ⟨_, _, _, _, _, _, h⟩ := h; exact h.lt
theorem PM.size (h : PM w g l) : ∃ m : Nat, 1 ≤ m ∧ m ≤ 64 ∧ l.length = 64 * m ∧ w.cell? ⟨g, 0, none⟩ = some (.int .i64 m) := by
  obtain ⟨m, _, h1, h2, h3, _, h⟩ := h
  exact ⟨m, h1, h2, h3, by rw [h.cell]; rfl⟩
theorem PM.frozen (h : PM w g l) (i : Nat) : w.frozen? ⟨g, i, none⟩ = false := by obtain ⟨_, _, _, _, _, _, h⟩ := h; exact h.frozen i
theorem PM.drewN (h : PM w g l) (n : Nat) : PM (w.drewN n) g l := h
theorem PM.below {B : Nat} (h : PM w g l) (hb : Below B w w') (hg : g < B) : PM w' g l := by obtain ⟨m, r, h1, h2, h3, h4, h⟩ := h; exact ⟨m, r, h1, h2, h3, h4, h.below hb hg⟩
theorem PM.grown {row : Option Nat} (h : PM w g l) (hb : w.grownBy w' row) (hg : some g ≠ row) : PM w' g l := by obtain ⟨m, r, h1, h2, h3, h4, h⟩ := h; exact ⟨m, r, h1, h2, h3, h4, h.grown hb hg⟩
theorem PM.alloc (h : PM w g l) (o : Obj) : PM (w.alloc o) g l := by obtain ⟨m, r, h1, h2, h3, h4, h⟩ := h; exact ⟨m, r, h1, h2, h3, h4, h.alloc o⟩
theorem PM.far (h : PM w g l) {p : Addr} (hp : g ≠ p.block) (u : Value) : PM (w.setCell p u) g l := by obtain ⟨m, r, h1, h2, h3, h4, h⟩ := h; exact ⟨m, r, h1, h2, h3, h4, h.far hp u⟩


set_option maxRecDepth 100000 in
/-- A slice of bytes as a string. -/
theorem conv_str (b off cap : Nat) (l : List UInt8) (h : ∀ i, i < l.length → w.cell? ⟨b, off + i, none⟩ = some (.int .u8 ((l.getD i 0).toNat : Int))) :
    (convert 51 9 (.slice (some ⟨b, off, none⟩) l.length cap)).run Try.prog w = .ok (.string (str l)) w := by
  have := run_convert_bytes_arg (P := Try.prog) w 51 5 Try.underlying51 Try.underlying5 b off l.length cap (l.map fun x => (x.toNat : Int)) (by simp) (fun i hi => by
    rw [h i hi]
    simp [List.getD, List.getElem?_map, List.getElem?_eq_getElem hi]) 9 Try.underlying9
  rw [this]
  congr 2
  apply ByteArray.ext
  apply Array.toList_inj.1
  rw [strOfNums_data, List.map_map, str_list]
  conv => rhs; rw [← List.map_id l]
  apply List.map_congr_left
  intro x _
  simp

theorem PM.at_ (h : PM w g l) {k : Nat} (hk : k < l.length) : w.cell? ⟨g, 1 + k, none⟩ = some (.int .u8 ((l.getD k 0).toNat : Int)) := by
  obtain ⟨m, rest, h1, h2, h3, h4, h⟩ := h
  rw [h.cell, Nat.add_comm 1 k, List.getElem?_cons_succ, List.getElem?_append_left (by rw [bts_len]; exact hk), bts_get l k hk]

theorem arr_lh (w : World) (g a n : Nat) (hn : a + n ≤ 4096) : ∃ o, (n = 0 ∨ o = 1 + a) ∧ (Instr.sliceAt 55 (.pointer (some ⟨g, 1, none⟩)) (some (.int .i64 (a : Int))) (some (.int .i64 ((a : Int) + n))) none).run Try.prog w = .ok (.slice (some ⟨g, o, none⟩) n (4096 - a)) w := by
  have ht := Try.underlying55
  have hl : Try.prog.arrayLen 55 = 4096 := by kernel_rfl
  have he : Try.prog.elem 55 = 5 := by kernel_rfl
  have hz : (Go.sizeOf 5).run Try.prog w = .ok 1 w := by
    have hi : (Try.prog.info? 5).map (fun i => (i.zero, i.size, i.bytes)) = some (some (.int .u8 0), 1, 1) := by kernel_rfl
    obtain ⟨i0, hi, _, hz1, _⟩ := info_parts hi
    simp [Go.sizeOf, typeInfo, hi, hz1]
  rw [run_sliceAt_array_lh w 55 ⟨g, 1, none⟩ (by rw [hl, he]; exact ht) .i64 .i64 _ _ (by omega) (by omega) (by rw [hl]; omega), he, hz, hl]
  by_cases h : 4096 = a
  · exact ⟨1, .inl (by omega), by simp [Result.andThen, slicedAt, h]; omega⟩
  · exact ⟨1 + a, .inr rfl, by simp [Result.andThen, slicedAt, h, add_none]; omega⟩

/-- The program's array, sliced from a on, n bytes: as a string. -/
theorem PM.read (h : PM w g l) (a n : Nat) (hn : a + n ≤ l.length) : ∃ o, (Instr.sliceAt 55 (.pointer (some ⟨g, 1, none⟩)) (some (.int .i64 (a : Int))) (some (.int .i64 ((a : Int) + n))) none).run Try.prog w = .ok (.slice (some ⟨g, o, none⟩) n (4096 - a)) w ∧
    (convert 51 9 (.slice (some ⟨g, o, none⟩) n (4096 - a))).run Try.prog w = .ok (.string (str ((l.drop a).take n))) w := by
  obtain ⟨m, h1, h2, h3, _⟩ := h.size
  obtain ⟨o, ho, hs⟩ := arr_lh w g a n (by omega)
  refine ⟨o, hs, ?_⟩
  have hl : ((l.drop a).take n).length = n := by simp; omega
  have := conv_str (w := w) g o (4096 - a) ((l.drop a).take n) (fun i hi => by
    rw [hl] at hi
    obtain rfl : o = 1 + a := by omega
    rw [Nat.add_assoc, h.at_ (k := a + i) (by omega)]
    simp [List.getD, hi])
  rw [hl] at this
  exact this

theorem cells_put (x : Value) (l : List UInt8) (rest : List Value) (a : Nat) (s : List UInt8) (h : a + s.length ≤ l.length) :
    (x :: (bts l ++ rest)).take (1 + a) ++ bts s ++ (x :: (bts l ++ rest)).drop (1 + a + s.length) = x :: (bts (put l a s) ++ rest) := by
  rw [show 1 + a + s.length = (a + s.length) + 1 by omega, show 1 + a = a + 1 by omega, List.take_succ_cons, List.drop_succ_cons, List.take_append_of_le_length (by rw [bts_len]; omega), List.drop_append_of_le_length (by rw [bts_len]; omega), bts_put]
  simp

theorem arr_l (w : World) (g a : Nat) (hn : a ≤ 4096) : ∃ o, (4096 - a = 0 ∨ o = 1 + a) ∧ (o = 1 + a ∨ o = 1) ∧ (Instr.sliceAt 55 (.pointer (some ⟨g, 1, none⟩)) (some (.int .i64 (a : Int))) none none).run Try.prog w = .ok (.slice (some ⟨g, o, none⟩) (4096 - a) (4096 - a)) w := by
  have ht := Try.underlying55
  have hl : Try.prog.arrayLen 55 = 4096 := by kernel_rfl
  have he : Try.prog.elem 55 = 5 := by kernel_rfl
  have hz : (Go.sizeOf 5).run Try.prog w = .ok 1 w := by
    have hi : (Try.prog.info? 5).map (fun i => (i.zero, i.size, i.bytes)) = some (some (.int .u8 0), 1, 1) := by kernel_rfl
    obtain ⟨i0, hi, _, hz1, _⟩ := info_parts hi
    simp [Go.sizeOf, typeInfo, hi, hz1]
  rw [run_sliceAt_array_l w 55 ⟨g, 1, none⟩ (by rw [hl, he]; exact ht) .i64 _ (by omega) (by rw [hl]; omega), he, hz, hl]
  by_cases h : 4096 = a
  · exact ⟨1, .inl (by omega), .inr rfl, by simp [Result.andThen, slicedAt, h]⟩
  · exact ⟨1 + a, .inr rfl, .inl rfl, by simp [Result.andThen, slicedAt, h, add_none]⟩

/-- The program's copy of a string's bytes into the array from a on. -/
theorem PM.write (h : PM w g l) (a : Nat) (s : ByteArray) (hn : a + s.size ≤ l.length) : ∃ o w1, (Instr.sliceAt 55 (.pointer (some ⟨g, 1, none⟩)) (some (.int .i64 (a : Int))) none none).run Try.prog w = .ok (.slice (some ⟨g, o, none⟩) (4096 - a) (4096 - a)) w ∧
    (∀ ty, (Builtin.copy_ #[51, 9] ty #[.slice (some ⟨g, o, none⟩) (4096 - a) (4096 - a), .string s]).run Try.prog w = .ok (goInt s.size) w1) ∧ PM w1 g (put l a s.data.toList) ∧ w.grownBy w1 (some g) := by
  obtain ⟨m, rest, h1, h2, h3, h4, h⟩ := h
  obtain ⟨o, ho, ho', hs⟩ := arr_l w g a (by omega)
  have hi : (Try.prog.info? 5).map (fun i => (i.zero, i.size, i.bytes)) = some (some (.int .u8 0), 1, 1) := by kernel_rfl
  obtain ⟨i0, hi, _, hz1, _⟩ := info_parts hi
  have hlen : (.int .i64 m :: (bts l ++ rest) : List Value).toArray.size = 4097 := by simp [bts_len]; omega
  have := fun ty => Lib.run_copy_row_string (P := Try.prog) w 51 9 ty 5 g o (4096 - a) (4096 - a) s _ _ Try.underlying51 (by rw [hi]; simp [hz1]) h (by omega) (by rw [hlen]; omega)
  refine ⟨o, _, hs, this, ⟨m, rest, h1, h2, by rw [put_len _ _ _ (by rw [list_len]; exact hn)]; exact h3, h4, ?_⟩, grown_setRow _ _ _⟩
  have hb := h.row ((.int .i64 m :: (bts l ++ rest) : List Value).take o ++ bts s.data.toList ++ (.int .i64 m :: (bts l ++ rest) : List Value).drop (o + s.size))
  have e : (.int .i64 m :: (bts l ++ rest) : List Value).take o ++ bts s.data.toList ++ (.int .i64 m :: (bts l ++ rest) : List Value).drop (o + s.size) = .int .i64 m :: (bts (put l a s.data.toList) ++ rest) := by
    rcases Nat.lt_or_ge a 4096 with hlt | hge
    · obtain rfl : o = 1 + a := by omega
      rw [← list_len s]
      exact cells_put _ _ _ _ _ (by rw [list_len]; exact hn)
    · have h0 : s.data.toList = [] := List.eq_nil_of_length_eq_zero (by rw [list_len]; omega)
      have h0' : s.size = 0 := by omega
      rw [h0, h0', put_nil]
      simp [bts]
  have hb2 : Blk (w.setRow g ((.int .i64 m :: (bts l ++ rest) : List Value).take o ++ bts s.data.toList ++ (.int .i64 m :: (bts l ++ rest) : List Value).drop (o + s.size)).toArray) g 57 (.int .i64 m :: (bts (put l a s.data.toList) ++ rest)) := by
    rw [e] at hb ⊢
    exact hb
  exact hb2

/-- 'clear' of a slice of bytes that lies in one row. -/
theorem run_clear_row (w : World) (ty : TypeId) (g o n c : Nat) (cur : List Value) (t : TypeId) (h : Blk w g t cur) (hn : 0 < n) (hfit : o + n ≤ cur.length) :
    (Builtin.clear_ #[51] ty #[.slice (some ⟨g, o, none⟩) n c]).run Try.prog w = .ok (.tuple #[]) (w.setRow g (cur.take o ++ List.replicate n (Value.int .u8 0) ++ cur.drop (o + n)).toArray) := by
  have hi : (Try.prog.info? 5).map (fun i => (i.zero, i.size, i.bytes)) = some (some (.int .u8 0), 1, 1) := by kernel_rfl
  obtain ⟨i0, hi, hz0, _, _⟩ := info_parts hi
  have hst := run_storeCells_at Try.prog g o t (List.replicate n (Value.int .u8 0)) 0 cur.toArray w h (by simpa using hfit) (by intro v hv; rw [List.eq_of_mem_replicate hv]; rfl)
  simp only [Nat.add_zero, List.length_replicate] at hst
  have hzc : (Builtin.zeroCells (Value.int .u8 0).cells n).toList = List.replicate n (.int .u8 0) := by
    simp [Builtin.zeroCells, Value.cells]
    apply List.ext_getElem
    · simp
    · intro i h1 h2
      simp [Nat.mod_one]
  obtain ⟨m, rfl⟩ : ∃ m, n = m + 1 := ⟨n - 1, by omega⟩
  simp [Builtin.clear_, run_underlying Try.underlying51, zeroValue, typeInfo, hi, hz0, hzc, hst]

/-- The program's clearing of a frame's bytes. -/
theorem PM.clear_ (h : PM w g l) (a : Nat) (hn : a + 64 ≤ l.length) : ∃ w1, (Instr.sliceAt 55 (.pointer (some ⟨g, 1, none⟩)) (some (.int .i64 (a : Int))) (some (.int .i64 ((a : Int) + 64))) none).run Try.prog w = .ok (.slice (some ⟨g, 1 + a, none⟩) 64 (4096 - a)) w ∧
    (∀ ty, (Builtin.clear_ #[51] ty #[.slice (some ⟨g, 1 + a, none⟩) 64 (4096 - a)]).run Try.prog w = .ok (.tuple #[]) w1) ∧ PM w1 g (put l a zero64) ∧ w.grownBy w1 (some g) := by
  obtain ⟨m, rest, h1, h2, h3, h4, h⟩ := h
  obtain ⟨o, ho, hs⟩ := arr_lh w g a 64 (by omega)
  obtain rfl : o = 1 + a := by omega
  refine ⟨_, hs, fun ty => run_clear_row w ty g (1 + a) 64 (4096 - a) _ _ h (by omega) (by simp [bts_len]; omega), ⟨m, rest, h1, h2, by rw [put_len _ _ _ (by rw [zero64_len]; exact hn)]; exact h3, h4, ?_⟩, grown_setRow _ _ _⟩
  have hb := h.row ((.int .i64 m :: (bts l ++ rest) : List Value).take (1 + a) ++ bts zero64 ++ (.int .i64 m :: (bts l ++ rest) : List Value).drop (1 + a + 64))
  rw [show (64 : Nat) = zero64.length from zero64_len.symm, cells_put _ _ _ _ _ (by rw [zero64_len]; exact hn)] at hb
  have e : bts zero64 = List.replicate 64 (.int .u8 0) := by simp [bts, zero64]
  rw [← cells_put _ _ _ _ _ (by rw [zero64_len]; exact hn), zero64_len, e] at hb
  rw [← cells_put _ _ _ _ _ (by rw [zero64_len]; exact hn), zero64_len, e]
  exact hb

/-- The document's memory: at block r, its bytes at block b. -/
def RM (w : World) (r b : Nat) (l : List UInt8) : Prop :=
  l.length ≤ 4096 ∧ (64 ≤ l.length ∧ l.length % 64 = 0) ∧ Blk w r 53 [.slice (some ⟨b, 0, none⟩) l.length l.length] ∧ Blk w b 5 (bts l)
theorem RM.ne {r b : Nat} (h : RM w r b l) : r ≠ b := h.2.2.1.apart h.2.2.2 (by decide)
theorem RM.row {r b : Nat} (h : RM w r b l) : w.cell? ⟨r, 0, none⟩ = some (.slice (some ⟨b, 0, none⟩) l.length l.length) := by rw [h.2.2.1.cell]; rfl
theorem RM.at_ {r b : Nat} (h : RM w r b l) {k : Nat} (hk : k < l.length) : w.cell? ⟨b, k, none⟩ = some (.int .u8 ((l.getD k 0).toNat : Int)) := by rw [h.2.2.2.cell, bts_get l k hk]
theorem RM.frozen {r b : Nat} (h : RM w r b l) (i : Nat) : w.frozen? ⟨b, i, none⟩ = false := h.2.2.2.frozen i
theorem RM.drewN {r b : Nat} (h : RM w r b l) (n : Nat) : RM (w.drewN n) r b l := h
theorem RM.lt {r b : Nat} (h : RM w r b l) : r < w.heap.size ∧ b < w.heap.size := ⟨h.2.2.1.lt, h.2.2.2.lt⟩
theorem RM.below {r b B : Nat} (h : RM w r b l) (hb : Below B w w') (hr : r < B) (hbb : b < B) : RM w' r b l := ⟨h.1, h.2.1, h.2.2.1.below hb hr, h.2.2.2.below hb hbb⟩
theorem RM.grown {r b : Nat} {row : Option Nat} (h : RM w r b l) (hb : w.grownBy w' row) (hr : some r ≠ row) (hbb : some b ≠ row) : RM w' r b l := ⟨h.1, h.2.1, h.2.2.1.grown hb hr, h.2.2.2.grown hb hbb⟩
theorem RM.alloc {r b : Nat} (h : RM w r b l) (o : Obj) : RM (w.alloc o) r b l := ⟨h.1, h.2.1, h.2.2.1.alloc o, h.2.2.2.alloc o⟩
theorem RM.set {r b : Nat} (h : RM w r b l) (k : Nat) (x : UInt8) : RM (w.setCell ⟨b, k, none⟩ (.int .u8 (x.toNat : Int))) r b (l.set k x) := by
  refine ⟨by simpa using h.1, by simpa using h.2.1, ?_, ?_⟩
  · rw [List.length_set]; exact h.2.2.1.far h.ne _
  · have := h.2.2.2.set k (.int .u8 (x.toNat : Int))
    have e : (bts l).set k (.int .u8 (x.toNat : Int)) = bts (l.set k x) := by simp [bts, List.map_set]
    rw [e] at this
    exact this
theorem PM.apart_r {r b : Nat} (h : PM w g l) {l' : List UInt8} (h' : RM w r b l') : g ≠ r ∧ g ≠ b := by
  obtain ⟨m, rest, h1, h2, h3, h4, h⟩ := h
  exact ⟨h.apart h'.2.2.1 (by decide), h.apart h'.2.2.2 (by decide)⟩
end
end Go.Proofs.Ytggdbiniklchoaa

namespace Go.Proofs.Ytggdbiniklchoaa
open Go.RowKit
set_option linter.unusedVariables false
set_option maxRecDepth 100000

theorem may_any (a n s : Int) (w : World) (h4 : s ≤ 9223372036854775807) :
    Calls Try.prog 20 #[.int .i64 a, .int .i64 n, .int .i64 s] w fun e w' => e = .returned (.bool (mayB a n s)) ∧ w = w' := by
  by_cases h : 0 ≤ a ∧ 0 ≤ n ∧ a ≤ s ∧ n ≤ s - a
  · rw [show mayB a n s = true from decide_eq_true h]
    exact may_yes a n s w h.1 h.2.1 h.2.2.1 h.2.2.2 h4
  · rw [show mayB a n s = false from decide_eq_false h]
    exact may_no a n s w h h4

theorem psize_any (g : Nat) (l : List UInt8) (w : World) (h : PM w g l) :
    Calls Try.prog 21 #[.pointer (some ⟨g, 0, none⟩)] w fun e w' => e = .returned (.int .i64 l.length) ∧ w = w' := by
  obtain ⟨m, h1, h2, h3, hc⟩ := h.size
  rw [h3]
  have h0 : (0 : Int) ≤ m := by omega
  have h2' : (m : Int) ≤ 64 := by omega
  clear h h3
  go_enter Try.func21, Try.ntmps21
  go_wp2
  go_ret
  exact ⟨by rw [show ((64 * m : Nat) : Int) = m * 64 by omega]; rfl, rfl⟩

theorem new_no (c : Int) (w : World) (h : ¬ (1 ≤ c ∧ c ≤ 64)) :
    Calls Try.prog 4 #[.int .i64 c] w fun e w' => e = .returned (.tuple #[.pointer none, .int .i64 300]) ∧ w = w' := by
  by_cases h1 : c < 1
  · clear h
    go_enter Try.func4, Try.ntmps4
    go_wp2
    go_ret2
    exact ⟨rfl, rfl⟩
  · have h2 : 64 < c := by omega
    clear h
    go_enter Try.func4, Try.ntmps4
    go_wp2
    go_ret2
    exact ⟨rfl, rfl⟩

/-- Bytes that are all 0. -/
def zeros (n : Nat) : List UInt8 := List.replicate n 0
theorem zeros_len (n : Nat) : (zeros n).length = n := by simp [zeros]

/-- The cells of a new memory: kept closed to the walk. -/
def zMem : Array Value := (Value.int .i64 0 :: List.replicate 4096 (Value.int .u8 0)).toArray
theorem zMem_ne : ¬ (zMem = #[]) := by
  intro h
  have := congrArg Array.size h
  simp only [zMem, List.size_toArray, List.length_cons, List.length_replicate] at this
  cases this
set_option maxRecDepth 100000 in
theorem zMem_run (w : World) : Sem.run Try.prog (zeroValue 57) w = .ok (.agg zMem) w := by
  have hi : (Try.prog.info? 57).map (fun i => i.zero) = some (some (.agg zMem)) := by kernel_rfl
  cases h : Try.prog.info? 57 with
  | none => rw [h] at hi; cases hi
  | some i =>
    rw [h] at hi
    simp only [Option.map_some, Option.some.injEq] at hi
    simp [zeroValue, typeInfo, h, hi]
theorem zMem_set (c : Int) (m : Nat) (h : m ≤ 4096) : zMem.setIfInBounds 0 (.int .i64 c) = (Value.int .i64 c :: (bts (zeros m) ++ List.replicate (4096 - m) (Value.int .u8 0))).toArray := by
  have e : bts (zeros m) ++ List.replicate (4096 - m) (Value.int .u8 0) = List.replicate 4096 (Value.int .u8 0) := by
    simp only [bts, zeros, List.map_replicate]
    rw [show ((0 : UInt8).toNat : Int) = 0 from rfl, List.replicate_append_replicate, show m + (4096 - m) = 4096 by omega]
  rw [e]
  unfold zMem
  rw [List.setIfInBounds_toArray, List.set_cons_zero]

theorem new_yes (c : Int) (w : World) (h1 : 1 ≤ c) (h2 : c ≤ 64) :
    Calls Try.prog 4 #[.int .i64 c] w fun e w' => e = .returned (.tuple #[.pointer (some ⟨w.heap.size, 0, none⟩), .int .i64 0]) ∧ PM w' w.heap.size (zeros (64 * c.toNat)) ∧ Below w.heap.size w w' := by
  obtain ⟨c, rfl⟩ := Int.eq_ofNat_of_zero_le (show 0 ≤ c by omega)
  have hz := zMem_run
  have hne := zMem_ne
  go_enter Try.func4, Try.ntmps4
  go_wp2
  go_ret2
  exact ⟨rfl, ⟨c, List.replicate (4096 - 64 * c) (Value.int .u8 0), by omega, by omega, by rw [zeros_len]; rfl, by simp, by rw [zMem_set _ (64 * c) (by omega)]; exact Blk.new _ _ _⟩, (Below.refl _ _).alloc (Nat.le_refl _) _⟩

theorem pread_any (g : Nat) (l : List UInt8) (a n : Int) (w : World) (h : PM w g l) :
    Calls Try.prog 15 #[.pointer (some ⟨g, 0, none⟩), .int .i64 a, .int .i64 n] w fun e w' => e = .returned (.tuple #[.string (str (rdL l a n)), .int .i64 (errC (mayB a n l.length))]) ∧ w = w' := by
  obtain ⟨m, h1, h2, h3, hc⟩ := h.size
  have hl : l.length ≤ 4096 := by omega
  clear hc
  by_cases hm : 0 ≤ a ∧ 0 ≤ n ∧ a ≤ l.length ∧ n ≤ l.length - a
  · have hb : mayB a n l.length = true := decide_eq_true hm
    have HC : Hid (errC (mayB a n l.length) = 0) := Lib.hid (by rw [hb]; rfl)
    obtain ⟨hm1, hm2, hm3, hm4⟩ := hm
    obtain ⟨a, rfl⟩ := Int.eq_ofNat_of_zero_le hm1
    obtain ⟨n, rfl⟩ := Int.eq_ofNat_of_zero_le hm2
    have HL : Hid (rdL l a n = (l.drop a).take n) := Lib.hid (by unfold rdL; rw [hb]; rfl)
    obtain ⟨o, hs, hv⟩ := h.read a n (by omega)
    have HB := Lib.hid hb; have H := Lib.hid h
    generalize hX : str ((l.drop a).take n) = X at hv
    have HX := Lib.hid hX; clear hX
    clear hb h h1 h2 h3
    go_enter Try.func15, Try.ntmps15
    go_wp2_with fail
    refine (psize_any g l _ H.out).mono ?_
    rintro e w' ⟨rfl, rfl⟩
    go_wp2_with fail
    refine (may_any _ _ _ _ (by omega)).mono ?_
    rintro e w' ⟨rfl, rfl⟩
    rw [HB.out]
    go_wp2_with fail
    go_ret2
    exact ⟨by rw [HC.out, HL.out, HX.out]; rfl, rfl⟩
  · have hb : mayB a n l.length = false := decide_eq_false hm
    have HC : Hid (errC (mayB a n l.length) = 300) := Lib.hid (by rw [hb]; rfl)
    have HL : Hid (rdL l a n = []) := Lib.hid (by unfold rdL; rw [hb]; rfl)
    have HB := Lib.hid hb; have H := Lib.hid h
    clear hb h hm h1 h2 h3
    go_enter Try.func15, Try.ntmps15
    go_wp2_with fail
    refine (psize_any g l _ H.out).mono ?_
    rintro e w' ⟨rfl, rfl⟩
    go_wp2_with fail
    refine (may_any _ _ _ _ (by omega)).mono ?_
    rintro e w' ⟨rfl, rfl⟩
    rw [HB.out]
    go_wp2_with fail
    go_ret2
    exact ⟨by rw [HC.out, HL.out]; rfl, rfl⟩

theorem pwrite_any (g : Nat) (l : List UInt8) (a : Int) (s : ByteArray) (w : World) (h : PM w g l) (hs : s.size ≤ maxLen) :
    Calls Try.prog 8 #[.pointer (some ⟨g, 0, none⟩), .int .i64 a, .string s] w fun e w' => e = .returned (.int .i64 (errC (mayB a s.size l.length))) ∧ PM w' g (wrL l a s.data.toList) ∧ w.grownBy w' (some g) := by
  obtain ⟨m, h1, h2, h3, hc⟩ := h.size
  have hl : l.length ≤ 4096 := by omega
  unfold maxLen at hs
  clear hc
  by_cases hm : 0 ≤ a ∧ 0 ≤ (s.size : Int) ∧ a ≤ l.length ∧ s.size ≤ l.length - a
  · have hb : mayB a s.size l.length = true := decide_eq_true hm
    have HC : Hid (errC (mayB a s.size l.length) = 0) := Lib.hid (by rw [hb]; rfl)
    have HL : Hid (wrL l a s.data.toList = put l a.toNat s.data.toList) := Lib.hid (by unfold wrL; rw [list_len, hb]; rfl)
    obtain ⟨hm1, hm2, hm3, hm4⟩ := hm
    obtain ⟨a, rfl⟩ := Int.eq_ofNat_of_zero_le hm1
    rw [Int.toNat_natCast] at HL
    have hw := h.write a s (by omega)
    have HB := Lib.hid hb; have H := Lib.hid h; have HW := Lib.hid hw
    clear hb h h1 h2 h3 hw
    go_enter Try.func8, Try.ntmps8
    go_wp2_with fail
    refine (psize_any g l _ H.out).mono ?_
    rintro e w' ⟨rfl, rfl⟩
    go_wp2_with fail
    refine (may_any _ _ _ _ (by omega)).mono ?_
    rintro e w' ⟨rfl, rfl⟩
    rw [HB.out]
    obtain ⟨o, w1, hs1, hs2, hp, hg⟩ := HW.out
    have HP := Lib.hid hp; have HG := Lib.hid hg; clear hp hg
    go_wp2_with fail
    go_ret
    exact ⟨by rw [HC.out]; rfl, by rw [HL.out]; exact HP.out, HG.out⟩
  · have hb : mayB a s.size l.length = false := decide_eq_false hm
    have HC : Hid (errC (mayB a s.size l.length) = 300) := Lib.hid (by rw [hb]; rfl)
    have HL : Hid (wrL l a s.data.toList = l) := Lib.hid (by unfold wrL; rw [list_len, hb]; rfl)
    have HB := Lib.hid hb; have H := Lib.hid h
    clear hb h hm h1 h2 h3
    go_enter Try.func8, Try.ntmps8
    go_wp2_with fail
    refine (psize_any g l _ H.out).mono ?_
    rintro e w' ⟨rfl, rfl⟩
    go_wp2_with fail
    refine (may_any _ _ _ _ (by omega)).mono ?_
    rintro e w' ⟨rfl, rfl⟩
    rw [HB.out]
    go_wp2_with fail
    go_ret
    exact ⟨by rw [HC.out]; rfl, by rw [HL.out]; exact H.out, grefl _ _⟩

set_option maxRecDepth 100000 in
theorem pzero_any (g : Nat) (l : List UInt8) (f : Int) (w : World) (h : PM w g l) :
    Calls Try.prog 49 #[.pointer (some ⟨g, 0, none⟩), .int .i64 f] w fun e w' => e = .returned (.int .i64 (errC (zeB l.length f))) ∧ PM w' g (zeL l f) ∧ w.grownBy w' (some g) := by
  obtain ⟨m, h1, h2, h3, hc⟩ := h.size
  by_cases hm : 0 ≤ f ∧ 64 * f < l.length
  · have hb : zeB l.length f = true := decide_eq_true hm
    have HC : Hid (errC (zeB l.length f) = 0) := Lib.hid (by rw [hb]; rfl)
    have HL : Hid (zeL l f = put l (64 * f.toNat) zero64) := Lib.hid (by unfold zeL; rw [hb]; rfl)
    obtain ⟨hm1, hm2⟩ := hm
    obtain ⟨f, rfl⟩ := Int.eq_ofNat_of_zero_le hm1
    rw [Int.toNat_natCast] at HL
    have hfm : decide ((m : Nat) ≤ f) = false := by simp; omega
    have hf64 : (f : Int) < 64 := by omega
    obtain ⟨w1, hs1, hs2, hp, hg⟩ := h.clear_ (64 * f) (by omega)
    rw [show ((64 * f : Nat) : Int) = f * 64 by omega] at hs1
    generalize 4096 - 64 * f = C at hs1 hs2
    generalize 1 + 64 * f = O at hs1 hs2
    have HP := Lib.hid hp; have HG := Lib.hid hg; clear hp hg
    clear hb h h1 h2 h3
    go_enter Try.func49, Try.ntmps49
    go_wp2_with fail
    go_ret
    exact ⟨by rw [HC.out]; rfl, by rw [HL.out]; exact HP.out, HG.out⟩
  · have hb : zeB l.length f = false := decide_eq_false hm
    have HC : Hid (errC (zeB l.length f) = 300) := Lib.hid (by rw [hb]; rfl)
    have HL : Hid (zeL l f = l) := Lib.hid (by unfold zeL; rw [hb]; rfl)
    have H := Lib.hid h
    by_cases h0 : f < 0
    · clear hb h hm h1 h2 h3
      go_enter Try.func49, Try.ntmps49
      go_wp2_with fail
      go_ret
      exact ⟨by rw [HC.out]; rfl, by rw [HL.out]; exact H.out, grefl _ _⟩
    · have h5 : (m : Int) ≤ f := by omega
      clear hb h hm h1 h2 h3
      go_enter Try.func49, Try.ntmps49
      go_wp2_with fail
      go_ret
      exact ⟨by rw [HC.out]; rfl, by rw [HL.out]; exact H.out, grefl _ _⟩

end Go.Proofs.Ytggdbiniklchoaa

namespace Go.Proofs.Ytggdbiniklchoaa
open Go.RowKit
set_option linter.unusedVariables false
set_option maxRecDepth 100000

/-- The number of the first k bytes, the lowest first. -/
def numTo (b : List UInt8) : Nat → Int
  | 0 => 0
  | k + 1 => numTo b k + 256 ^ k * ((b.getD k 0).toNat : Int)
theorem num4_to (b : List UInt8) : num4 b = numTo b 4 := by simp [num4, numTo]
theorem numTo_bound (b : List UInt8) (k : Nat) : 0 ≤ numTo b k ∧ numTo b k < 256 ^ k := by
  induction k with
  | zero => simp [numTo]
  | succ k ih =>
    have h := (b.getD k 0).toNat_lt
    simp only [numTo]
    generalize ((b.getD k 0).toNat) = x at h
    have hp : (0 : Int) < 256 ^ k := Int.pow_pos (by omega)
    have hx : (256 : Int) ^ k * (x : Int) ≤ 256 ^ k * 255 := Int.mul_le_mul_of_nonneg_left (by omega) (by omega)
    have h0 : (0 : Int) ≤ 256 ^ k * (x : Int) := Int.mul_nonneg (by omega) (by omega)
    rw [Int.pow_succ]
    omega

theorem byte_get (s : ByteArray) (k : Nat) (h : k < s.size) : s.data.toList.getD k 0 = s[k] := by
  have h' : k < s.data.size := h
  simp only [List.getD, Array.getElem?_toList, Array.getElem?_eq_getElem h', Option.getD_some]
  rfl
/-- An 'or' of numbers whose digits do not meet. -/
theorem bor (x y n : Nat) (h : x < 2 ^ n) (h2 : x + 2 ^ n * y < 9223372036854775808) : bits BinOp.or IntKind.i64 (x : Int) ((2 ^ n * y : Nat) : Int) = ((x + 2 ^ n * y : Nat) : Int) := by
  have hx : (BitVec.ofInt 64 (x : Int)).toNat = x := by
    rw [BitVec.ofInt_natCast, BitVec.toNat_ofNat]; exact Nat.mod_eq_of_lt (by omega)
  have hy : (BitVec.ofInt 64 ((2 ^ n * y : Nat) : Int)).toNat = 2 ^ n * y := by
    rw [BitVec.ofInt_natCast, BitVec.toNat_ofNat]; exact Nat.mod_eq_of_lt (by omega)
  have e : bits BinOp.or IntKind.i64 (x : Int) ((2 ^ n * y : Nat) : Int) = IntKind.i64.wrap ((BitVec.ofInt 64 (x : Int) ||| BitVec.ofInt 64 ((2 ^ n * y : Nat) : Int)).toNat : Int) := rfl
  rw [e, BitVec.toNat_or, hx, hy, Nat.or_comm, ← Nat.two_pow_add_eq_or_of_lt h, IntKind.wrap_i64]
  omega

theorem or_step (b : List UInt8) (k : Nat) (hk : k < 4) (c : Int) (hc : c = ((b.getD k 0).toNat : Int)) : bits BinOp.or IntKind.i64 (numTo b k) (wrap64 (wrap64 c * 2 ^ (8 * k))) = numTo b (k + 1) := by
  subst hc
  have h := numTo_bound b k
  have hb := (b.getD k 0).toNat_lt
  simp only [numTo]
  generalize (b.getD k 0).toNat = y at hb
  generalize numTo b k = x at h
  obtain ⟨h1, h2⟩ := h
  obtain ⟨x, rfl⟩ := Int.eq_ofNat_of_zero_le h1
  have hw : wrap64 (y : Int) = y := by unfold wrap64; omega
  rw [hw]
  have e : ((256 : Int) ^ k) = ((2 ^ (8 * k) : Nat) : Int) := by rw [Nat.pow_mul]; simp
  have hm : (2 : Nat) ^ (8 * k) ≤ 16777216 := Nat.le_trans (Nat.pow_le_pow_right (by omega) (show 8 * k ≤ 24 by omega)) (by decide)
  rw [e] at h2 ⊢
  have hy : 2 ^ (8 * k) * y ≤ 16777216 * 256 := Nat.mul_le_mul hm (by omega)
  have hw2 : wrap64 ((y : Int) * 2 ^ (8 * k)) = ((2 ^ (8 * k) * y : Nat) : Int) := by
    rw [show ((y : Int) * 2 ^ (8 * k)) = ((2 ^ (8 * k) * y : Nat) : Int) by push_cast; rw [Int.mul_comm]]
    unfold wrap64
    generalize 2 ^ (8 * k) * y = z at hy
    omega
  rw [hw2, bor x y (8 * k) (by omega) (by omega)]
  push_cast
  rfl

theorem number_any (s : ByteArray) (w : World) (hs : s.size = 4) :
    Calls Try.prog 87 #[.string s] w fun e w' => e = .returned (.int .i64 (num4 s.data.toList)) ∧ w = w' := by
  rw [num4_to]
  have HS := Lib.hid hs; clear hs
  go_enter Try.func87, Try.ntmps87
  go_wp2
  go_loop [3, 5] (fun x i => ∃ k : Nat, k ≤ 4 ∧ i = .int .i64 k ∧ x = .int .i64 (numTo s.data.toList k)) (fun _ i => 4 - (intOf i).toNat)
  case atStart => exact ⟨0, by omega, rfl, rfl⟩
  case round =>
    obtain ⟨k, hk, rfl, rfl⟩ := hrel
    by_cases hlt : k < 4
    · have hks : k < s.size := by rw [HS.out]; exact hlt
      have HO := Lib.hid (or_step s.data.toList k hlt (s[k].toNat : Int) (by rw [byte_get s k hks]))
      go_wp2
      go_round
      case rel => exact ⟨k + 1, by omega, by go_num, by rw [HO.out]⟩
      case measure => simp [intOf]; omega
    · obtain rfl : k = 4 := by omega
      go_wp2
      go_ret
      exact ⟨rfl, rfl⟩

theorem by4_at (x : Int) (k : Nat) (hk : k < 4) (h0 : 0 ≤ x) : x / 2 ^ (8 * k) % 256 = ((((by4 x).getD k 0).toNat : Nat) : Int) := by
  obtain ⟨x, rfl⟩ := Int.eq_ofNat_of_zero_le h0
  rcases k with _ | _ | _ | _ | k
  · simp [by4]
  · simp only [by4, List.getD_cons_zero, List.getD_cons_succ, UInt8.toNat_ofNat']; omega
  · simp only [by4, List.getD_cons_zero, List.getD_cons_succ, UInt8.toNat_ofNat']; omega
  · simp only [by4, List.getD_cons_zero, List.getD_cons_succ, UInt8.toNat_ofNat']; omega
  · omega
/-- An array of four bytes on the way. -/
def byK (x : Int) (k : Nat) : List UInt8 := put [0, 0, 0, 0] 0 ((by4 x).take k)
theorem byK_len (x : Int) (k : Nat) : (byK x k).length = 4 := put_len _ _ _ (by simp [by4]; omega)
theorem byK_step (x : Int) (k : Nat) (hk : k < 4) (h0 : 0 ≤ x) : (bts (byK x k)).set k (.int .u8 (x / 2 ^ (8 * k) % 256)) = bts (byK x (k + 1)) := by
  rw [by4_at x k hk h0]
  have := put_step [0, 0, 0, 0] 0 (by4 x) k hk (by simp [by4]) _ rfl
  unfold byK
  rw [← this, Nat.zero_add]
  simp [bts, List.map_set]
theorem byK_all (x : Int) : byK x 4 = by4 x := by simp [byK, put, by4]

theorem bytes_any (x : Int) (w : World) (h0 : 0 ≤ x) (h1 : x ≤ 4294967295) :
    Calls Try.prog 57 #[.int .i64 x] w fun e w' => e = .returned (.string (str (by4 x))) ∧ Below w.heap.size w w' := by
  go_enter Try.func57, Try.ntmps57
  go_wp2
  have hw : Blk (w.alloc (.cells #[.int .u8 0, .int .u8 0, .int .u8 0, .int .u8 0] 122)) w.heap.size 122 [.int .u8 0, .int .u8 0, .int .u8 0, .int .u8 0] := Blk.new _ _ _
  have hb : Below w.heap.size w (w.alloc (.cells #[.int .u8 0, .int .u8 0, .int .u8 0, .int .u8 0] 122)) := (Below.refl _ _).alloc (Nat.le_refl _) _
  generalize hW : w.alloc (.cells #[.int .u8 0, .int .u8 0, .int .u8 0, .int .u8 0] 122) = w1 at *
  generalize hG : w.heap.size = G at *
  have HW := Lib.hid hW; have HG := Lib.hid hG; clear hW hG
  go_loopw [5] (fun i wr => ∃ k : Nat, k ≤ 4 ∧ i = .int .i64 k ∧ Blk wr G 122 (bts (byK x k)) ∧ Below G w wr) (fun i _ => 4 - (intOf i).toNat)
  case atStart => exact ⟨0, by omega, rfl, hw, hb⟩
  case round =>
    clear hw hb
    obtain ⟨k, hk, rfl, hw, hb⟩ := hrel
    by_cases hlt : k < 4
    · have hc := hw.cell k
      rw [bts_get _ k (by rw [byK_len]; exact hlt)] at hc
      have hf := hw.frozen k
      have hw' := hw.set k (.int .u8 (x / 2 ^ (8 * k) % 256))
      rw [byK_step x k hlt h0] at hw'
      generalize ((byK x k).getD k 0).toNat = u at hc
      have HB := Lib.hid hb; have HW' := Lib.hid hw'; clear hw hb hw'
      go_wp2
      go_roundw
      case rel => exact ⟨k + 1, by omega, by go_num, HW'.out, HB.out.setCell (Nat.le_refl _) _⟩
      case measure => simp [intOf]; omega
    · obtain rfl : k = 4 := by omega
      rw [byK_all] at hw
      have hcv := conv_str (w := wr) G 0 4 (by4 x) (fun i hi => by rw [hw.cell, Nat.zero_add, bts_get _ i hi])
      rw [by4_len] at hcv
      generalize hX : str (by4 x) = X at hcv
      have HX := Lib.hid hX; clear hX
      go_wp2
      go_ret
      exact ⟨by rw [HX.out]; rfl, by rw [HG.out]; exact hb⟩

theorem rdL_len (l : List UInt8) (a n : Int) (h : mayB a n l.length = true) : (rdL l a n).length = n.toNat := by
  unfold rdL
  rw [h, if_pos rfl]
  simp only [mayB, decide_eq_true_eq] at h
  simp
  omega

theorem wordBy_any (g : Nat) (l : List UInt8) (a : Int) (w : World) (h : PM w g l) :
    Calls Try.prog 76 #[.func (.func 15) #[.pointer (some ⟨g, 0, none⟩)] #[], .int .i64 a] w fun e w' => e = .returned (.tuple #[.int .i64 (wdN l a), .int .i64 (errC (wdB l.length a))]) ∧ w = w' := by
  by_cases hm : 0 ≤ a ∧ (0 : Int) ≤ 4 ∧ a ≤ l.length ∧ 4 ≤ l.length - a
  · have hb : mayB a 4 l.length = true := decide_eq_true hm
    by_cases h4 : a % 4 = 0
    · have hd : wdB l.length a = true := decide_eq_true (by omega)
      have HN : Hid (wdN l a = num4 (rdL l a 4)) := Lib.hid (by unfold wdN rdL; rw [hd, hb]; rfl)
      have HC : Hid (errC (wdB l.length a) = 0) := Lib.hid (by rw [hd]; rfl)
      have HE : Hid (errC (mayB a 4 l.length) = 0) := Lib.hid (by rw [hb]; rfl)
      have hlen := rdL_len l a 4 hb
      have HX := Lib.hid (show (str (rdL l a 4)).size = 4 by rw [str_size, hlen]; rfl)
      have HN2 := Lib.hid (show (str (rdL l a 4)).data.toList = rdL l a 4 from str_list _)
      have H := Lib.hid h
      obtain ⟨ha, _⟩ := hm
      have hx : (a % 4 != 0) = false := by simp [h4]
      clear hb hd h h4 hlen
      go_enter Try.func76, Try.ntmps76
      go_wp2_with fail
      refine (pread_any g l _ _ _ H.out).mono ?_
      rintro e w' ⟨rfl, rfl⟩
      rw [HE.out]
      go_wp2_with fail
      refine (number_any _ _ HX.out).mono ?_
      rintro e w' ⟨rfl, rfl⟩
      go_wp2_with fail
      go_ret2
      exact ⟨by rw [HN.out, HC.out, HN2.out]; rfl, rfl⟩
    · have hd : wdB l.length a = false := decide_eq_false (by omega)
      have HN : Hid (wdN l a = 0) := Lib.hid (by unfold wdN; rw [hd]; rfl)
      have HC : Hid (errC (wdB l.length a) = 300) := Lib.hid (by rw [hd]; rfl)
      have HE : Hid (errC (mayB a 4 l.length) = 0) := Lib.hid (by rw [hb]; rfl)
      have H := Lib.hid h
      obtain ⟨ha, _⟩ := hm
      have hx : (a % 4 != 0) = true := by simpa using h4
      clear hb hd h h4
      go_enter Try.func76, Try.ntmps76
      go_wp2_with fail
      refine (pread_any g l _ _ _ H.out).mono ?_
      rintro e w' ⟨rfl, rfl⟩
      rw [HE.out]
      go_wp2_with fail
      go_ret2
      exact ⟨by rw [HN.out, HC.out]; rfl, rfl⟩
  · have hb : mayB a 4 l.length = false := decide_eq_false hm
    have hd : wdB l.length a = false := decide_eq_false (by omega)
    have HL : Hid (rdL l a 4 = []) := Lib.hid (by unfold rdL; rw [hb]; rfl)
    have HN : Hid (wdN l a = 0) := Lib.hid (by unfold wdN; rw [hd]; rfl)
    have HC : Hid (errC (wdB l.length a) = 300) := Lib.hid (by rw [hd]; rfl)
    have HE : Hid (errC (mayB a 4 l.length) = 300) := Lib.hid (by rw [hb]; rfl)
    have H := Lib.hid h
    clear hb hd h hm
    go_enter Try.func76, Try.ntmps76
    go_wp2_with fail
    refine (pread_any g l _ _ _ H.out).mono ?_
    rintro e w' ⟨rfl, rfl⟩
    rw [HE.out]
    go_wp2_with fail
    go_ret2
    exact ⟨by rw [HN.out, HC.out]; rfl, rfl⟩

theorem pword_any (g : Nat) (l : List UInt8) (a : Int) (w : World) (h : PM w g l) :
    Calls Try.prog 59 #[.pointer (some ⟨g, 0, none⟩), .int .i64 a] w fun e w' => e = .returned (.tuple #[.int .i64 (wdN l a), .int .i64 (errC (wdB l.length a))]) ∧ w = w' := by
  have H := Lib.hid h; clear h
  go_enter Try.func59, Try.ntmps59
  go_wp2_with fail
  refine (wordBy_any g l _ _ H.out).mono ?_
  rintro e w' ⟨rfl, rfl⟩
  go_wp2_with fail
  go_ret2
  exact ⟨rfl, rfl⟩

theorem pputword_any (g : Nat) (l : List UInt8) (a x : Int) (w : World) (h : PM w g l) :
    Calls Try.prog 37 #[.pointer (some ⟨g, 0, none⟩), .int .i64 a, .int .i64 x] w fun e w' => e = .returned (.int .i64 (errC (pwB l.length a x))) ∧ PM w' g (pwL l a x) ∧ w.grownBy w' (some g) := by
  have H := Lib.hid h
  clear h
  by_cases h4 : a % 4 = 0
  · have hx4 : (a.tmod 4 != 0) = false := by simp [Int.tmod_eq_zero_of_dvd (Int.dvd_of_emod_eq_zero h4)]
    by_cases hx : 0 ≤ x ∧ x ≤ 4294967295
    · obtain ⟨hx0, hx1⟩ := hx
      have HB : Hid (pwB l.length a x = mayB a ((str (by4 x)).size : Nat) l.length) := Lib.hid (by
        rw [str_size, by4_len]
        unfold pwB mayB
        rw [decide_eq_decide]
        omega)
      have HL : Hid (pwL l a x = wrL l a (str (by4 x)).data.toList) := Lib.hid (by
        unfold pwL wrL
        rw [HB.out, str_list, str_size])
      have HS : Hid ((str (by4 x)).size ≤ maxLen) := Lib.hid (by rw [str_size, by4_len]; decide)
      clear h4
      go_enter Try.func37, Try.ntmps37
      go_wp2_with fail
      refine (bytes_any _ _ hx0 hx1).mono ?_
      rintro e w1 ⟨rfl, b1⟩
      have H1 := Lib.hid (H.out.below b1 H.out.lt)
      have HG := Lib.hid (gof b1 (some g))
      generalize str (by4 x) = X at HB HL HS
      clear b1
      go_wp2_with fail
      refine (pwrite_any g l _ _ _ H1.out HS.out).mono ?_
      rintro e w2 ⟨rfl, h2, g2⟩
      have H2 := Lib.hid h2; have G2 := Lib.hid g2; clear h2 g2
      go_wp2_with fail
      go_ret
      exact ⟨by rw [HB.out]; rfl, by rw [HL.out]; exact H2.out, gtrans HG.out G2.out⟩
    · have hb : pwB l.length a x = false := decide_eq_false (by omega)
      have HC : Hid (errC (pwB l.length a x) = 300) := Lib.hid (by rw [hb]; rfl)
      have HL : Hid (pwL l a x = l) := Lib.hid (by unfold pwL; rw [hb]; rfl)
      have h5 : x < 0 ∨ (0 ≤ x ∧ 4294967295 < x) := by omega
      clear hb hx h4
      rcases h5 with h5 | ⟨h5, h6⟩
      all_goals
        go_enter Try.func37, Try.ntmps37
        go_wp2_with fail
        go_ret
        exact ⟨by rw [HC.out]; rfl, by rw [HL.out]; exact H.out, grefl _ _⟩
  · have hx4 : (a.tmod 4 != 0) = true := by simpa using fun h => h4 (Int.emod_eq_zero_of_dvd (Int.dvd_of_tmod_eq_zero h))
    have hb : pwB l.length a x = false := decide_eq_false (by omega)
    have HC : Hid (errC (pwB l.length a x) = 300) := Lib.hid (by rw [hb]; rfl)
    have HL : Hid (pwL l a x = l) := Lib.hid (by unfold pwL; rw [hb]; rfl)
    clear hb h4
    go_enter Try.func37, Try.ntmps37
    go_wp2_with fail
    go_ret
    exact ⟨by rw [HC.out]; rfl, by rw [HL.out]; exact H.out, grefl _ _⟩

end Go.Proofs.Ytggdbiniklchoaa

namespace Go.Proofs.Ytggdbiniklchoaa
open Go.RowKit
set_option linter.unusedVariables false
set_option maxRecDepth 100000

theorem rmay_any (a n s : Int) (w : World) (h4 : s ≤ 9223372036854775807) :
    Calls Try.prog 22 #[.int .i64 a, .int .i64 n, .int .i64 s] w fun e w' => e = .returned (.bool (mayB a n s)) ∧ w = w' := by
  by_cases h : 0 ≤ a ∧ 0 ≤ n ∧ a ≤ s ∧ n ≤ s - a
  · rw [show mayB a n s = true from decide_eq_true h]
    exact rmay_yes a n s w h.1 h.2.1 h.2.2.1 h.2.2.2 h4
  · rw [show mayB a n s = false from decide_eq_false h]
    exact rmay_no a n s w h h4

/-- 'make([]byte, n)'. -/
theorem make_u8 (w : World) (n : Nat) (hn : n ≤ 65536) : (Instr.makeSlice 51 (.int .i64 (n : Int)) (.int .i64 (n : Int))).run Try.prog w = .ok (.slice (some ⟨w.heap.size, 0, none⟩) n n) (w.alloc (.cells (bts (zeros n)).toArray 5)) := by
  have hi : (Try.prog.info? 5).map (fun i => (i.zero, i.size, i.bytes)) = some (some (.int .u8 0), 1, 1) := by kernel_rfl
  obtain ⟨i0, hi, hz0, hz1, hz2⟩ := info_parts hi
  have := run_makeSlice (P := Try.prog) w 51 5 i0 (.int .u8 0) Try.underlying51 hi hz0 .i64 .i64 n n (by omega) (by omega) (by rw [hz1]; omega) (by rw [hz2]; omega) (by omega)
  rw [this, Int.toNat_natCast, hz1, Nat.mul_one]
  have e : madeCells (Value.int .u8 0).cells n = (bts (zeros n)).toArray := by
    apply Array.toList_inj.1
    apply List.ext_getElem
    · simp [madeCells, bts, zeros]
    · intro i h1 h2
      simp [madeCells, bts, zeros, Value.cells, Nat.mod_one]
  rw [e]

/-- 's[a:a+n]' of a slice of bytes that is all of its row. -/
theorem sl_lh (w : World) (b len a n : Nat) (hn : a + n ≤ len) (hl : len ≤ 65536) : ∃ o, (n = 0 ∨ o = a) ∧ (Instr.slice 51 (.slice (some ⟨b, 0, none⟩) len len) (some (.int .i64 (a : Int))) (some (.int .i64 ((a : Int) + n))) none).run Try.prog w = .ok (.slice (some ⟨b, o, none⟩) n (len - a)) w := by
  have ht := Try.underlying51
  have he : Try.prog.elem 51 = 5 := by kernel_rfl
  have hz : (Go.sizeOf 5).run Try.prog w = .ok 1 w := by
    have hi : (Try.prog.info? 5).map (fun i => (i.zero, i.size, i.bytes)) = some (some (.int .u8 0), 1, 1) := by kernel_rfl
    obtain ⟨i0, hi, _, hz1, _⟩ := info_parts hi
    simp [Go.sizeOf, typeInfo, hi, hz1]
  rw [run_slice_lh w 51 _ _ _ (by rw [he]; exact ht) .i64 .i64 _ _ (by omega) (by omega) (by omega), he, hz]
  by_cases h : len = a
  · exact ⟨0, .inl (by omega), by simp [Result.andThen, sliced, h]; omega⟩
  · exact ⟨a, .inr rfl, by simp [Result.andThen, sliced, h, add_none]; omega⟩

theorem RM.read {w : World} {r b : Nat} {l : List UInt8} (h : RM w r b l) (a n : Nat) (hn : a + n ≤ l.length) : ∃ o, (Instr.slice 51 (.slice (some ⟨b, 0, none⟩) l.length l.length) (some (.int .i64 (a : Int))) (some (.int .i64 ((a : Int) + n))) none).run Try.prog w = .ok (.slice (some ⟨b, o, none⟩) n (l.length - a)) w ∧
    (convert 51 9 (.slice (some ⟨b, o, none⟩) n (l.length - a))).run Try.prog w = .ok (.string (str ((l.drop a).take n))) w := by
  have hl := h.1
  obtain ⟨o, ho, hs⟩ := sl_lh w b l.length a n hn (by omega)
  refine ⟨o, hs, ?_⟩
  have hl : ((l.drop a).take n).length = n := by simp; omega
  have := conv_str (w := w) b o (l.length - a) ((l.drop a).take n) (fun i hi => by
    rw [hl] at hi
    obtain rfl : o = a := by omega
    rw [h.at_ (k := o + i) (by omega)]
    simp [List.getD, hi])
  rw [hl] at this
  exact this

theorem rnew_no (c : Int) (w : World) (h : ¬ (1 ≤ c ∧ c ≤ 64)) :
    Calls Try.prog 5 #[.int .i64 c] w fun e w' => e = .returned (.tuple #[.pointer none, .int .i64 300]) ∧ w = w' := by
  by_cases h1 : c < 1
  · clear h
    go_enter Try.func5, Try.ntmps5
    go_wp2
    go_ret2
    exact ⟨rfl, rfl⟩
  · have h2 : 64 < c := by omega
    clear h
    go_enter Try.func5, Try.ntmps5
    go_wp2
    go_ret2
    exact ⟨rfl, rfl⟩

theorem rnew_yes (c : Int) (w : World) (h1 : 1 ≤ c) (h2 : c ≤ 64) :
    Calls Try.prog 5 #[.int .i64 c] w fun e w' => e = .returned (.tuple #[.pointer (some ⟨w.heap.size + 1, 0, none⟩), .int .i64 0]) ∧ RM w' (w.heap.size + 1) w.heap.size (zeros (64 * c.toNat)) ∧ Below w.heap.size w w' := by
  obtain ⟨c, rfl⟩ := Int.eq_ofNat_of_zero_le (show 0 ≤ c by omega)
  go_enter Try.func5, Try.ntmps5
  have hm := make_u8 w (64 * c) (by omega)
  rw [show ((64 * c : Nat) : Int) = c * 64 by omega] at hm
  have HN := Lib.hid (show (zeros (64 * c)).length = 64 * c from zeros_len _)
  generalize hZ : zeros (64 * c) = Z at hm HN
  have HZ := Lib.hid hZ; clear hZ
  have hb0 := Blk.new w 5 (bts Z)
  have hs0 : (w.alloc (.cells (bts Z).toArray 5)).heap.size = w.heap.size + 1 := by simp
  have bel := (Below.refl w.heap.size w).alloc (Nat.le_refl _) (.cells (bts Z).toArray 5)
  generalize w.alloc (.cells (bts Z).toArray 5) = w1 at *
  have HB0 := Lib.hid hb0; have HBel := Lib.hid bel; clear hb0 bel
  go_wp2_with fail
  go_ret2
  refine ⟨rfl, ?_, HBel.out.alloc (by omega) _⟩
  rw [Int.toNat_natCast, HZ.out]
  have := Blk.new w1 53 [.slice (some ⟨w.heap.size, 0, none⟩) (64 * c) (64 * c)]
  rw [hs0] at this
  exact ⟨by rw [HN.out]; omega, by rw [HN.out]; omega, by rw [HN.out]; exact this, HB0.out.alloc _⟩

theorem rframes_any (r b : Nat) (l : List UInt8) (w : World) (h : RM w r b l) :
    Calls Try.prog 28 #[.pointer (some ⟨r, 0, none⟩)] w fun e w' => e = .returned (.int .i64 ((l.length : Int) / 64)) ∧ w = w' := by
  have hc := h.row
  have hl : l.length ≤ 4096 := h.1
  clear h
  go_enter Try.func28, Try.ntmps28
  go_wp2
  go_ret
  exact ⟨rfl, rfl⟩

/-- What of a writing to the document's memory is known. -/
def RWrote (r b B : Nat) (l : List UInt8) (w w' : World) : Prop := RM w' r b l ∧ w.grownBy w' (some b)

theorem rwrite_any (r b : Nat) (l : List UInt8) (a : Int) (s : ByteArray) (w : World) (h : RM w r b l) (hs : s.size ≤ maxLen) :
    Calls Try.prog 9 #[.pointer (some ⟨r, 0, none⟩), .int .i64 a, .string s] w fun e w' => e = .returned (.int .i64 (errC (mayB a s.size l.length))) ∧ RM w' r b (wrL l a s.data.toList) ∧ w.grownBy w' (some b) := by
  have hc := h.row
  have hl : l.length ≤ 4096 := h.1
  unfold maxLen at hs
  by_cases hm : 0 ≤ a ∧ 0 ≤ (s.size : Int) ∧ a ≤ l.length ∧ s.size ≤ l.length - a
  · have hb : mayB a s.size l.length = true := decide_eq_true hm
    have HC : Hid (errC (mayB a s.size l.length) = 0) := Lib.hid (by rw [hb]; rfl)
    have HL : Hid (wrL l a s.data.toList = put l a.toNat s.data.toList) := Lib.hid (by unfold wrL; rw [list_len, hb]; rfl)
    obtain ⟨hm1, hm2, hm3, hm4⟩ := hm
    obtain ⟨a, rfl⟩ := Int.eq_ofNat_of_zero_le hm1
    rw [Int.toNat_natCast] at HL
    have HB := Lib.hid hb
    have hal : a + s.size ≤ l.length := by omega
    clear hb
    go_enter Try.func9, Try.ntmps9
    go_wp2_with fail
    refine (rmay_any _ _ _ _ (by omega)).mono ?_
    rintro e w' ⟨rfl, rfl⟩
    rw [HB.out]
    clear hc
    go_wp2_with fail
    go_loopw [7] (fun i wr => ∃ k : Nat, k ≤ s.size ∧ i = .int .i64 k ∧ RM wr r b (put l a (s.data.toList.take k)) ∧ w.grownBy wr (some b)) (fun i _ => s.size - (intOf i).toNat)
    case atStart => exact ⟨0, by omega, rfl, by rw [List.take_zero, put_nil]; exact h, grefl _ _⟩
    case round =>
      clear h
      obtain ⟨k, hk, rfl, h, hg⟩ := hrel
      by_cases hlt : k < s.size
      · have hlen : (put l a (s.data.toList.take k)).length = l.length := put_len _ _ _ (by rw [List.length_take, list_len]; omega)
        have hc := h.row
        rw [hlen] at hc
        have hu := h.at_ (k := a + k) (by omega)
        have hf := h.frozen (a + k)
        have hst := h.set (a + k) s[k]
        rw [put_step l a s.data.toList k (by rw [list_len]; exact hlt) (by rw [list_len]; exact hal) _ (byte_get s k hlt)] at hst
        have HH := Lib.hid hst; have HG := Lib.hid hg; clear hst hg h hlen
        generalize ((put l a (s.data.toList.take k)).getD (a + k) 0).toNat = u at hu
        have i1 : (k : Int) < s.size := by omega
        have i2 : (0 : Int) ≤ k := by omega
        have i3 : (a : Int) + k < l.length := by omega
        have i4 : (0 : Int) ≤ (a : Int) + k := by omega
        have i5 : IntKind.i64.wrap ((a : Int) + k) = (a : Int) + k := IntWalk.i64_in _ (by omega)
        have i6 : ((a : Int) + k).toNat = a + k := by omega
        go_wp2_with fail
        go_still_tail 11, (by kernel_rfl)
        change wpList _ _ _ _ _ wr.drew
        clear i5 i6
        have hu' : wr.drew.cell? ⟨b, a + k, none⟩ = some (.int .u8 (u : Int)) := hu
        have hf' : wr.drew.frozen? ⟨b, a + k, none⟩ = false := hf
        clear hu hf hc
        have H2 : Hid (RM (wr.drew.setCell ⟨b, a + k, none⟩ (.int .u8 (s[k].toNat : Int))) r b (put l a (s.data.toList.take (k + 1)))) := Lib.hid HH.out
        have G2 : Hid (w.grownBy wr.drew (some b)) := Lib.hid (gdrewN HG.out 1)
        clear HH HG
        generalize wr.drew = wd at *
        go_wp2_with fail
        go_roundw
        case rel => exact ⟨k + 1, by omega, by go_num, H2.out, gtrans G2.out (gone _)⟩
        case measure => simp [intOf]; omega
      · obtain rfl : k = s.size := by omega
        go_wp2_with fail
        go_ret
        exact ⟨by rw [HC.out]; rfl, by rw [HL.out]; rw [List.take_of_length_le (by rw [list_len]; omega)] at h; exact h, hg⟩
  · have hb : mayB a s.size l.length = false := decide_eq_false hm
    have HC : Hid (errC (mayB a s.size l.length) = 300) := Lib.hid (by rw [hb]; rfl)
    have HL : Hid (wrL l a s.data.toList = l) := Lib.hid (by unfold wrL; rw [list_len, hb]; rfl)
    have HB := Lib.hid hb; have H := Lib.hid h
    clear hb h hm
    go_enter Try.func9, Try.ntmps9
    go_wp2_with fail
    refine (rmay_any _ _ _ _ (by omega)).mono ?_
    rintro e w' ⟨rfl, rfl⟩
    rw [HB.out]
    go_wp2_with fail
    go_ret
    exact ⟨by rw [HC.out]; rfl, by rw [HL.out]; exact H.out, grefl _ _⟩

theorem zero64_at (k : Nat) (h : k < 64) : zero64.getD k 0 = 0 := by
  unfold zero64
  rw [List.getD_eq_getElem?_getD, List.getElem?_replicate, if_pos h]
  rfl
theorem rzero_any (r b : Nat) (l : List UInt8) (f : Int) (w : World) (h : RM w r b l) :
    Calls Try.prog 30 #[.pointer (some ⟨r, 0, none⟩), .int .i64 f] w fun e w' => e = .returned (.int .i64 (errC (zeB l.length f))) ∧ RM w' r b (zeL l f) ∧ w.grownBy w' (some b) := by
  have hl : l.length ≤ 4096 := h.1
  have hl64 := h.2.1.2
  have H := Lib.hid h
  by_cases h0 : f < 0
  · have hb : zeB l.length f = false := decide_eq_false (by omega)
    have HC : Hid (errC (zeB l.length f) = 300) := Lib.hid (by rw [hb]; rfl)
    have HL : Hid (zeL l f = l) := Lib.hid (by unfold zeL; rw [hb]; rfl)
    clear hb h hl64
    go_enter Try.func30, Try.ntmps30
    go_wp2_with fail
    go_ret
    exact ⟨by rw [HC.out]; rfl, by rw [HL.out]; exact H.out, grefl _ _⟩
  · by_cases h1 : 64 * f < l.length
    · have hb : zeB l.length f = true := decide_eq_true (by omega)
      have HC : Hid (errC (zeB l.length f) = 0) := Lib.hid (by rw [hb]; rfl)
      have HL : Hid (zeL l f = put l (64 * f.toNat) zero64) := Lib.hid (by unfold zeL; rw [hb]; rfl)
      obtain ⟨f, rfl⟩ := Int.eq_ofNat_of_zero_le (show 0 ≤ f by omega)
      rw [Int.toNat_natCast] at HL
      have hfl : 64 * f + 64 ≤ l.length := by omega
      have hf64 : f < 64 := by omega
      have hd : decide ((l.length : Int) / 64 ≤ f) = false := by simp; omega
      clear hb hl64 h0 h1
      go_enter Try.func30, Try.ntmps30
      go_wp2_with fail
      refine (rframes_any r b l _ H.out).mono ?_
      rintro e w' ⟨rfl, rfl⟩
      go_wp2_with fail
      go_loopw [5] (fun i wr => ∃ k : Nat, k ≤ 64 ∧ i = .int .i64 k ∧ RM wr r b (put l (64 * f) (zero64.take k)) ∧ w.grownBy wr (some b)) (fun i _ => 64 - (intOf i).toNat)
      case atStart => exact ⟨0, by omega, rfl, by rw [List.take_zero, put_nil]; exact h, grefl _ _⟩
      case round =>
        clear h
        obtain ⟨k, hk, rfl, h, hg⟩ := hrel
        by_cases hlt : k < 64
        · have hlen : (put l (64 * f) (zero64.take k)).length = l.length := put_len _ _ _ (by rw [List.length_take, zero64_len]; omega)
          have hc := h.row
          rw [hlen] at hc
          have hu := h.at_ (k := 64 * f + k) (by omega)
          have hf := h.frozen (64 * f + k)
          have hst := h.set (64 * f + k) 0
          rw [put_step l (64 * f) zero64 k (by rw [zero64_len]; exact hlt) (by rw [zero64_len]; exact hfl) 0 (zero64_at k hlt)] at hst
          have HH := Lib.hid hst; have HG := Lib.hid hg; clear hst hg h hlen
          generalize ((put l (64 * f) (zero64.take k)).getD (64 * f + k) 0).toNat = u at hu
          have i6 : ((f : Int) * 64 + k).toNat = 64 * f + k := by omega
          have i7 : (f : Int) * 64 + k < l.length := by omega
          go_wp2_with fail
          go_roundw
          case rel => exact ⟨k + 1, by omega, by go_num, HH.out, gtrans HG.out (gone _)⟩
          case measure => simp [intOf]; omega
        · obtain rfl : k = 64 := by omega
          go_wp2_with fail
          go_ret
          exact ⟨by rw [HC.out]; rfl, by rw [HL.out]; rw [List.take_of_length_le (by rw [zero64_len]; omega)] at h; exact h, hg⟩
    · have hb : zeB l.length f = false := decide_eq_false (by omega)
      have HC : Hid (errC (zeB l.length f) = 300) := Lib.hid (by rw [hb]; rfl)
      have HL : Hid (zeL l f = l) := Lib.hid (by unfold zeL; rw [hb]; rfl)
      have hd : decide ((l.length : Int) / 64 ≤ f) = true := by simp; omega
      clear hb h hl64
      go_enter Try.func30, Try.ntmps30
      go_wp2_with fail
      refine (rframes_any r b l _ H.out).mono ?_
      rintro e w' ⟨rfl, rfl⟩
      go_wp2_with fail
      go_ret
      exact ⟨by rw [HC.out]; rfl, by rw [HL.out]; exact H.out, grefl _ _⟩

theorem rputword_any (r b : Nat) (l : List UInt8) (a x : Int) (w : World) (h : RM w r b l) :
    Calls Try.prog 38 #[.pointer (some ⟨r, 0, none⟩), .int .i64 a, .int .i64 x] w fun e w' => e = .returned (.int .i64 (errC (pwB l.length a x))) ∧ RM w' r b (pwL l a x) ∧ w.grownBy w' (some b) := by
  have hl : l.length ≤ 4096 := h.1
  have hc := h.row
  by_cases hp : pwB l.length a x = true
  · have HC : Hid (errC (pwB l.length a x) = 0) := Lib.hid (by rw [hp]; rfl)
    have HL : Hid (pwL l a x = put l a.toNat (by4 x)) := Lib.hid (by unfold pwL; rw [hp]; rfl)
    simp only [pwB, decide_eq_true_eq] at hp
    obtain ⟨h0, h4, ha, hx0, hx1⟩ := hp
    have HB : Hid (mayB a 4 l.length = true) := Lib.hid (decide_eq_true (by omega))
    obtain ⟨a, rfl⟩ := Int.eq_ofNat_of_zero_le h0
    rw [Int.toNat_natCast] at HL
    have hal : a + 4 ≤ l.length := by omega
    have hx4 : ((a : Int) % 4 != 0) = false := by simp [h4]
    clear h4
    go_enter Try.func38, Try.ntmps38
    go_wp2_with fail
    refine (rmay_any _ _ _ _ (by omega)).mono ?_
    rintro e w' ⟨rfl, rfl⟩
    rw [HB.out]
    go_wp2_with fail
    go_loopw [7] (fun i wr => ∃ k : Nat, k ≤ 4 ∧ i = .int .i64 k ∧ RM wr r b (put l a ((by4 x).take k)) ∧ w.grownBy wr (some b)) (fun i _ => 4 - (intOf i).toNat)
    case atStart => exact ⟨0, by omega, rfl, by rw [List.take_zero, put_nil]; exact h, grefl _ _⟩
    case round =>
      clear h hc hx4
      obtain ⟨k, hk, rfl, h, hg⟩ := hrel
      by_cases hlt : k < 4
      · have hlen : (put l a ((by4 x).take k)).length = l.length := put_len _ _ _ (by rw [List.length_take, by4_len]; omega)
        have hc := h.row
        rw [hlen] at hc
        have hu := h.at_ (k := a + k) (by omega)
        have hf := h.frozen (a + k)
        have hst := h.set (a + k) ((by4 x).getD k 0)
        rw [put_step l a (by4 x) k (by rw [by4_len]; exact hlt) (by rw [by4_len]; exact hal) _ rfl, ← by4_at x k hlt hx0] at hst
        have HH := Lib.hid hst; have HG := Lib.hid hg; clear hst hg h hlen
        generalize ((put l a ((by4 x).take k)).getD (a + k) 0).toNat = u at hu
        have i6 : ((a : Int) + k).toNat = a + k := by omega
        have i7 : (a : Int) + k < l.length := by omega
        go_wp2_with fail
        go_roundw
        case rel => exact ⟨k + 1, by omega, by go_num, HH.out, gtrans HG.out (gone _)⟩
        case measure => simp [intOf]; omega
      · obtain rfl : k = 4 := by omega
        go_wp2_with fail
        go_ret
        exact ⟨by rw [HC.out]; rfl, by rw [HL.out]; rw [List.take_of_length_le (by rw [by4_len]; omega)] at h; exact h, hg⟩
  · have hb : pwB l.length a x = false := by simpa using hp
    have HC : Hid (errC (pwB l.length a x) = 300) := Lib.hid (by rw [hb]; rfl)
    have HL : Hid (pwL l a x = l) := Lib.hid (by unfold pwL; rw [hb]; rfl)
    have H := Lib.hid h
    simp only [pwB, decide_eq_true_eq] at hp
    by_cases h0 : a < 0
    · clear hb h hp
      go_enter Try.func38, Try.ntmps38
      go_wp2_with fail
      go_ret
      exact ⟨by rw [HC.out]; rfl, by rw [HL.out]; exact H.out, grefl _ _⟩
    · have h0' : 0 ≤ a := by omega
      by_cases h4 : a % 4 = 0
      · have hx4 : (a % 4 != 0) = false := by simp [h4]
        have hp' : ¬ (a + 4 ≤ l.length ∧ 0 ≤ x ∧ x ≤ 4294967295) := by omega
        clear h4 hp
        by_cases hm : a + 4 ≤ l.length
        · have HB : Hid (mayB a 4 l.length = true) := Lib.hid (decide_eq_true (by omega))
          have h5 : x < 0 ∨ (0 ≤ x ∧ 4294967295 < x) := by omega
          clear hp' hb h
          rcases h5 with h5 | ⟨h5, h6⟩
          all_goals
            go_enter Try.func38, Try.ntmps38
            go_wp2_with fail
            refine (rmay_any _ _ _ _ (by omega)).mono ?_
            rintro e w' ⟨rfl, rfl⟩
            rw [HB.out]
            go_wp2_with fail
            go_ret
            exact ⟨by rw [HC.out]; rfl, by rw [HL.out]; exact H.out, grefl _ _⟩
        · have HB : Hid (mayB a 4 l.length = false) := Lib.hid (decide_eq_false (by omega))
          clear hp' hb h
          go_enter Try.func38, Try.ntmps38
          go_wp2_with fail
          refine (rmay_any _ _ _ _ (by omega)).mono ?_
          rintro e w' ⟨rfl, rfl⟩
          rw [HB.out]
          go_wp2_with fail
          go_ret
          exact ⟨by rw [HC.out]; rfl, by rw [HL.out]; exact H.out, grefl _ _⟩
      · have hx4 : (a % 4 != 0) = true := by simpa using h4
        clear hb h hp h4
        go_enter Try.func38, Try.ntmps38
        go_wp2_with fail
        go_ret
        exact ⟨by rw [HC.out]; rfl, by rw [HL.out]; exact H.out, grefl _ _⟩

end Go.Proofs.Ytggdbiniklchoaa

namespace Go.Proofs.Ytggdbiniklchoaa
open Go.RowKit
set_option linter.unusedVariables false
set_option maxRecDepth 100000

theorem or4 (y0 y1 y2 y3 : UInt8) : bits BinOp.or IntKind.i64 (bits BinOp.or IntKind.i64 (bits BinOp.or IntKind.i64 (wrap64 (y0.toNat : Int)) (wrap64 (wrap64 (y1.toNat : Int) * 256))) (wrap64 (wrap64 (y2.toNat : Int) * 65536))) (wrap64 (wrap64 (y3.toNat : Int) * 16777216)) = num4 [y0, y1, y2, y3] := by
  have h0 : wrap64 (y0.toNat : Int) = numTo [y0, y1, y2, y3] 1 := by
    have := y0.toNat_lt
    simp [numTo, wrap64]
    omega
  have h1 := or_step [y0, y1, y2, y3] 1 (by omega) _ rfl
  have h2 := or_step [y0, y1, y2, y3] 2 (by omega) _ rfl
  have h3 := or_step [y0, y1, y2, y3] 3 (by omega) _ rfl
  rw [num4_to, h0]
  have e1 : (2 : Int) ^ (8 * 1) = 256 := by decide
  have e2 : (2 : Int) ^ (8 * 2) = 65536 := by decide
  have e3 : (2 : Int) ^ (8 * 3) = 16777216 := by decide
  rw [e1] at h1; rw [e2] at h2; rw [e3] at h3
  simp only [List.getD_cons_zero, List.getD_cons_succ] at h1 h2 h3
  rw [h1, h2, h3]

theorem take4 (l : List UInt8) (a : Nat) (h : a + 4 ≤ l.length) : (l.drop a).take 4 = [l.getD a 0, l.getD (a + 1) 0, l.getD (a + 2) 0, l.getD (a + 3) 0] := by
  have g : ∀ k (hk : k < l.length), l.getD k 0 = l[k] := by intro k hk; simp [List.getD, List.getElem?_eq_getElem hk]
  rw [g a (by omega), g (a + 1) (by omega), g (a + 2) (by omega), g (a + 3) (by omega)]
  rw [List.drop_eq_getElem_cons (by omega), List.drop_eq_getElem_cons (by omega), List.drop_eq_getElem_cons (by omega), List.drop_eq_getElem_cons (by omega)]
  rfl

theorem rword_any (r b : Nat) (l : List UInt8) (a : Int) (w : World) (h : RM w r b l) :
    Calls Try.prog 85 #[.pointer (some ⟨r, 0, none⟩), .int .i64 a] w fun e w' => e = .returned (.tuple #[.int .i64 (wdN l a), .int .i64 (errC (wdB l.length a))]) ∧ ∃ n, w.drewN n = w' := by
  have hl : l.length ≤ 4096 := h.1
  have hc := h.row
  by_cases hp : wdB l.length a = true
  · have HC : Hid (errC (wdB l.length a) = 0) := Lib.hid (by rw [hp]; rfl)
    have HL : Hid (wdN l a = num4 ((l.drop a.toNat).take 4)) := Lib.hid (by unfold wdN; rw [hp]; rfl)
    simp only [wdB, decide_eq_true_eq] at hp
    obtain ⟨h0, h4, ha⟩ := hp
    have HB : Hid (mayB a 4 l.length = true) := Lib.hid (decide_eq_true (by omega))
    obtain ⟨a, rfl⟩ := Int.eq_ofNat_of_zero_le h0
    rw [Int.toNat_natCast] at HL
    have hal : a + 4 ≤ l.length := by omega
    have hx4 : ((a : Int) % 4 != 0) = false := by simp [h4]
    clear h4
    have c0 := h.at_ (k := a) (by omega)
    have c1 := h.at_ (k := a + 1) (by omega)
    have c2 := h.at_ (k := a + 2) (by omega)
    have c3 := h.at_ (k := a + 3) (by omega)
    have h4 := take4 l a hal
    generalize l.getD a 0 = y0 at c0 h4
    generalize l.getD (a + 1) 0 = y1 at c1 h4
    generalize l.getD (a + 2) 0 = y2 at c2 h4
    generalize l.getD (a + 3) 0 = y3 at c3 h4
    have H4 := Lib.hid h4; clear h4
    have i1 : (a : Int) + 1 < l.length := by omega
    have i2 : (a : Int) + 2 < l.length := by omega
    have i3 : (a : Int) + 3 < l.length := by omega
    have i0 : (a : Int) < l.length := by omega
    have j1 : 0 ≤ (a : Int) + 1 := by omega
    have j2 : 0 ≤ (a : Int) + 2 := by omega
    have j3 : 0 ≤ (a : Int) + 3 := by omega
    go_enter Try.func85, Try.ntmps85
    go_wp2_with fail
    refine (rmay_any _ _ _ _ (by omega)).mono ?_
    rintro e w' ⟨rfl, rfl⟩
    rw [HB.out]
    go_wp2_with fail
    have n1 : IntKind.i64.wrap ((a : Int) + 1) = (a : Int) + 1 := IntWalk.i64_in _ (by omega)
    have n2 : IntKind.i64.wrap ((a : Int) + 2) = (a : Int) + 2 := IntWalk.i64_in _ (by omega)
    have n3 : IntKind.i64.wrap ((a : Int) + 3) = (a : Int) + 3 := IntWalk.i64_in _ (by omega)
    have m1 : ((a : Int) + 1).toNat = a + 1 := by omega
    have m2 : ((a : Int) + 2).toNat = a + 2 := by omega
    have m3 : ((a : Int) + 3).toNat = a + 3 := by omega
    go_quiet (fail)
    clear n1 n2 n3 m1 m2 m3
    go_wp2_with fail
    go_ret2
    exact ⟨by rw [HL.out, HC.out, H4.out, ← or4]; rfl, _, rfl⟩
  · have hb : wdB l.length a = false := by simpa using hp
    have HC : Hid (errC (wdB l.length a) = 300) := Lib.hid (by rw [hb]; rfl)
    have HL : Hid (wdN l a = 0) := Lib.hid (by unfold wdN; rw [hb]; rfl)
    simp only [wdB, decide_eq_true_eq] at hp
    by_cases h0 : a < 0
    · clear hb h hp
      go_enter Try.func85, Try.ntmps85
      go_wp2_with fail
      go_ret2
      exact ⟨by rw [HL.out, HC.out]; rfl, 0, rfl⟩
    · have h0' : 0 ≤ a := by omega
      by_cases h4 : a % 4 = 0
      · have hx4 : (a % 4 != 0) = false := by simp [h4]
        have HB : Hid (mayB a 4 l.length = false) := Lib.hid (decide_eq_false (by omega))
        clear hb h h4 hp
        go_enter Try.func85, Try.ntmps85
        go_wp2_with fail
        refine (rmay_any _ _ _ _ (by omega)).mono ?_
        rintro e w' ⟨rfl, rfl⟩
        rw [HB.out]
        go_wp2_with fail
        go_ret2
        exact ⟨by rw [HL.out, HC.out]; rfl, 0, rfl⟩
      · have hx4 : (a % 4 != 0) = true := by simpa using h4
        clear hb h h4 hp
        go_enter Try.func85, Try.ntmps85
        go_wp2_with fail
        go_ret2
        exact ⟨by rw [HL.out, HC.out]; rfl, 0, rfl⟩

end Go.Proofs.Ytggdbiniklchoaa

namespace Go.Proofs.Ytggdbiniklchoaa
open Go.RowKit
set_option linter.unusedVariables false
set_option maxRecDepth 100000

/-- A writing whose answer is known. -/
theorem pwrite_is (g : Nat) (l l' : List UInt8) (a c : Int) (s : ByteArray) (w : World) (h : PM w g l) (hs : s.size ≤ maxLen) (hl : wrL l a s.data.toList = l') (hc : errC (mayB a s.size l.length) = c) :
    Calls Try.prog 8 #[.pointer (some ⟨g, 0, none⟩), .int .i64 a, .string s] w fun e w' => e = .returned (.int .i64 c) ∧ PM w' g l' ∧ w.grownBy w' (some g) := by
  have := pwrite_any g l a s w h hs
  rw [hl, hc] at this
  exact this
theorem pputword_is (g : Nat) (l l' : List UInt8) (a x c : Int) (w : World) (h : PM w g l) (hl : pwL l a x = l') (hc : errC (pwB l.length a x) = c) :
    Calls Try.prog 37 #[.pointer (some ⟨g, 0, none⟩), .int .i64 a, .int .i64 x] w fun e w' => e = .returned (.int .i64 c) ∧ PM w' g l' ∧ w.grownBy w' (some g) := by
  have := pputword_any g l a x w h
  rw [hl, hc] at this
  exact this
theorem pzero_is (g : Nat) (l l' : List UInt8) (f c : Int) (w : World) (h : PM w g l) (hl : zeL l f = l') (hc : errC (zeB l.length f) = c) :
    Calls Try.prog 49 #[.pointer (some ⟨g, 0, none⟩), .int .i64 f] w fun e w' => e = .returned (.int .i64 c) ∧ PM w' g l' ∧ w.grownBy w' (some g) := by
  have := pzero_any g l f w h
  rw [hl, hc] at this
  exact this
theorem pread_is (g : Nat) (l : List UInt8) (a n c : Int) (s : ByteArray) (w : World) (h : PM w g l) (hs : str (rdL l a n) = s) (hc : errC (mayB a n l.length) = c) :
    Calls Try.prog 15 #[.pointer (some ⟨g, 0, none⟩), .int .i64 a, .int .i64 n] w fun e w' => e = .returned (.tuple #[.string s, .int .i64 c]) ∧ w = w' := by
  have := pread_any g l a n w h
  rw [hs, hc] at this
  exact this
theorem pword_is (g : Nat) (l : List UInt8) (a x c : Int) (w : World) (h : PM w g l) (hx : wdN l a = x) (hc : errC (wdB l.length a) = c) :
    Calls Try.prog 59 #[.pointer (some ⟨g, 0, none⟩), .int .i64 a] w fun e w' => e = .returned (.tuple #[.int .i64 x, .int .i64 c]) ∧ w = w' := by
  have := pword_any g l a w h
  rw [hx, hc] at this
  exact this


def aw0 : List UInt8 := zeros 128
def aw1 : List UInt8 := wrL aw0 62 [97, 98, 99, 100]
def aw2 : List UInt8 := pwL aw1 4 67305985
def aw3 : List UInt8 := zeL aw2 1

end Go.Proofs.Ytggdbiniklchoaa

namespace Go.Proofs.Ytggdbiniklchoaa
open Go.RowKit
set_option linter.unusedVariables false
set_option maxRecDepth 100000

theorem wr_none (l : List UInt8) (a : Int) (s : ByteArray) (h : ¬ (0 ≤ a ∧ a ≤ l.length ∧ (s.size : Int) ≤ l.length - a)) : wrL l a s.data.toList = l ∧ errC (mayB a s.size l.length) = 300 := by
  have hs : mayB a s.size l.length = false := decide_eq_false (by omega)
  have hs' : mayB a s.data.toList.length l.length = false := by rw [list_len]; exact hs
  constructor
  · unfold wrL; rw [hs']; rfl
  · rw [hs]; rfl
theorem rd_none (l : List UInt8) (a n : Int) (h : ¬ (0 ≤ a ∧ 0 ≤ n ∧ a ≤ l.length ∧ n ≤ l.length - a)) : str (rdL l a n) = ⟨#[]⟩ ∧ errC (mayB a n l.length) = 300 := by
  have hs : mayB a n l.length = false := decide_eq_false h
  constructor
  · unfold rdL; rw [hs]; rfl
  · rw [hs]; rfl
theorem pw_none (l : List UInt8) (a x : Int) (h : ¬ (0 ≤ a ∧ a % 4 = 0 ∧ a + 4 ≤ l.length ∧ 0 ≤ x ∧ x ≤ 4294967295)) : pwL l a x = l ∧ errC (pwB l.length a x) = 300 := by
  have hs : pwB l.length a x = false := decide_eq_false h
  constructor
  · unfold pwL; rw [hs]; rfl
  · rw [hs]; rfl
theorem wd_none (l : List UInt8) (a : Int) (h : ¬ (0 ≤ a ∧ a % 4 = 0 ∧ a + 4 ≤ l.length)) : wdN l a = 0 ∧ errC (wdB l.length a) = 300 := by
  have hs : wdB l.length a = false := decide_eq_false h
  constructor
  · unfold wdN; rw [hs]; rfl
  · rw [hs]; rfl
theorem ze_none (l : List UInt8) (f : Int) (h : ¬ (0 ≤ f ∧ 64 * f < l.length)) : zeL l f = l ∧ errC (zeB l.length f) = 300 := by
  have hs : zeB l.length f = false := decide_eq_false h
  constructor
  · unfold zeL; rw [hs]; rfl
  · rw [hs]; rfl

theorem ze_yes (l : List UInt8) (f : Nat) (h : 64 * f < l.length) : zeL l f = put l (64 * f) zero64 ∧ errC (zeB l.length f) = 0 := by
  have hs : zeB l.length f = true := decide_eq_true (by omega)
  constructor
  · unfold zeL; rw [hs, if_pos rfl, Int.toNat_natCast]
  · rw [hs]; rfl
/-- What is written all over. -/
theorem wr_all (l s : List UInt8) (h : s.length = l.length) : wrL l 0 s = s ∧ errC (mayB 0 (s.length : Nat) l.length) = 0 := by
  have hs : mayB 0 s.length l.length = true := decide_eq_true (by omega)
  constructor
  · unfold wrL
    rw [hs, if_pos rfl, Int.toNat_zero]
    simp [put, h]
  · rw [hs]; rfl
theorem wr_yes (l : List UInt8) (a : Nat) (s : ByteArray) (h : a + s.size ≤ l.length) : wrL l a s.data.toList = put l a s.data.toList ∧ errC (mayB a s.size l.length) = 0 := by
  have hs : mayB a s.size l.length = true := decide_eq_true (by omega)
  have hs' : mayB a s.data.toList.length l.length = true := by rw [list_len]; exact hs
  constructor
  · unfold wrL; rw [hs', if_pos rfl, Int.toNat_natCast]
  · rw [hs]; rfl
theorem rd_yes (l : List UInt8) (a n : Nat) (h : a + n ≤ l.length) : rdL l a n = (l.drop a).take n ∧ errC (mayB a n l.length) = 0 := by
  have hs : mayB a n l.length = true := decide_eq_true (by omega)
  constructor
  · unfold rdL; rw [hs, if_pos rfl, Int.toNat_natCast, Int.toNat_natCast]
  · rw [hs]; rfl
theorem put_mid (l : List UInt8) (a : Nat) (s : List UInt8) (h : a + s.length ≤ l.length) : ((put l a s).drop a).take s.length = s := by
  have e : (l.take a).length = a := by rw [List.length_take]; omega
  unfold put
  rw [List.append_assoc, List.drop_append_of_le_length (by omega), List.drop_of_length_le (by omega), List.nil_append, List.take_left]
theorem put_str (l : List UInt8) (a : Nat) (s : ByteArray) : (str l).extract 0 a ++ s ++ (str l).extract (a + s.size) l.length = str (put l a s.data.toList) := by
  apply ByteArray.ext
  apply Array.toList_inj.1
  simp [put, str]
  exact List.take_of_length_le (by simp)

/-- A slice of one byte, as a string. -/
theorem one_str (W : World) (V : Int) (y : UInt8) (h : V = (y.toNat : Int)) : (convert 51 9 (.slice (some ⟨W.heap.size, 0, none⟩) 1 1)).run Try.prog (W.alloc (.cells #[.int .u8 V] 5)) = .ok (.string (str [y])) (W.alloc (.cells #[.int .u8 V] 5)) := by
  subst h
  have hb := Blk.new W 5 (bts [y])
  exact conv_str (w := W.alloc (.cells (bts [y]).toArray 5)) W.heap.size 0 1 [y] (fun i hi => by rw [hb.cell, Nat.zero_add, bts_get _ i hi])

theorem make_str (W : World) (n : Nat) (hn : n ≤ 65536) : (convert 51 9 (.slice (some ⟨W.heap.size, 0, none⟩) n n)).run Try.prog (W.alloc (.cells (bts (zeros n)).toArray 5)) = .ok (.string (str (zeros n))) (W.alloc (.cells (bts (zeros n)).toArray 5)) := by
  have hb := Blk.new W 5 (bts (zeros n))
  have := conv_str (w := W.alloc (.cells (bts (zeros n)).toArray 5)) W.heap.size 0 n (zeros n) (fun i hi => by rw [hb.cell, Nat.zero_add, bts_get _ i hi])
  rw [zeros_len] at this
  exact this

end Go.Proofs.Ytggdbiniklchoaa
