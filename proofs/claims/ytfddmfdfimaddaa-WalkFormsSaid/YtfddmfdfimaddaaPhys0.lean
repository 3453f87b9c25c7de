/-
  Plain words of layer 3: a memory's bytes as a list; a memory in memory, the program's and the document's. No Go function here.
-/
import Derived.Test.YtfddmfdfimaddaaMem
import Derived.Test.YtfddmfdfimaddaaChecked
import Derived.Lib.BufferWrite
import Derived.Lib.SlBytesRow
import Derived.Lib.SliceRun
import Derived.Laws.CopyRow
namespace Go.Proofs.Ytfddmfdfimaddaa
open Go.RowKit
set_option linter.unusedVariables false

/-- The cells of bytes. -/
def bts (l : List UInt8) : List Value := l.map fun b => Value.int .u8 (b.toNat : Int)
theorem bts_len (l : List UInt8) : (bts l).length = l.length := by simp [bts]
theorem bts_append (a b : List UInt8) : bts (a ++ b) = bts a ++ bts b := by simp [bts]
theorem bts_take (l : List UInt8) (k : Nat) : (bts l).take k = bts (l.take k) := by simp [bts]
theorem bts_drop (l : List UInt8) (k : Nat) : (bts l).drop k = bts (l.drop k) := by simp [bts]
theorem bts_get (l : List UInt8) (k : Nat) (h : k < l.length) : (bts l)[k]? = some (.int .u8 ((l.getD k 0).toNat : Int)) := by
  simp [bts, List.getD, List.getElem?_eq_getElem h]

/-- A list with s put at a. -/
def put (l : List UInt8) (a : Nat) (s : List UInt8) : List UInt8 := l.take a ++ s ++ l.drop (a + s.length)
theorem put_len (l : List UInt8) (a : Nat) (s : List UInt8) (h : a + s.length ≤ l.length) : (put l a s).length = l.length := by simp [put]; omega
theorem put_nil (l : List UInt8) (a : Nat) : put l a [] = l := by simp [put]
theorem put_step (l : List UInt8) (a : Nat) (s : List UInt8) (k : Nat) (hk : k < s.length) (h : a + s.length ≤ l.length) (x : UInt8) (hx : s.getD k 0 = x) : (put l a (s.take k)).set (a + k) x = put l a (s.take (k + 1)) := by
  have hx' : s[k]? = some x := by rw [← hx]; simp [List.getD, List.getElem?_eq_getElem hk]
  have e1 : min a l.length = a := by omega
  have e2 : min k s.length = k := by omega
  have hA : (l.take a ++ s.take k).length = a + k := by rw [List.length_append, List.length_take, List.length_take, e1, e2]
  unfold put
  rw [List.length_take, List.length_take, e2, show min (k + 1) s.length = k + 1 by omega, List.set_append_right _ _ (by omega), hA, Nat.sub_self, List.take_add_one, hx']
  have hd : l.drop (a + k) = l[a + k]'(by omega) :: l.drop (a + (k + 1)) := by rw [List.drop_eq_getElem_cons (by omega)]; rfl
  rw [hd, List.set_cons_zero]
  simp
theorem bts_put (l : List UInt8) (a : Nat) (s : List UInt8) : bts (put l a s) = (bts l).take a ++ bts s ++ (bts l).drop (a + s.length) := by
  simp [put, bts_append, bts_take, bts_drop]

/-- The string of bytes. -/
def str (l : List UInt8) : ByteArray := ⟨l.toArray⟩
theorem str_size (l : List UInt8) : (str l).size = l.length := by simp [str, ByteArray.size]
theorem str_list (l : List UInt8) : (str l).data.toList = l := by simp [str]
theorem str_of (s : ByteArray) : str s.data.toList = s := by
  apply ByteArray.ext
  show s.data.toList.toArray = s.data
  exact Array.toArray_toList ..
theorem list_len (s : ByteArray) : s.data.toList.length = s.size := Array.length_toList
theorem str_append (a b : List UInt8) : str a ++ str b = str (a ++ b) := by
  apply ByteArray.ext
  rw [ByteArray.data_append]
  exact List.append_toArray ..

/-- May n bytes from a on be reached, where there are s? -/
def mayB (a n s : Int) : Bool := decide (0 ≤ a ∧ 0 ≤ n ∧ a ≤ s ∧ n ≤ s - a)
def errC (b : Bool) : Int := if b then 0 else 300
theorem errC_or (b : Bool) : errC b = 0 ∨ errC b = 300 := by cases b <;> simp [errC]
def wrL (l : List UInt8) (a : Int) (s : List UInt8) : List UInt8 := if mayB a s.length l.length then put l a.toNat s else l
theorem wrL_len (l : List UInt8) (a : Int) (s : List UInt8) : (wrL l a s).length = l.length := by
  unfold wrL; split
  · rename_i h
    simp only [mayB, decide_eq_true_eq] at h
    exact put_len _ _ _ (by omega)
  · rfl
def rdL (l : List UInt8) (a n : Int) : List UInt8 := if mayB a n l.length then (l.drop a.toNat).take n.toNat else []

/-- The number of four bytes, the lowest first. -/
def num4 (b : List UInt8) : Int := (b.getD 0 0).toNat + 256 * (b.getD 1 0).toNat + 65536 * (b.getD 2 0).toNat + 16777216 * (b.getD 3 0).toNat
/-- A number's four bytes. -/
def by4 (x : Int) : List UInt8 := [UInt8.ofNat x.toNat, UInt8.ofNat (x / 256).toNat, UInt8.ofNat (x / 65536).toNat, UInt8.ofNat (x / 16777216).toNat]
theorem by4_len (x : Int) : (by4 x).length = 4 := rfl
theorem num_by (x : Int) (h0 : 0 ≤ x) (h1 : x ≤ 4294967295) : num4 (by4 x) = x := by
  obtain ⟨x, rfl⟩ := Int.eq_ofNat_of_zero_le h0
  simp only [num4, by4, List.getD_cons_zero, List.getD_cons_succ, UInt8.toNat_ofNat']
  omega
theorem num4_bound (b : List UInt8) : 0 ≤ num4 b ∧ num4 b ≤ 4294967295 := by
  have h0 := (b.getD 0 0).toNat_lt
  have h1 := (b.getD 1 0).toNat_lt
  have h2 := (b.getD 2 0).toNat_lt
  have h3 := (b.getD 3 0).toNat_lt
  unfold num4
  omega

def wdB (size : Nat) (a : Int) : Bool := decide (0 ≤ a ∧ a % 4 = 0 ∧ a + 4 ≤ size)
def wdN (l : List UInt8) (a : Int) : Int := if wdB l.length a then num4 ((l.drop a.toNat).take 4) else 0
def pwB (size : Nat) (a x : Int) : Bool := decide (0 ≤ a ∧ a % 4 = 0 ∧ a + 4 ≤ size ∧ 0 ≤ x ∧ x ≤ 4294967295)
def pwL (l : List UInt8) (a x : Int) : List UInt8 := if pwB l.length a x then put l a.toNat (by4 x) else l
theorem pwL_len (l : List UInt8) (a x : Int) : (pwL l a x).length = l.length := by
  unfold pwL; split
  · rename_i h
    simp only [pwB, decide_eq_true_eq] at h
    exact put_len _ _ _ (by rw [by4_len]; omega)
  · rfl
def zeB (size : Nat) (f : Int) : Bool := decide (0 ≤ f ∧ 64 * f < size)
def zero64 : List UInt8 := List.replicate 64 0
theorem zero64_len : zero64.length = 64 := by simp [zero64]
def zeL (l : List UInt8) (f : Int) : List UInt8 := if zeB l.length f then put l (64 * f.toNat) zero64 else l

/-- A program's memory of so many bytes: at block g. -/
def PM (w : World) (g : Nat) (l : List UInt8) : Prop :=
  ∃ (m : Nat) (rest : List Value), 1 ≤ m ∧ m ≤ 64 ∧ l.length = 64 * m ∧ rest.length = 4096 - 64 * m ∧ Blk w g 63 (.int .i64 m :: (bts l ++ rest))

section
variable {w w' : World} {g : Nat} {l : List UInt8}
theorem PM.lt (h : PM w g l) : g < w.heap.size := by obtain ⟨_, _, _, _, _, _, h⟩ := h; exact h.lt
theorem PM.size (h : PM w g l) : ∃ m : Nat, 1 ≤ m ∧ m ≤ 64 ∧ l.length = 64 * m ∧ w.cell? ⟨g, 0, none⟩ = some (.int .i64 m) := by
  obtain ⟨m, _, h1, h2, h3, _, h⟩ := h
  exact ⟨m, h1, h2, h3, by rw [h.cell]; rfl⟩
theorem PM.frozen (h : PM w g l) (i : Nat) : w.frozen? ⟨g, i, none⟩ = false := by obtain ⟨_, _, _, _, _, _, h⟩ := h; exact h.frozen i
theorem PM.drewN (h : PM w g l) (n : Nat) : PM (w.drewN n) g l := h
theorem PM.below {B : Nat} (h : PM w g l) (hb : Below B w w') (hg : g < B) : PM w' g l := by obtain ⟨m, r, h1, h2, h3, h4, h⟩ := h; exact ⟨m, r, h1, h2, h3, h4, h.below hb hg⟩
theorem PM.grown {row : Option Nat} (h : PM w g l) (hb : w.grownBy w' row) (hg : some g ≠ row) : PM w' g l := by obtain ⟨m, r, h1, h2, h3, h4, h⟩ := h; exact ⟨m, r, h1, h2, h3, h4, h.grown hb hg⟩
theorem PM.alloc (h : PM w g l) (o : Obj) : PM (w.alloc o) g l := by obtain ⟨m, r, h1, h2, h3, h4, h⟩ := h; exact ⟨m, r, h1, h2, h3, h4, h.alloc o⟩
theorem PM.far (h : PM w g l) {p : Addr} (hp : g ≠ p.block) (u : Value) : PM (w.setCell p u) g l := by obtain ⟨m, r, h1, h2, h3, h4, h⟩ := h; exact ⟨m, r, h1, h2, h3, h4, h.far hp u⟩

theorem grown_setRow (w : World) (g : Nat) (cs : Array Value) : w.grownBy (w.setRow g cs) (some g) :=
  ⟨rfl, rfl, rfl, by simp, fun i _ hne => setRow_other w g i cs (fun e => hne (by rw [e]))⟩
theorem Blk.row {t : TypeId} {cs : List Value} (h : Blk w g t cs) (cs' : List Value) : Blk (w.setRow g cs'.toArray) g t cs' := setRow_heap w g _ _ t (0, 0) h

/-- A slice of bytes as a string. -/
theorem conv_str (b off cap : Nat) (l : List UInt8) (h : ∀ i, i < l.length → w.cell? ⟨b, off + i, none⟩ = some (.int .u8 ((l.getD i 0).toNat : Int))) :
    (convert 38 9 (.slice (some ⟨b, off, none⟩) l.length cap)).run Try.prog w = .ok (.string (str l)) w := by
  have := run_convert_bytes_arg (P := Try.prog) w 38 5 Try.underlying38 Try.underlying5 b off l.length cap (l.map fun x => (x.toNat : Int)) (by simp) (fun i hi => by
    rw [h i hi]
    simp [List.getD, List.getElem?_map, List.getElem?_eq_getElem hi]) 9 Try.underlying9
  rw [this]
  congr 2
  apply ByteArray.ext
  apply Array.toList_inj.1
  rw [strOfNums_data, List.map_map, str_list]
  conv => rhs; rw [← List.map_id l]
  apply List.map_congr_left
  intro x _
  simp

theorem PM.at_ (h : PM w g l) {k : Nat} (hk : k < l.length) : w.cell? ⟨g, 1 + k, none⟩ = some (.int .u8 ((l.getD k 0).toNat : Int)) := by
  obtain ⟨m, rest, h1, h2, h3, h4, h⟩ := h
  rw [h.cell, Nat.add_comm 1 k, List.getElem?_cons_succ, List.getElem?_append_left (by rw [bts_len]; exact hk), bts_get l k hk]

theorem arr_lh (w : World) (g a n : Nat) (hn : a + n ≤ 4096) : ∃ o, (n = 0 ∨ o = 1 + a) ∧ (Instr.sliceAt 61 (.pointer (some ⟨g, 1, none⟩)) (some (.int .i64 (a : Int))) (some (.int .i64 ((a : Int) + n))) none).run Try.prog w = .ok (.slice (some ⟨g, o, none⟩) n (4096 - a)) w := by
  have ht := Try.underlying61
  have hl : Try.prog.arrayLen 61 = 4096 := by kernel_rfl
  have he : Try.prog.elem 61 = 5 := by kernel_rfl
  have hz : (Go.sizeOf 5).run Try.prog w = .ok 1 w := by
    have hi : (Try.prog.info? 5).map (fun i => (i.zero, i.size, i.bytes)) = some (some (.int .u8 0), 1, 1) := by kernel_rfl
    obtain ⟨i0, hi, _, hz1, _⟩ := info_parts hi
    simp [Go.sizeOf, typeInfo, hi, hz1]
  rw [run_sliceAt_array_lh w 61 ⟨g, 1, none⟩ (by rw [hl, he]; exact ht) .i64 .i64 _ _ (by omega) (by omega) (by rw [hl]; omega), he, hz, hl]
  by_cases h : 4096 = a
  · exact ⟨1, .inl (by omega), by simp [Result.andThen, slicedAt, h]; omega⟩
  · exact ⟨1 + a, .inr rfl, by simp [Result.andThen, slicedAt, h, add_none]; omega⟩

/-- The program's array, sliced from a on, n bytes: as a string. -/
theorem PM.read (h : PM w g l) (a n : Nat) (hn : a + n ≤ l.length) : ∃ o, (Instr.sliceAt 61 (.pointer (some ⟨g, 1, none⟩)) (some (.int .i64 (a : Int))) (some (.int .i64 ((a : Int) + n))) none).run Try.prog w = .ok (.slice (some ⟨g, o, none⟩) n (4096 - a)) w ∧
    (convert 38 9 (.slice (some ⟨g, o, none⟩) n (4096 - a))).run Try.prog w = .ok (.string (str ((l.drop a).take n))) w := by
  obtain ⟨m, h1, h2, h3, _⟩ := h.size
  obtain ⟨o, ho, hs⟩ := arr_lh w g a n (by omega)
  refine ⟨o, hs, ?_⟩
  have hl : ((l.drop a).take n).length = n := by simp; omega
  have := conv_str (w := w) g o (4096 - a) ((l.drop a).take n) (fun i hi => by
    rw [hl] at hi
    obtain rfl : o = 1 + a := by omega
    rw [Nat.add_assoc, h.at_ (k := a + i) (by omega)]
    simp [List.getD, hi])
  rw [hl] at this
  exact this

theorem cells_put (x : Value) (l : List UInt8) (rest : List Value) (a : Nat) (s : List UInt8) (h : a + s.length ≤ l.length) :
    (x :: (bts l ++ rest)).take (1 + a) ++ bts s ++ (x :: (bts l ++ rest)).drop (1 + a + s.length) = x :: (bts (put l a s) ++ rest) := by
  rw [show 1 + a + s.length = (a + s.length) + 1 by omega, show 1 + a = a + 1 by omega, List.take_succ_cons, List.drop_succ_cons, List.take_append_of_le_length (by rw [bts_len]; omega), List.drop_append_of_le_length (by rw [bts_len]; omega), bts_put]
  simp

theorem arr_l (w : World) (g a : Nat) (hn : a ≤ 4096) : ∃ o, (4096 - a = 0 ∨ o = 1 + a) ∧ (o = 1 + a ∨ o = 1) ∧ (Instr.sliceAt 61 (.pointer (some ⟨g, 1, none⟩)) (some (.int .i64 (a : Int))) none none).run Try.prog w = .ok (.slice (some ⟨g, o, none⟩) (4096 - a) (4096 - a)) w := by
  have ht := Try.underlying61
  have hl : Try.prog.arrayLen 61 = 4096 := by kernel_rfl
  have he : Try.prog.elem 61 = 5 := by kernel_rfl
  have hz : (Go.sizeOf 5).run Try.prog w = .ok 1 w := by
    have hi : (Try.prog.info? 5).map (fun i => (i.zero, i.size, i.bytes)) = some (some (.int .u8 0), 1, 1) := by kernel_rfl
    obtain ⟨i0, hi, _, hz1, _⟩ := info_parts hi
    simp [Go.sizeOf, typeInfo, hi, hz1]
  rw [run_sliceAt_array_l w 61 ⟨g, 1, none⟩ (by rw [hl, he]; exact ht) .i64 _ (by omega) (by rw [hl]; omega), he, hz, hl]
  by_cases h : 4096 = a
  · exact ⟨1, .inl (by omega), .inr rfl, by simp [Result.andThen, slicedAt, h]⟩
  · exact ⟨1 + a, .inr rfl, .inl rfl, by simp [Result.andThen, slicedAt, h, add_none]⟩

/-- The program's copy of a string's bytes into the array from a on. -/
theorem PM.write (h : PM w g l) (a : Nat) (s : ByteArray) (hn : a + s.size ≤ l.length) : ∃ o w1, (Instr.sliceAt 61 (.pointer (some ⟨g, 1, none⟩)) (some (.int .i64 (a : Int))) none none).run Try.prog w = .ok (.slice (some ⟨g, o, none⟩) (4096 - a) (4096 - a)) w ∧
    (∀ ty, (Builtin.copy_ #[38, 9] ty #[.slice (some ⟨g, o, none⟩) (4096 - a) (4096 - a), .string s]).run Try.prog w = .ok (goInt s.size) w1) ∧ PM w1 g (put l a s.data.toList) ∧ w.grownBy w1 (some g) := by
  obtain ⟨m, rest, h1, h2, h3, h4, h⟩ := h
  obtain ⟨o, ho, ho', hs⟩ := arr_l w g a (by omega)
  have hi : (Try.prog.info? 5).map (fun i => (i.zero, i.size, i.bytes)) = some (some (.int .u8 0), 1, 1) := by kernel_rfl
  obtain ⟨i0, hi, _, hz1, _⟩ := info_parts hi
  have hlen : (.int .i64 m :: (bts l ++ rest) : List Value).toArray.size = 4097 := by simp [bts_len]; omega
  have := fun ty => Lib.run_copy_row_string (P := Try.prog) w 38 9 ty 5 g o (4096 - a) (4096 - a) s _ _ Try.underlying38 (by rw [hi]; simp [hz1]) h (by omega) (by rw [hlen]; omega)
  refine ⟨o, _, hs, this, ⟨m, rest, h1, h2, by rw [put_len _ _ _ (by rw [list_len]; exact hn)]; exact h3, h4, ?_⟩, grown_setRow _ _ _⟩
  have hb := h.row ((.int .i64 m :: (bts l ++ rest) : List Value).take o ++ bts s.data.toList ++ (.int .i64 m :: (bts l ++ rest) : List Value).drop (o + s.size))
  have e : (.int .i64 m :: (bts l ++ rest) : List Value).take o ++ bts s.data.toList ++ (.int .i64 m :: (bts l ++ rest) : List Value).drop (o + s.size) = .int .i64 m :: (bts (put l a s.data.toList) ++ rest) := by
    rcases Nat.lt_or_ge a 4096 with hlt | hge
    · obtain rfl : o = 1 + a := by omega
      rw [← list_len s]
      exact cells_put _ _ _ _ _ (by rw [list_len]; exact hn)
    · have h0 : s.data.toList = [] := List.eq_nil_of_length_eq_zero (by rw [list_len]; omega)
      have h0' : s.size = 0 := by omega
      rw [h0, h0', put_nil]
      simp [bts]
  have hb2 : Blk (w.setRow g ((.int .i64 m :: (bts l ++ rest) : List Value).take o ++ bts s.data.toList ++ (.int .i64 m :: (bts l ++ rest) : List Value).drop (o + s.size)).toArray) g 63 (.int .i64 m :: (bts (put l a s.data.toList) ++ rest)) := by
    rw [e] at hb ⊢
    exact hb
  exact hb2

/-- 'clear' of a slice of bytes that lies in one row. -/
theorem run_clear_row (w : World) (ty : TypeId) (g o n c : Nat) (cur : List Value) (t : TypeId) (h : Blk w g t cur) (hn : 0 < n) (hfit : o + n ≤ cur.length) :
    (Builtin.clear_ #[38] ty #[.slice (some ⟨g, o, none⟩) n c]).run Try.prog w = .ok (.tuple #[]) (w.setRow g (cur.take o ++ List.replicate n (Value.int .u8 0) ++ cur.drop (o + n)).toArray) := by
  have hi : (Try.prog.info? 5).map (fun i => (i.zero, i.size, i.bytes)) = some (some (.int .u8 0), 1, 1) := by kernel_rfl
  obtain ⟨i0, hi, hz0, _, _⟩ := info_parts hi
  have hst := run_storeCells_at Try.prog g o t (List.replicate n (Value.int .u8 0)) 0 cur.toArray w h (by simpa using hfit) (by intro v hv; rw [List.eq_of_mem_replicate hv]; rfl)
  simp only [Nat.add_zero, List.length_replicate] at hst
  have hzc : (Builtin.zeroCells (Value.int .u8 0).cells n).toList = List.replicate n (.int .u8 0) := by
    simp [Builtin.zeroCells, Value.cells]
    apply List.ext_getElem
    · simp
    · intro i h1 h2
      simp [Nat.mod_one]
  obtain ⟨m, rfl⟩ : ∃ m, n = m + 1 := ⟨n - 1, by omega⟩
  simp [Builtin.clear_, run_underlying Try.underlying38, zeroValue, typeInfo, hi, hz0, hzc, hst]

/-- The program's clearing of a frame's bytes. -/
theorem PM.clear_ (h : PM w g l) (a : Nat) (hn : a + 64 ≤ l.length) : ∃ w1, (Instr.sliceAt 61 (.pointer (some ⟨g, 1, none⟩)) (some (.int .i64 (a : Int))) (some (.int .i64 ((a : Int) + 64))) none).run Try.prog w = .ok (.slice (some ⟨g, 1 + a, none⟩) 64 (4096 - a)) w ∧
    (∀ ty, (Builtin.clear_ #[38] ty #[.slice (some ⟨g, 1 + a, none⟩) 64 (4096 - a)]).run Try.prog w = .ok (.tuple #[]) w1) ∧ PM w1 g (put l a zero64) ∧ w.grownBy w1 (some g) := by
  obtain ⟨m, rest, h1, h2, h3, h4, h⟩ := h
  obtain ⟨o, ho, hs⟩ := arr_lh w g a 64 (by omega)
  obtain rfl : o = 1 + a := by omega
  refine ⟨_, hs, fun ty => run_clear_row w ty g (1 + a) 64 (4096 - a) _ _ h (by omega) (by simp [bts_len]; omega), ⟨m, rest, h1, h2, by rw [put_len _ _ _ (by rw [zero64_len]; exact hn)]; exact h3, h4, ?_⟩, grown_setRow _ _ _⟩
  have hb := h.row ((.int .i64 m :: (bts l ++ rest) : List Value).take (1 + a) ++ bts zero64 ++ (.int .i64 m :: (bts l ++ rest) : List Value).drop (1 + a + 64))
  rw [show (64 : Nat) = zero64.length from zero64_len.symm, cells_put _ _ _ _ _ (by rw [zero64_len]; exact hn)] at hb
  have e : bts zero64 = List.replicate 64 (.int .u8 0) := by simp [bts, zero64]
  rw [← cells_put _ _ _ _ _ (by rw [zero64_len]; exact hn), zero64_len, e] at hb
  rw [← cells_put _ _ _ _ _ (by rw [zero64_len]; exact hn), zero64_len, e]
  exact hb

/-- The document's memory: at block r, its bytes at block b. -/
def RM (w : World) (r b : Nat) (l : List UInt8) : Prop :=
  l.length ≤ 4096 ∧ (64 ≤ l.length ∧ l.length % 64 = 0) ∧ Blk w r 40 [.slice (some ⟨b, 0, none⟩) l.length l.length] ∧ Blk w b 5 (bts l)
theorem RM.ne {r b : Nat} (h : RM w r b l) : r ≠ b := h.2.2.1.apart h.2.2.2 (by decide)
theorem RM.row {r b : Nat} (h : RM w r b l) : w.cell? ⟨r, 0, none⟩ = some (.slice (some ⟨b, 0, none⟩) l.length l.length) := by rw [h.2.2.1.cell]; rfl
theorem RM.at_ {r b : Nat} (h : RM w r b l) {k : Nat} (hk : k < l.length) : w.cell? ⟨b, k, none⟩ = some (.int .u8 ((l.getD k 0).toNat : Int)) := by rw [h.2.2.2.cell, bts_get l k hk]
theorem RM.frozen {r b : Nat} (h : RM w r b l) (i : Nat) : w.frozen? ⟨b, i, none⟩ = false := h.2.2.2.frozen i
theorem RM.drewN {r b : Nat} (h : RM w r b l) (n : Nat) : RM (w.drewN n) r b l := h
theorem RM.lt {r b : Nat} (h : RM w r b l) : r < w.heap.size ∧ b < w.heap.size := ⟨h.2.2.1.lt, h.2.2.2.lt⟩
theorem RM.below {r b B : Nat} (h : RM w r b l) (hb : Below B w w') (hr : r < B) (hbb : b < B) : RM w' r b l := ⟨h.1, h.2.1, h.2.2.1.below hb hr, h.2.2.2.below hb hbb⟩
theorem RM.grown {r b : Nat} {row : Option Nat} (h : RM w r b l) (hb : w.grownBy w' row) (hr : some r ≠ row) (hbb : some b ≠ row) : RM w' r b l := ⟨h.1, h.2.1, h.2.2.1.grown hb hr, h.2.2.2.grown hb hbb⟩
theorem RM.alloc {r b : Nat} (h : RM w r b l) (o : Obj) : RM (w.alloc o) r b l := ⟨h.1, h.2.1, h.2.2.1.alloc o, h.2.2.2.alloc o⟩
theorem RM.set {r b : Nat} (h : RM w r b l) (k : Nat) (x : UInt8) : RM (w.setCell ⟨b, k, none⟩ (.int .u8 (x.toNat : Int))) r b (l.set k x) := by
  refine ⟨by simpa using h.1, by simpa using h.2.1, ?_, ?_⟩
  · rw [List.length_set]; exact h.2.2.1.far h.ne _
  · have := h.2.2.2.set k (.int .u8 (x.toNat : Int))
    have e : (bts l).set k (.int .u8 (x.toNat : Int)) = bts (l.set k x) := by simp [bts, List.map_set]
    rw [e] at this
    exact this
theorem PM.apart_r {r b : Nat} (h : PM w g l) {l' : List UInt8} (h' : RM w r b l') : g ≠ r ∧ g ≠ b := by
  obtain ⟨m, rest, h1, h2, h3, h4, h⟩ := h
  exact ⟨h.apart h'.2.2.1 (by decide), h.apart h'.2.2.2 (by decide)⟩
end
end Go.Proofs.Ytfddmfdfimaddaa
