/-
  Plain words of layer 3: a memory's bytes as a list; a memory in memory, the program's and the document's. No Go function here.
-/
import Derived.Test.YtobpggpjboonfaaDoorMem
import Derived.Test.YtobpggpjboonfaaDoorChecked
import Derived.Lib.BufferWrite
import Derived.Lib.SlBytesRow
import Derived.Lib.SliceRun
import Derived.Laws.CopyRow
namespace Go.Proofs.YtobpggpjboonfaaDoor
open Go.RowKit
set_option linter.unusedVariables false
set_option maxRecDepth 100000

/-- The cells of bytes. -/
def bts (l : List UInt8) : List Value := l.map fun b => Value.int .u8 (b.toNat : Int)
theorem bts_len (l : List UInt8) : (bts l).length = l.length := by simp [bts]
theorem bts_append (a b : List UInt8) : bts (a ++ b) = bts a ++ bts b := by simp [bts]
theorem bts_take (l : List UInt8) (k : Nat) : (bts l).take k = bts (l.take k) := by simp [bts]
theorem bts_drop (l : List UInt8) (k : Nat) : (bts l).drop k = bts (l.drop k) := by simp [bts]
theorem bts_get (l : List UInt8) (k : Nat) (h : k < l.length) : (bts l)[k]? = some (.int .u8 ((l.getD k 0).toNat : Int)) := by
  simp [bts, List.getD, List.getElem?_eq_getElem h]

/-- A list with s put at a. -/
def put (l : List UInt8) (a : Nat) (s : List UInt8) : List UInt8 := l.take a ++ s ++ l.drop (a + s.length)
theorem put_len (l : List UInt8) (a : Nat) (s : List UInt8) (h : a + s.length ≤ l.length) : (put l a s).length = l.length := by simp [put]; omega
theorem put_nil (l : List UInt8) (a : Nat) : put l a [] = l := by simp [put]
theorem put_step (l : List UInt8) (a : Nat) (s : List UInt8) (k : Nat) (hk : k < s.length) (h : a + s.length ≤ l.length) (x : UInt8) (hx : s.getD k 0 = x) : (put l a (s.take k)).set (a + k) x = put l a (s.take (k + 1)) := by
  have hx' : s[k]? = some x := by rw [← hx]; simp [List.getD, List.getElem?_eq_getElem hk]
  have e1 : min a l.length = a := by omega
  have e2 : min k s.length = k := by omega
  have hA : (l.take a ++ s.take k).length = a + k := by rw [List.length_append, List.length_take, List.length_take, e1, e2]
  unfold put
  rw [List.length_take, List.length_take, e2, show min (k + 1) s.length = k + 1 by omega, List.set_append_right _ _ (by omega), hA, Nat.sub_self, List.take_add_one, hx']
  have hd : l.drop (a + k) = l[a + k]'(by omega) :: l.drop (a + (k + 1)) := by rw [List.drop_eq_getElem_cons (by omega)]; rfl
  rw [hd, List.set_cons_zero]
  simp
theorem bts_put (l : List UInt8) (a : Nat) (s : List UInt8) : bts (put l a s) = (bts l).take a ++ bts s ++ (bts l).drop (a + s.length) := by
  simp [put, bts_append, bts_take, bts_drop]

/-- The string of bytes. -/
def str (l : List UInt8) : ByteArray := ⟨l.toArray⟩
theorem str_size (l : List UInt8) : (str l).size = l.length := by simp [str, ByteArray.size]
theorem str_list (l : List UInt8) : (str l).data.toList = l := by simp [str]
theorem str_of (s : ByteArray) : str s.data.toList = s := by
  apply ByteArray.ext
  show s.data.toList.toArray = s.data
  exact Array.toArray_toList ..
theorem list_len (s : ByteArray) : s.data.toList.length = s.size := Array.length_toList
theorem str_append (a b : List UInt8) : str a ++ str b = str (a ++ b) := by
  apply ByteArray.ext
  rw [ByteArray.data_append]
  exact List.append_toArray ..

/-- May n bytes from a on be reached, where there are s? -/
def mayB (a n s : Int) : Bool := decide (0 ≤ a ∧ 0 ≤ n ∧ a ≤ s ∧ n ≤ s - a)
def errC (b : Bool) : Int := if b then 0 else 300
theorem errC_or (b : Bool) : errC b = 0 ∨ errC b = 300 := by cases b <;> simp [errC]
def wrL (l : List UInt8) (a : Int) (s : List UInt8) : List UInt8 := if mayB a s.length l.length then put l a.toNat s else l
theorem wrL_len (l : List UInt8) (a : Int) (s : List UInt8) : (wrL l a s).length = l.length := by
  unfold wrL; split
  · rename_i h
    simp only [mayB, decide_eq_true_eq] at h
    exact put_len _ _ _ (by omega)
  · rfl
def rdL (l : List UInt8) (a n : Int) : List UInt8 := if mayB a n l.length then (l.drop a.toNat).take n.toNat else []

/-- The number of four bytes, the lowest first. -/
def num4 (b : List UInt8) : Int := (b.getD 0 0).toNat + 256 * (b.getD 1 0).toNat + 65536 * (b.getD 2 0).toNat + 16777216 * (b.getD 3 0).toNat
/-- A number's four bytes. -/
def by4 (x : Int) : List UInt8 := [UInt8.ofNat x.toNat, UInt8.ofNat (x / 256).toNat, UInt8.ofNat (x / 65536).toNat, UInt8.ofNat (x / 16777216).toNat]
theorem by4_len (x : Int) : (by4 x).length = 4 := rfl
theorem num_by (x : Int) (h0 : 0 ≤ x) (h1 : x ≤ 4294967295) : num4 (by4 x) = x := by
  obtain ⟨x, rfl⟩ := Int.eq_ofNat_of_zero_le h0
  simp only [num4, by4, List.getD_cons_zero, List.getD_cons_succ, UInt8.toNat_ofNat']
  omega
theorem num4_bound (b : List UInt8) : 0 ≤ num4 b ∧ num4 b ≤ 4294967295 := by
  have h0 := (b.getD 0 0).toNat_lt
  have h1 := (b.getD 1 0).toNat_lt
  have h2 := (b.getD 2 0).toNat_lt
  have h3 := (b.getD 3 0).toNat_lt
  unfold num4
  omega

def wdB (size : Nat) (a : Int) : Bool := decide (0 ≤ a ∧ a % 4 = 0 ∧ a + 4 ≤ size)
def wdN (l : List UInt8) (a : Int) : Int := if wdB l.length a then num4 ((l.drop a.toNat).take 4) else 0
def pwB (size : Nat) (a x : Int) : Bool := decide (0 ≤ a ∧ a % 4 = 0 ∧ a + 4 ≤ size ∧ 0 ≤ x ∧ x ≤ 4294967295)
def pwL (l : List UInt8) (a x : Int) : List UInt8 := if pwB l.length a x then put l a.toNat (by4 x) else l
theorem pwL_len (l : List UInt8) (a x : Int) : (pwL l a x).length = l.length := by
  unfold pwL; split
  · rename_i h
    simp only [pwB, decide_eq_true_eq] at h
    exact put_len _ _ _ (by rw [by4_len]; omega)
  · rfl
def zeB (size : Nat) (f : Int) : Bool := decide (0 ≤ f ∧ 64 * f < size)
def zero64 : List UInt8 := List.replicate 64 0
theorem zero64_len : zero64.length = 64 := by simp [zero64]
def zeL (l : List UInt8) (f : Int) : List UInt8 := if zeB l.length f then put l (64 * f.toNat) zero64 else l

section
variable {w w' : World} {g : Nat} {l : List UInt8}
set_option maxRecDepth 100000 in
/-- A slice of bytes as a string. -/
theorem conv_str (b off cap : Nat) (l : List UInt8) (h : ∀ i, i < l.length → w.cell? ⟨b, off + i, none⟩ = some (.int .u8 ((l.getD i 0).toNat : Int))) :
    (convert 27 9 (.slice (some ⟨b, off, none⟩) l.length cap)).run Tryd.prog w = .ok (.string (str l)) w := by
  have := run_convert_bytes_arg (P := Tryd.prog) w 27 5 Tryd.underlying27 Tryd.underlying5 b off l.length cap (l.map fun x => (x.toNat : Int)) (by simp) (fun i hi => by
    rw [h i hi]
    simp [List.getD, List.getElem?_map, List.getElem?_eq_getElem hi]) 9 Tryd.underlying9
  rw [this]
  congr 2
  apply ByteArray.ext
  apply Array.toList_inj.1
  rw [strOfNums_data, List.map_map, str_list]
  conv => rhs; rw [← List.map_id l]
  apply List.map_congr_left
  intro x _
  simp

theorem cells_put (x : Value) (l : List UInt8) (rest : List Value) (a : Nat) (s : List UInt8) (h : a + s.length ≤ l.length) :
    (x :: (bts l ++ rest)).take (1 + a) ++ bts s ++ (x :: (bts l ++ rest)).drop (1 + a + s.length) = x :: (bts (put l a s) ++ rest) := by
  rw [show 1 + a + s.length = (a + s.length) + 1 by omega, show 1 + a = a + 1 by omega, List.take_succ_cons, List.drop_succ_cons, List.take_append_of_le_length (by rw [bts_len]; omega), List.drop_append_of_le_length (by rw [bts_len]; omega), bts_put]
  simp

/-- 'clear' of a slice of bytes that lies in one row. -/
theorem run_clear_row (w : World) (ty : TypeId) (g o n c : Nat) (cur : List Value) (t : TypeId) (h : Blk w g t cur) (hn : 0 < n) (hfit : o + n ≤ cur.length) :
    (Builtin.clear_ #[27] ty #[.slice (some ⟨g, o, none⟩) n c]).run Tryd.prog w = .ok (.tuple #[]) (w.setRow g (cur.take o ++ List.replicate n (Value.int .u8 0) ++ cur.drop (o + n)).toArray) := by
  have hi : (Tryd.prog.info? 5).map (fun i => (i.zero, i.size, i.bytes)) = some (some (.int .u8 0), 1, 1) := by kernel_rfl
  obtain ⟨i0, hi, hz0, _, _⟩ := info_parts hi
  have hst := run_storeCells_at Tryd.prog g o t (List.replicate n (Value.int .u8 0)) 0 cur.toArray w h (by simpa using hfit) (by intro v hv; rw [List.eq_of_mem_replicate hv]; rfl)
  simp only [Nat.add_zero, List.length_replicate] at hst
  have hzc : (Builtin.zeroCells (Value.int .u8 0).cells n).toList = List.replicate n (.int .u8 0) := by
    simp [Builtin.zeroCells, Value.cells]
    apply List.ext_getElem
    · simp
    · intro i h1 h2
      simp [Nat.mod_one]
  obtain ⟨m, rfl⟩ : ∃ m, n = m + 1 := ⟨n - 1, by omega⟩
  simp [Builtin.clear_, run_underlying Tryd.underlying27, zeroValue, typeInfo, hi, hz0, hzc, hst]

end
end Go.Proofs.YtobpggpjboonfaaDoor
