/-
  Contracts of package phys: numberOf, bytesOf, wordBy, Word, PutWord.
-/
import Derived.Test.YtobpggpjboonfaaDoorPhys1
namespace Go.Proofs.YtobpggpjboonfaaDoor
open Go.RowKit
set_option linter.unusedVariables false
set_option maxRecDepth 100000

/-- The number of the first k bytes, the lowest first. -/
def numTo (b : List UInt8) : Nat → Int
  | 0 => 0
  | k + 1 => numTo b k + 256 ^ k * ((b.getD k 0).toNat : Int)
theorem num4_to (b : List UInt8) : num4 b = numTo b 4 := by simp [num4, numTo]
theorem numTo_bound (b : List UInt8) (k : Nat) : 0 ≤ numTo b k ∧ numTo b k < 256 ^ k := by
  induction k with
  | zero => simp [numTo]
  | succ k ih =>
    have h := (b.getD k 0).toNat_lt
    simp only [numTo]
    generalize ((b.getD k 0).toNat) = x at h
    have hp : (0 : Int) < 256 ^ k := Int.pow_pos (by omega)
    have hx : (256 : Int) ^ k * (x : Int) ≤ 256 ^ k * 255 := Int.mul_le_mul_of_nonneg_left (by omega) (by omega)
    have h0 : (0 : Int) ≤ 256 ^ k * (x : Int) := Int.mul_nonneg (by omega) (by omega)
    rw [Int.pow_succ]
    omega

theorem byte_get (s : ByteArray) (k : Nat) (h : k < s.size) : s.data.toList.getD k 0 = s[k] := by
  have h' : k < s.data.size := h
  simp only [List.getD, Array.getElem?_toList, Array.getElem?_eq_getElem h', Option.getD_some]
  rfl
/-- An 'or' of numbers whose digits do not meet. -/
theorem bor (x y n : Nat) (h : x < 2 ^ n) (h2 : x + 2 ^ n * y < 9223372036854775808) : bits BinOp.or IntKind.i64 (x : Int) ((2 ^ n * y : Nat) : Int) = ((x + 2 ^ n * y : Nat) : Int) := by
  have hx : (BitVec.ofInt 64 (x : Int)).toNat = x := by
    rw [BitVec.ofInt_natCast, BitVec.toNat_ofNat]; exact Nat.mod_eq_of_lt (by omega)
  have hy : (BitVec.ofInt 64 ((2 ^ n * y : Nat) : Int)).toNat = 2 ^ n * y := by
    rw [BitVec.ofInt_natCast, BitVec.toNat_ofNat]; exact Nat.mod_eq_of_lt (by omega)
  have e : bits BinOp.or IntKind.i64 (x : Int) ((2 ^ n * y : Nat) : Int) = IntKind.i64.wrap ((BitVec.ofInt 64 (x : Int) ||| BitVec.ofInt 64 ((2 ^ n * y : Nat) : Int)).toNat : Int) := rfl
  rw [e, BitVec.toNat_or, hx, hy, Nat.or_comm, ← Nat.two_pow_add_eq_or_of_lt h, IntKind.wrap_i64]
  omega

theorem or_step (b : List UInt8) (k : Nat) (hk : k < 4) (c : Int) (hc : c = ((b.getD k 0).toNat : Int)) : bits BinOp.or IntKind.i64 (numTo b k) (wrap64 (wrap64 c * 2 ^ (8 * k))) = numTo b (k + 1) := by
  subst hc
  have h := numTo_bound b k
  have hb := (b.getD k 0).toNat_lt
  simp only [numTo]
  generalize (b.getD k 0).toNat = y at hb
  generalize numTo b k = x at h
  obtain ⟨h1, h2⟩ := h
  obtain ⟨x, rfl⟩ := Int.eq_ofNat_of_zero_le h1
  have hw : wrap64 (y : Int) = y := by unfold wrap64; omega
  rw [hw]
  have e : ((256 : Int) ^ k) = ((2 ^ (8 * k) : Nat) : Int) := by rw [Nat.pow_mul]; simp
  have hm : (2 : Nat) ^ (8 * k) ≤ 16777216 := Nat.le_trans (Nat.pow_le_pow_right (by omega) (show 8 * k ≤ 24 by omega)) (by decide)
  rw [e] at h2 ⊢
  have hy : 2 ^ (8 * k) * y ≤ 16777216 * 256 := Nat.mul_le_mul hm (by omega)
  have hw2 : wrap64 ((y : Int) * 2 ^ (8 * k)) = ((2 ^ (8 * k) * y : Nat) : Int) := by
    rw [show ((y : Int) * 2 ^ (8 * k)) = ((2 ^ (8 * k) * y : Nat) : Int) by push_cast; rw [Int.mul_comm]]
    unfold wrap64
    generalize 2 ^ (8 * k) * y = z at hy
    omega
  rw [hw2, bor x y (8 * k) (by omega) (by omega)]
  push_cast
  rfl

theorem by4_at (x : Int) (k : Nat) (hk : k < 4) (h0 : 0 ≤ x) : x / 2 ^ (8 * k) % 256 = ((((by4 x).getD k 0).toNat : Nat) : Int) := by
  obtain ⟨x, rfl⟩ := Int.eq_ofNat_of_zero_le h0
  rcases k with _ | _ | _ | _ | k
  · simp [by4]
  · simp only [by4, List.getD_cons_zero, List.getD_cons_succ, UInt8.toNat_ofNat']; omega
  · simp only [by4, List.getD_cons_zero, List.getD_cons_succ, UInt8.toNat_ofNat']; omega
  · simp only [by4, List.getD_cons_zero, List.getD_cons_succ, UInt8.toNat_ofNat']; omega
  · omega
/-- An array of four bytes on the way. -/
def byK (x : Int) (k : Nat) : List UInt8 := put [0, 0, 0, 0] 0 ((by4 x).take k)
theorem byK_len (x : Int) (k : Nat) : (byK x k).length = 4 := put_len _ _ _ (by simp [by4]; omega)
theorem byK_step (x : Int) (k : Nat) (hk : k < 4) (h0 : 0 ≤ x) : (bts (byK x k)).set k (.int .u8 (x / 2 ^ (8 * k) % 256)) = bts (byK x (k + 1)) := by
  rw [by4_at x k hk h0]
  have := put_step [0, 0, 0, 0] 0 (by4 x) k hk (by simp [by4]) _ rfl
  unfold byK
  rw [← this, Nat.zero_add]
  simp [bts, List.map_set]
theorem byK_all (x : Int) : byK x 4 = by4 x := by simp [byK, put, by4]

theorem rdL_len (l : List UInt8) (a n : Int) (h : mayB a n l.length = true) : (rdL l a n).length = n.toNat := by
  unfold rdL
  rw [h, if_pos rfl]
  simp only [mayB, decide_eq_true_eq] at h
  simp
  omega

end Go.Proofs.YtobpggpjboonfaaDoor
