/-
  Plain words for layer 4: which entries may be, their words, the entry of a word. No Go here.
-/
import Derived.Test.YtobpggpjboonfaaDoorPlain
namespace Go.Proofs.YtobpggpjboonfaaDoor
open Go.RowKit
set_option linter.unusedVariables false
set_option maxRecDepth 100000

/-- May an entry be? -/
def eB (f p : Int) : Bool := decide ((p = 0 ∧ f = 0) ∨ (1 ≤ p ∧ p ≤ 3 ∧ 0 ≤ f ∧ f < 64))
/-- Its word. -/
def eN (f p : Int) : Int := if eB f p = true ∧ 1 ≤ p then 1 + 2 * p + 4096 * f else 0
/-- The number of its error. -/
def e4 (b : Bool) : Int := if b then 0 else 400
/-- Is a word an entry's? -/
def gB (w : Int) : Bool := decide (w = 0 ∨ (0 ≤ w ∧ w < 262144 ∧ (w % 4096 = 3 ∨ w % 4096 = 5 ∨ w % 4096 = 7)))
/-- The entry of a word: its frame, its rights. -/
def gF (w : Int) : Int := if gB w = true then w / 4096 else 0
def gP (w : Int) : Int := if gB w = true then w % 4096 / 2 else 0

theorem eB_yes (f p : Int) (h1 : 1 ≤ p) (h2 : p ≤ 3) (h3 : 0 ≤ f) (h4 : f < 64) : eB f p = true := decide_eq_true (by omega)
theorem eB_zero : eB 0 0 = true := rfl
theorem eB_no (f p : Int) (h : ¬ ((p = 0 ∧ f = 0) ∨ (1 ≤ p ∧ p ≤ 3 ∧ 0 ≤ f ∧ f < 64))) : eB f p = false := decide_eq_false h
theorem eN_yes (f p : Int) (h1 : 1 ≤ p) (h2 : p ≤ 3) (h3 : 0 ≤ f) (h4 : f < 64) : eN f p = 1 + 2 * p + 4096 * f := by unfold eN; rw [if_pos ⟨eB_yes f p h1 h2 h3 h4, h1⟩]
theorem eN_zero (f : Int) : eN f 0 = 0 := by unfold eN; rw [if_neg (by omega)]
theorem eN_no (f p : Int) (h : eB f p = false) : eN f p = 0 := by unfold eN; rw [if_neg (by simp [h])]

/-- A word's fields are an entry with that very word, just where it is an entry's. -/
theorem gB_fields (w : Int) : gB w = true ↔ (eB (w / 4096) (w / 2 % 4) = true ∧ eN (w / 4096) (w / 2 % 4) = w) := by
  constructor
  · intro h
    have h := of_decide_eq_true h
    rcases h with rfl | ⟨h0, h1, h2⟩
    · exact ⟨rfl, rfl⟩
    · have hp : w / 2 % 4 = w % 4096 / 2 := by omega
      rw [hp]
      refine ⟨eB_yes _ _ (by omega) (by omega) (by omega) (by omega), ?_⟩
      rw [eN_yes _ _ (by omega) (by omega) (by omega) (by omega)]
      omega
  · rintro ⟨h, hw⟩
    have h := of_decide_eq_true h
    apply decide_eq_true
    rcases h with ⟨hp, hf⟩ | ⟨h1, h2, h3, h4⟩
    · rw [hp, eN_zero] at hw
      exact .inl hw.symm
    · rw [eN_yes _ _ h1 h2 h3 h4] at hw
      right
      omega
theorem gP_eq (w : Int) (h : gB w = true) : gP w = w / 2 % 4 := by
  unfold gP
  rw [h, if_pos rfl]
  have h := of_decide_eq_true h
  omega
theorem gF_eq (w : Int) (h : gB w = true) : gF w = w / 4096 := by unfold gF; rw [h, if_pos rfl]
theorem gP_no (w : Int) (h : gB w = false) : gP w = 0 := by unfold gP; rw [h]; rfl
theorem gF_no (w : Int) (h : gB w = false) : gF w = 0 := by unfold gF; rw [h]; rfl

/-- There and back. -/
theorem g_of (f p : Int) (h1 : 1 ≤ p) (h2 : p ≤ 3) (h3 : 0 ≤ f) (h4 : f < 64) : gB (eN f p) = true ∧ gF (eN f p) = f ∧ gP (eN f p) = p := by
  rw [eN_yes f p h1 h2 h3 h4]
  have hb : gB (1 + 2 * p + 4096 * f) = true := decide_eq_true (by omega)
  refine ⟨hb, ?_, ?_⟩
  · rw [gF_eq _ hb]; omega
  · rw [gP_eq _ hb]; omega
theorem e_of (w : Int) (h : gB w = true) : eN (gF w) (gP w) = w ∧ eB (gF w) (gP w) = true := by
  have := (gB_fields w).1 h
  rw [gF_eq w h, gP_eq w h]
  exact ⟨this.2, this.1⟩

/-- The 'or' of digits that do not meet. -/
theorem orB (x y n : Nat) (h : x < 2 ^ n) (h2 : x + 2 ^ n * y < 9223372036854775808) : bits BinOp.or IntKind.i64 (x : Int) ((2 ^ n * y : Nat) : Int) = ((x + 2 ^ n * y : Nat) : Int) := by
  have hx : (BitVec.ofInt 64 (x : Int)).toNat = x := by
    rw [BitVec.ofInt_natCast, BitVec.toNat_ofNat]; exact Nat.mod_eq_of_lt (by omega)
  have hy : (BitVec.ofInt 64 ((2 ^ n * y : Nat) : Int)).toNat = 2 ^ n * y := by
    rw [BitVec.ofInt_natCast, BitVec.toNat_ofNat]; exact Nat.mod_eq_of_lt (by omega)
  have e : bits BinOp.or IntKind.i64 (x : Int) ((2 ^ n * y : Nat) : Int) = IntKind.i64.wrap ((BitVec.ofInt 64 (x : Int) ||| BitVec.ofInt 64 ((2 ^ n * y : Nat) : Int)).toNat : Int) := rfl
  rw [e, BitVec.toNat_or, hx, hy, Nat.or_comm, ← Nat.two_pow_add_eq_or_of_lt h, IntKind.wrap_i64]
  omega
/-- A mask of the lowest bits. -/
theorem maskB (x : Int) (n : Nat) (hn : n ≤ 62) : bits BinOp.and IntKind.i64 x ((2 ^ n - 1 : Nat) : Int) = x % (2 ^ n : Nat) := by
  have hm : (2 : Nat) ^ n ≤ 2 ^ 62 := Nat.pow_le_pow_right (by omega) hn
  have hp : 0 < 2 ^ n := Nat.pow_pos (by omega)
  have hy : (BitVec.ofInt 64 ((2 ^ n - 1 : Nat) : Int)).toNat = 2 ^ n - 1 := by
    rw [BitVec.ofInt_natCast, BitVec.toNat_ofNat]; exact Nat.mod_eq_of_lt (by omega)
  have e : bits BinOp.and IntKind.i64 x ((2 ^ n - 1 : Nat) : Int) = IntKind.i64.wrap ((BitVec.ofInt 64 x &&& BitVec.ofInt 64 ((2 ^ n - 1 : Nat) : Int)).toNat : Int) := rfl
  rw [e, BitVec.toNat_and, hy, Nat.and_two_pow_sub_one_eq_mod, BitVec.toNat_ofInt]
  have hd : (2 ^ 64 : Nat) = 2 ^ n * 2 ^ (64 - n) := by rw [← Nat.pow_add]; congr 1; omega
  have h1 : ((x % (2 ^ 64 : Nat)).toNat % 2 ^ n : Nat) = (x % (2 ^ n : Nat)).toNat := by
    have h0 : 0 ≤ x % ((2 ^ 64 : Nat) : Int) := Int.emod_nonneg _ (by omega)
    have h2 : 0 ≤ x % ((2 ^ n : Nat) : Int) := Int.emod_nonneg _ (by omega)
    have h3 : (x % ((2 ^ 64 : Nat) : Int)) % ((2 ^ n : Nat) : Int) = x % ((2 ^ n : Nat) : Int) := Int.emod_emod_of_dvd _ ⟨((2 ^ (64 - n) : Nat) : Int), by rw [hd]; push_cast; rfl⟩
    have : (((x % ((2 ^ 64 : Nat) : Int)).toNat % 2 ^ n : Nat) : Int) = ((x % (2 ^ n : Nat)).toNat : Int) := by
      rw [Int.natCast_emod, Int.toNat_of_nonneg h0, h3, Int.toNat_of_nonneg h2]
    omega
  rw [h1, IntKind.wrap_i64]
  have h2 : 0 ≤ x % ((2 ^ n : Nat) : Int) := Int.emod_nonneg _ (by omega)
  have h3 : x % ((2 ^ n : Nat) : Int) < ((2 ^ n : Nat) : Int) := Int.emod_lt_of_pos _ (by omega)
  rw [Int.toNat_of_nonneg h2]
  omega
/-- What Put computes. -/
theorem e_or (f p : Int) (h1 : 1 ≤ p) (h2 : p ≤ 3) (h3 : 0 ≤ f) (h4 : f < 64) : bits BinOp.or IntKind.i64 (bits BinOp.or IntKind.i64 1 (p * 2)) (f * 4096) = 1 + 2 * p + 4096 * f := by
  obtain ⟨p, rfl⟩ := Int.eq_ofNat_of_zero_le (show 0 ≤ p by omega)
  obtain ⟨f, rfl⟩ := Int.eq_ofNat_of_zero_le h3
  have a := orB 1 p 1 (by omega) (by omega)
  have b := orB (1 + 2 ^ 1 * p) f 12 (by omega) (by omega)
  rw [show ((p : Int) * 2) = ((2 ^ 1 * p : Nat) : Int) by omega, show bits BinOp.or IntKind.i64 1 ((2 ^ 1 * p : Nat) : Int) = ((1 + 2 ^ 1 * p : Nat) : Int) from a, show ((f : Int) * 4096) = ((2 ^ 12 * f : Nat) : Int) by omega, b]
  omega

end Go.Proofs.YtobpggpjboonfaaDoor
