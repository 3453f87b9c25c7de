/-
  Plain words for DiskWalks: texts as cells, by a function; the law's table of sectors beside the disk's bytes. No Go function here.
-/
import Derived.Test.YtjccdimmfhkipaaDkAw
import Derived.Test.YtjccdimmfhkipaaDkP
import Derived.Test.YtjccdimmfhkipaaExApart
namespace Go.Proofs.Ytjccdimmfhkipaa
open Go.RowKit
set_option linter.unusedVariables false
set_option maxRecDepth 100000

/-- Texts as cells. -/
def txc (F : Nat → List UInt8) (N : Nat) : List Value := (List.range N).map (fun i => .string (str (F i)))
theorem txc_len (F : Nat → List UInt8) (N : Nat) : (txc F N).length = N := by simp [txc]
theorem txc_get (F : Nat → List UInt8) (N i : Nat) (h : i < N) : (txc F N)[i]? = some (.string (str (F i))) := by
  simp [txc, List.getElem?_map, List.getElem?_range h]
/-- One text given. -/
def xF (F : Nat → List UInt8) (k : Nat) (s : List UInt8) : Nat → List UInt8 := fun i => if i = k then s else F i
theorem txc_set (F : Nat → List UInt8) (N k : Nat) (s : List UInt8) : (txc F N).set k (.string (str s)) = txc (xF F k s) N := by
  apply List.ext_getElem?
  intro i
  rw [List.getElem?_set]
  by_cases h : i < N
  · rw [txc_get _ _ _ h, txc_get _ _ _ h, txc_len]
    unfold xF
    by_cases e : k = i
    · subst e; simp [h]
    · rw [if_neg e, if_neg (fun e' => e e'.symm)]
  · rw [List.getElem?_eq_none (by rw [txc_len]; omega), List.getElem?_eq_none (by rw [txc_len]; omega), txc_len]
    by_cases e : k = i
    · subst e; simp [h]
    · rw [if_neg e]
/-- The first k are sectors that are 0, the others none. -/
def z16 (k : Nat) : Nat → List UInt8 := fun i => if i < k then zeros 16 else []
theorem z16_step (k : Nat) : xF (z16 k) k (zeros 16) = z16 (k + 1) := by
  funext i
  unfold xF z16
  by_cases h : i = k
  · subst h; rw [if_pos rfl, if_pos (by omega)]
  · rw [if_neg h]
    by_cases h2 : i < k
    · rw [if_pos h2, if_pos (by omega)]
    · rw [if_neg h2, if_neg (by omega)]

def fP (p : Nat) : Nat := if p = 0 then 0 else if p = 1 then 6 else 4
def cP (p : Nat) : Nat := if p = 0 then 4 else if p = 1 then 4 else 2
def cPI (p : Nat) : Int := (cP p : Int)
theorem three {p : Nat} (h : p < 3) : p = 0 ∨ p = 1 ∨ p = 2 := by omega
theorem cP_4 (p : Nat) : cP p ≤ 4 := by unfold cP; split <;> (try split) <;> omega
theorem fP_10 (p k : Nat) (h : k < cP p) : fP p + k < 10 := by unfold cP at h; unfold fP; split at h <;> (try split at h) <;> simp_all <;> omega
theorem shW_ext : extB shP 64 = true := by kernel_rfl
theorem shP_fc {p : Nat} (h : p < 3) : (shP.getD p (0, 0)).1 = (fP p : Int) ∧ (shP.getD p (0, 0)).2 = (cP p : Int) := by
  rcases three h with rfl | rfl | rfl <;> exact ⟨rfl, rfl⟩
theorem shW_yes {p k : Nat} (h : p < 3) (hk : k < cP p) : toC shP p k 1 = (((fP p + k : Nat) : Int), 0) := by
  obtain ⟨e1, e2⟩ := shP_fc h
  have := (toC_one shW_ext (i := p) (x := k) h (by rw [e2]; omega)).1
  rw [this, e1]; rfl
theorem shW_no {p k : Nat} (h : p < 3) (hk : cP p ≤ k) : toC shP p k 1 = (0, 1801) := by
  obtain ⟨e1, e2⟩ := shP_fc h
  have := toC_at (lba := (k : Int)) (n := 1) shW_ext (p := p) h
  rw [this, e2, if_neg]
  show ¬ decide _ = true
  rw [decide_eq_true_eq]; omega
theorem shW_all {p : Nat} (h : p < 3) : toC shP p 0 (cP p) = ((fP p : Int), 0) := by
  rcases three h with rfl | rfl | rfl <;> kernel_rfl

/-- The law's table says what the disk's bytes are. -/
def Tab3 (F : Nat → List UInt8) (l : List UInt8) : Prop := l.length = 1024 ∧ (∀ i, i < 12 → (F i).length = 16) ∧ ∀ p j, p < 3 → j < cP p → seg l ((fP p + j) * 16) 16 = F (p * 4 + j)
theorem Tab3.zero : Tab3 (z16 12) (zeros 1024) := by
  refine ⟨zeros_len _, fun i hi => by unfold z16; rw [if_pos hi, zeros_len], fun p j hp hj => ?_⟩
  have h1 := fP_10 p j hj
  have h2 := cP_4 p
  rw [seg_zeros (by omega)]
  unfold z16
  rw [if_pos (by omega)]
theorem sect_ne {p q j k : Nat} (hp : p < 3) (hq : q < 3) (hj : j < cP q) (hk : k < cP p) (hne : ¬ (q = p ∧ j = k)) : fP q + j ≠ fP p + k := by
  rcases three hp with rfl | rfl | rfl <;> rcases three hq with rfl | rfl | rfl <;> simp only [fP, cP] at * <;> simp at * <;> omega
theorem Tab3.set {F : Nat → List UInt8} {l : List UInt8} (h : Tab3 F l) {p k : Nat} (hp : p < 3) (hk : k < cP p) {s : List UInt8} (hs : s.length = 16) : Tab3 (xF F (p * 4 + k) s) (put l ((fP p + k) * 16) s) := by
  obtain ⟨hl, h16, hat⟩ := h
  have h10 := fP_10 p k hk
  have hk4 := cP_4 p
  refine ⟨by rw [put_len _ _ _ (by omega)]; exact hl, fun i hi => by unfold xF; split; exact hs; exact h16 i hi, fun q j hq hj => ?_⟩
  have hj4 := cP_4 q
  have hj10 := fP_10 q j hj
  unfold xF
  by_cases he : q = p ∧ j = k
  · obtain ⟨rfl, rfl⟩ := he
    rw [if_pos rfl, seg_put hs (by omega)]
  · rw [if_neg (by omega)]
    have := sect_ne hp hq hj hk he
    rw [seg_far (b := (fP q + j) * 16) (n := 16) (by omega) (by omega)]
    exact hat q j hq hj
/-- Texts one behind the other. -/
def cat (F : Nat → List UInt8) (a : Nat) : Nat → List UInt8
  | 0 => []
  | k + 1 => cat F a k ++ F (a + k)
theorem cat_len {F : Nat → List UInt8} {a : Nat} (k : Nat) (h : ∀ i, i < k → (F (a + i)).length = 16) : (cat F a k).length = k * 16 := by
  induction k with
  | zero => rfl
  | succ k ih => rw [cat, List.length_append, ih (fun i hi => h i (by omega)), h k (by omega)]; omega
theorem Tab3.cat {F : Nat → List UInt8} {l : List UInt8} (h : Tab3 F l) {p : Nat} (hp : p < 3) : ∀ k, k ≤ cP p → seg l (fP p * 16) (k * 16) = Go.Proofs.Ytjccdimmfhkipaa.cat F (p * 4) k := by
  intro k
  induction k with
  | zero => intro _; rw [Nat.zero_mul, seg_zero]; rfl
  | succ k ih =>
    intro hk
    rw [show (k + 1) * 16 = k * 16 + 16 by omega, seg_add, ih (by omega), show fP p * 16 + k * 16 = (fP p + k) * 16 by omega, h.2.2 p k hp (by omega)]
    rfl
theorem Tab3.len {F : Nat → List UInt8} {l : List UInt8} (h : Tab3 F l) {p : Nat} (hp : p < 3) (k : Nat) (hk : k ≤ 4) : (Go.Proofs.Ytjccdimmfhkipaa.cat F (p * 4) k).length = k * 16 :=
  cat_len k (fun i hi => h.2.1 _ (by omega))

end Go.Proofs.Ytjccdimmfhkipaa
