/-
  Plain words on runs of a disk's bytes: read behind a writing, there and elsewhere. No Go function here.
-/
import Derived.Test.YtjccdimmfhkipaaDk0
import Derived.Test.YtjccdimmfhkipaaPhys1
namespace Go.Proofs.Ytjccdimmfhkipaa
open Go.RowKit
set_option linter.unusedVariables false
set_option maxRecDepth 100000

section
variable {ps : List (Int × Int)} {l s : List UInt8} {p a n : Int}
theorem dwC_len {m : Nat} (h : s.length = m) : dwC ps p a s = if (toC ps p a ((m : Int) / 16)).2 = 0 then (if m % 16 = 0 then 0 else 1900) else (toC ps p a ((m : Int) / 16)).2 := by subst h; rfl
theorem dwC_16 (h : s.length = 16) : dwC ps p a s = (toC ps p a 1).2 := by
  rw [dwC_len h]
  by_cases e : (toC ps p a 1).2 = 0
  · rw [show (((16 : Nat) : Int) / 16) = 1 by omega, if_pos e, e]; rfl
  · rw [show (((16 : Nat) : Int) / 16) = 1 by omega, if_neg e]
theorem dwL_16 {x : Nat} (h : s.length = 16) (ht : toC ps p a 1 = ((x : Int), 0)) : dwL ps l p a s = put l (x * 16) s := by
  unfold dwL
  rw [dwC_16 h, h, show (((16 : Nat) : Int) / 16) = 1 by omega, ht, if_pos rfl, Int.toNat_natCast]
theorem dwL_16no (h : s.length = 16) (ht : (toC ps p a 1).2 ≠ 0) : dwL ps l p a s = l := by
  unfold dwL
  rw [dwC_16 h, if_neg ht]
theorem drT_at {x k : Nat} (hk : n = (k : Int)) (ht : toC ps p a n = ((x : Int), 0)) : drT ps l p a n = seg l (x * 16) (k * 16) := by
  subst hk
  unfold drT
  rw [ht, if_pos rfl, Int.toNat_natCast, Int.toNat_natCast]
theorem drT_no (ht : (toC ps p a n).2 ≠ 0) : drT ps l p a n = [] := by unfold drT; rw [if_neg ht]
end

theorem seg_get (l : List UInt8) (a n i : Nat) : (seg l a n)[i]? = if i < n then l[a + i]? else none := by
  unfold seg
  rw [List.getElem?_take, List.getElem?_drop]
theorem put_get (l s : List UInt8) (a i : Nat) (h : a + s.length ≤ l.length) : (put l a s)[i]? = if a ≤ i ∧ i < a + s.length then s[i - a]? else l[i]? := by
  have hl : (l.take a).length = a := by rw [List.length_take]; omega
  unfold put
  by_cases h1 : i < a
  · rw [if_neg (by omega), List.append_assoc, List.getElem?_append_left (by omega), List.getElem?_take, if_pos h1]
  · by_cases h2 : i < a + s.length
    · rw [if_pos (by omega), List.append_assoc, List.getElem?_append_right (by omega), hl, List.getElem?_append_left (by omega)]
    · rw [if_neg (by omega), List.getElem?_append_right (by rw [List.length_append, hl]; omega), List.length_append, hl, List.getElem?_drop]
      congr 1; omega
theorem seg_put {l s : List UInt8} {a n : Nat} (hn : s.length = n) (h : a + n ≤ l.length) : seg (put l a s) a n = s := by
  subst hn
  apply List.ext_getElem?
  intro i
  rw [seg_get, put_get _ _ _ _ h]
  by_cases hi : i < s.length
  · rw [if_pos hi, if_pos (by omega), show a + i - a = i by omega]
  · rw [if_neg hi, List.getElem?_eq_none (by omega)]
theorem seg_far {l s : List UInt8} {a b n : Nat} (h : a + s.length ≤ l.length) (hf : a + s.length ≤ b ∨ b + n ≤ a) : seg (put l a s) b n = seg l b n := by
  apply List.ext_getElem?
  intro i
  rw [seg_get, seg_get, put_get _ _ _ _ h]
  by_cases hi : i < n
  · rw [if_pos hi, if_pos hi, if_neg (by omega)]
  · rw [if_neg hi, if_neg hi]
theorem seg_in {l s : List UInt8} {a b n : Nat} (h : b + n ≤ l.length) (h1 : b ≤ a) (h2 : a + s.length ≤ b + n) : seg (put l a s) b n = put (seg l b n) (a - b) s := by
  apply List.ext_getElem?
  intro i
  rw [seg_get, put_get _ _ _ _ (by omega), put_get _ _ _ _ (by rw [seg_len _ _ _ h]; omega), seg_get]
  by_cases hi : i < n
  · rw [if_pos hi, if_pos hi]
    by_cases hc : a ≤ b + i ∧ b + i < a + s.length
    · rw [if_pos hc, if_pos (by omega), show b + i - a = i - (a - b) by omega]
    · rw [if_neg hc, if_neg (by omega)]
  · rw [if_neg hi, if_neg hi, if_neg (by omega)]
theorem seg_add (l : List UInt8) (a n m : Nat) : seg l a (n + m) = seg l a n ++ seg l (a + n) m := by
  unfold seg
  rw [List.take_add, List.drop_drop]
theorem seg_zero (l : List UInt8) (a : Nat) : seg l a 0 = [] := by simp [seg]
theorem seg_zeros {N a n : Nat} (h : a + n ≤ N) : seg (zeros N) a n = zeros n := by
  unfold seg zeros
  rw [List.drop_replicate, List.take_replicate, Nat.min_eq_left (by omega)]

end Go.Proofs.Ytjccdimmfhkipaa
