/-
  Plain words for layer 15: whose devices are; what the calls answer and leave. No Go function here.
-/
import Derived.Test.YtgamfejgpdampaaItc
import Derived.Test.YtgamfejgpdampaaPlain2
import Derived.Test.YtgamfejgpdampaaOb
namespace Go.Proofs.Ytgamfejgpdampaa
open Go.RowKit
set_option linter.unusedVariables false
set_option maxRecDepth 100000

/-- One count given. -/
def uN (f : Nat → Nat) (k x : Nat) : Nat → Nat := fun i => if i = k then x else f i
/-- No ticks left. -/
def noN : Nat → Nat := fun _ => 0
/-- A phase. -/
def ph (n : Nat) : Int := if n = 0 then 0 else 1
/-- There is such a device (or partition). -/
def adB (D : Nat) (d : Int) : Bool := decide (0 ≤ d ∧ d < (D : Int))
def amB (D P : Nat) (d t : Int) : Bool := adB D d && adB P t
def amC (D P : Nat) (L : Nat → Nat) (d t : Int) : Int := if amB D P d t then (if L d.toNat = 0 then 0 else 1501) else 1500
def amG (D P : Nat) (L : Nat → Nat) (d t : Int) : Bool := amB D P d t && decide (L d.toNat = 0)
def amO (D P : Nat) (O : Nat → Int) (L : Nat → Nat) (d t : Int) : Nat → Int := if amG D P L d t then iF O d.toNat t else O
def amL (D P q : Nat) (L : Nat → Nat) (d t : Int) : Nat → Nat := if amG D P L d t then uN L d.toNat q else L
def apC (D : Nat) (d : Int) : Int := if adB D d then 0 else 1500
def apX (D : Nat) (L : Nat → Nat) (d : Int) : Int := if adB D d then ph (L d.toNat) else 0
def aoX (D : Nat) (O : Nat → Int) (L : Nat → Nat) (d : Int) : Int := if adB D d then (if L d.toNat = 0 then O d.toNat else -1) else -1
/-- Behind a tick of the first k. -/
def atL (L : Nat → Nat) (k : Nat) : Nat → Nat := fun i => if i < k then L i - 1 else L i
/-- Those of the first k whose last tick it was. -/
def atE (L : Nat → Nat) (k : Nat) : List Int := ((List.range k).filter (fun (i : Nat) => L i == 1)).map (fun (i : Nat) => (i : Int))

theorem atL_zero (L : Nat → Nat) : atL L 0 = L := by funext i; simp [atL]
theorem atL_step (L : Nat → Nat) (k : Nat) : uN (atL L k) k (L k - 1) = atL L (k + 1) := by
  funext i
  unfold uN atL
  by_cases h : i = k
  · subst h; rw [if_pos rfl, if_pos (by omega)]
  · rw [if_neg h]
    by_cases h2 : i < k
    · rw [if_pos h2, if_pos (by omega)]
    · rw [if_neg h2, if_neg (by omega)]
theorem atL_here (L : Nat → Nat) (k : Nat) : atL L k k = L k := by unfold atL; rw [if_neg (by omega)]
theorem uN_same (L : Nat → Nat) (k : Nat) : uN L k (L k) = L := by funext i; unfold uN; split <;> simp_all
theorem uN_here (L : Nat → Nat) (k x : Nat) : uN L k x k = x := by unfold uN; rw [if_pos rfl]
theorem iF_same (O : Nat → Int) (k : Nat) : iF O k (O k) = O := by funext i; unfold iF; split <;> simp_all
theorem atE_zero (L : Nat → Nat) : atE L 0 = [] := rfl
theorem atE_yes (L : Nat → Nat) (k : Nat) (h : L k = 1) : atE L (k + 1) = atE L k ++ [(k : Int)] := by
  unfold atE
  rw [List.range_succ, List.filter_append, List.map_append]
  simp [h]
theorem atE_no (L : Nat → Nat) (k : Nat) (h : L k ≠ 1) : atE L (k + 1) = atE L k := by
  unfold atE
  rw [List.range_succ, List.filter_append, List.map_append]
  simp [h]
theorem atE_len (L : Nat → Nat) (k : Nat) : (atE L k).length ≤ k := by
  unfold atE
  rw [List.length_map]
  have := List.length_filter_le (fun (i : Nat) => L i == 1) (List.range k)
  rwa [List.length_range] at this
theorem amL_le {D P q : Nat} {L : Nat → Nat} {d t : Int} (hq : q ≤ 8) (h : ∀ i, L i ≤ 8) : ∀ i, amL D P q L d t i ≤ 8 := by
  intro i
  unfold amL uN
  split
  · dsimp only; split
    · exact hq
    · exact h i
  · exact h i
theorem uN_le {k x : Nat} {L : Nat → Nat} (hq : x ≤ 8) (h : ∀ i, L i ≤ 8) : ∀ i, uN L k x i ≤ 8 := by
  intro i
  unfold uN
  split
  · exact hq
  · exact h i
theorem atL_le {k : Nat} {L : Nat → Nat} (h : ∀ i, L i ≤ 8) : ∀ i, atL L k i ≤ 8 := by
  intro i
  unfold atL
  split
  · have := h i; omega
  · exact h i

/-- The cells of the program's table: quiet, partitions, devices; four states. -/
def acF (q P D : Nat) (O : Nat → Int) (L : Nat → Nat) : Nat → Int
  | 0 => q
  | 1 => P
  | 2 => D
  | i + 3 => if i % 3 = 0 then ph (L (i / 3)) else if i % 3 = 1 then O (i / 3) else (L (i / 3) : Int)
section
variable (q P D : Nat) (O : Nat → Int) (L : Nat → Nat) (i : Nat)
theorem acF_ph : acF q P D O L (3 + i * 3) = ph (L i) := by
  rw [show 3 + i * 3 = i * 3 + 3 by omega]
  show (if i * 3 % 3 = 0 then ph (L (i * 3 / 3)) else _) = _
  rw [if_pos (by omega), show i * 3 / 3 = i by omega]
theorem acF_o : acF q P D O L (3 + i * 3 + 1) = O i := by
  rw [show 3 + i * 3 + 1 = (i * 3 + 1) + 3 by omega]
  show (if (i * 3 + 1) % 3 = 0 then _ else if (i * 3 + 1) % 3 = 1 then O ((i * 3 + 1) / 3) else _) = _
  rw [if_neg (by omega), if_pos (by omega), show (i * 3 + 1) / 3 = i by omega]
theorem acF_l : acF q P D O L (3 + i * 3 + 2) = (L i : Int) := by
  rw [show 3 + i * 3 + 2 = (i * 3 + 2) + 3 by omega]
  show (if (i * 3 + 2) % 3 = 0 then _ else if (i * 3 + 2) % 3 = 1 then _ else ((L ((i * 3 + 2) / 3) : Nat) : Int)) = _
  rw [if_neg (by omega), if_neg (by omega), show (i * 3 + 2) / 3 = i by omega]
theorem acF_put (o : Int) (l : Nat) : iF (iF (iF (acF q P D O L) (3 + i * 3) (ph l)) (3 + i * 3 + 1) o) (3 + i * 3 + 2) l = acF q P D (iF O i o) (uN L i l) := by
  funext j
  match j with
  | 0 => unfold iF; rw [if_neg (by omega), if_neg (by omega), if_neg (by omega)]; rfl
  | 1 => unfold iF; rw [if_neg (by omega), if_neg (by omega), if_neg (by omega)]; rfl
  | 2 => unfold iF; rw [if_neg (by omega), if_neg (by omega), if_neg (by omega)]; rfl
  | j + 3 =>
    show iF _ _ _ (j + 3) = (if j % 3 = 0 then ph (uN L i l (j / 3)) else if j % 3 = 1 then iF O i o (j / 3) else ((uN L i l (j / 3) : Nat) : Int))
    have e : acF q P D O L (j + 3) = (if j % 3 = 0 then ph (L (j / 3)) else if j % 3 = 1 then O (j / 3) else (L (j / 3) : Int)) := rfl
    unfold iF uN
    rw [e]
    by_cases h : j / 3 = i
    · rw [if_pos h, if_pos h]
      by_cases h0 : j % 3 = 0
      · rw [if_neg (by omega), if_neg (by omega), if_pos (by omega), if_pos h0]
      · by_cases h1 : j % 3 = 1
        · rw [if_neg (by omega), if_pos (by omega), if_neg h0, if_pos h1]
        · rw [if_pos (by omega), if_neg h0, if_neg h1]
    · rw [if_neg h, if_neg h, if_neg (by omega), if_neg (by omega), if_neg (by omega)]
end
theorem adB_way {D : Nat} {d : Int} (h : adB D d = true) : ∃ i : Nat, d = i ∧ i < D := by
  unfold adB at h
  simp only [decide_eq_true_eq] at h
  exact ⟨d.toNat, by omega, by omega⟩
theorem adB_nat {D i : Nat} (h : i < D) : adB D (i : Int) = true := by unfold adB; simp only [decide_eq_true_eq]; omega
/-- The answers of a device that is there. -/
theorem a_yes (D : Nat) (O : Nat → Int) (L : Nat → Nat) (i : Nat) (h : i < D) : apC D i = 0 ∧ apX D L i = ph (L i) ∧ aoX D O L i = if L i = 0 then O i else -1 := by
  simp [apC, apX, aoX, adB_nat h]
theorem a_no (D : Nat) (O : Nat → Int) (L : Nat → Nat) (d : Int) (h : adB D d = false) : apC D d = 1500 ∧ apX D L d = 0 ∧ aoX D O L d = -1 := by
  simp [apC, apX, aoX, h]
/-- The ways of a Move. -/
theorem am_parts (D P q : Nat) (O : Nat → Int) (L : Nat → Nat) (d t : Int) :
    (amB D P d t = false ∧ amC D P L d t = 1500 ∧ amO D P O L d t = O ∧ amL D P q L d t = L) ∨
    (∃ i : Nat, d = i ∧ i < D ∧ adB P t = true ∧ L i ≠ 0 ∧ amC D P L d t = 1501 ∧ amO D P O L d t = O ∧ amL D P q L d t = L) ∨
    (∃ i : Nat, d = i ∧ i < D ∧ adB P t = true ∧ L i = 0 ∧ amC D P L d t = 0 ∧ amO D P O L d t = iF O i t ∧ amL D P q L d t = uN L i q) := by
  cases hb : amB D P d t with
  | false => exact .inl ⟨rfl, by simp [amC, hb], by simp [amO, amG, hb], by simp [amL, amG, hb]⟩
  | true =>
    have hb2 := hb
    unfold amB at hb2
    rw [Bool.and_eq_true] at hb2
    obtain ⟨i, rfl, hi⟩ := adB_way hb2.1
    refine .inr ?_
    by_cases hl : L i = 0
    · exact .inr ⟨i, rfl, hi, hb2.2, hl, by simp [amC, hb, hl], by simp [amO, amG, hb, hl], by simp [amL, amG, hb, hl]⟩
    · exact .inl ⟨i, rfl, hi, hb2.2, hl, by simp [amC, hb, hl], by simp [amO, amG, hb, hl], by simp [amL, amG, hb, hl]⟩
theorem set_sameA {d : Ob} : ∀ {l : List Ob} {i : Nat}, l[i]? = some d → l.set i d = l
  | a :: l, 0, h => by simp at h; subst h; rfl
  | a :: l, i + 1, h => by simp only [List.set_cons_succ]; rw [set_sameA (by simpa using h)]
end Go.Proofs.Ytgamfejgpdampaa
