/-
  Plain words for RingBuffers: which frames a run touches; frames told by bits. No Go function here.
-/
import Derived.Test.YtcjmgjdejljjkaaRi4
namespace Go.Proofs.Ytcjmgjdejljjkaa
open Go.RowKit
set_option linter.unusedVariables false
set_option maxRecDepth 100000

/-- The frames of a run's pieces are those that it touches. -/
theorem spl_mem (n : Nat) : ∀ a j, (∃ p ∈ spl a n, p.1 = j) ↔ (j * 64 < a + n ∧ a < (j + 1) * 64 ∧ 0 < n) := by
  induction n using Nat.strongRecOn with
  | ind n ih =>
    intro a j
    rcases Nat.eq_zero_or_pos n with h | h
    · subst h; simp [spl_zero]
    · have hs := spl_step a n h
      obtain ⟨k, hk⟩ : ∃ k, min n (64 - a % 64) = k := ⟨_, rfl⟩
      rw [hk] at hs
      rw [hs]
      have k1 : 0 < k := by omega
      have k2 : k ≤ n := by omega
      have k3 : k ≤ 64 - a % 64 := by omega
      have k4 : k = n ∨ k = 64 - a % 64 := by omega
      clear hk hs
      have := ih (n - k) (by omega) (a + k) j
      constructor
      · rintro ⟨p, hp, rfl⟩
        rcases List.mem_cons.1 hp with rfl | hp
        · clear this ih; simp only; omega
        · obtain ⟨h2, h3, h4⟩ := this.1 ⟨p, hp, rfl⟩
          clear this ih
          generalize p.1 = f at *
          clear hp
          omega
      · intro h2
        by_cases e : a / 64 = j
        · exact ⟨_, List.mem_cons_self, e⟩
        · have pre : j * 64 < a + k + (n - k) ∧ a + k < (j + 1) * 64 ∧ 0 < n - k := by clear this ih; omega
          obtain ⟨p, hp, e2⟩ := this.2 pre
          exact ⟨p, List.mem_cons_of_mem _ hp, e2⟩

/-- The frames below k that R tells of. -/
def frL (R : Nat → Bool) : Nat → List Int
  | 0 => []
  | k + 1 => frL R k ++ (if R k then [(k : Int)] else [])
theorem frL_yes {R : Nat → Bool} {k : Nat} (h : R k = true) : frL R (k + 1) = frL R k ++ [(k : Int)] := by rw [frL, h]; rfl
theorem frL_no {R : Nat → Bool} {k : Nat} (h : R k = false) : frL R (k + 1) = frL R k := by rw [frL, h]; simp
theorem frL_len (R : Nat → Bool) (k : Nat) : (frL R k).length ≤ k := by
  induction k with
  | zero => exact Nat.le_refl _
  | succ k ih => rw [frL, List.length_append]; split <;> simp <;> omega
theorem frL_mem (R : Nat → Bool) (k : Nat) (x : Int) : x ∈ frL R k ↔ ∃ j : Nat, j < k ∧ x = (j : Int) ∧ R j = true := by
  induction k with
  | zero => simp [frL]
  | succ k ih =>
    rw [frL, List.mem_append, ih]
    constructor
    · rintro (⟨j, h1, h2, h3⟩ | h)
      · exact ⟨j, by omega, h2, h3⟩
      · cases hR : R k with
        | false => rw [hR] at h; simp at h
        | true => rw [hR] at h; exact ⟨k, by omega, by simpa using h, hR⟩
    · rintro ⟨j, h1, h2, h3⟩
      by_cases e : j = k
      · subst e; right; rw [h3]; simp [h2]
      · exact .inl ⟨j, by omega, h2, h3⟩

/-- Does the run of m sectors from b on touch the frame f? -/
def tcB (b m : Int) (f : Nat) : Bool := decide ((f : Int) * 64 < b + m * 16) && decide (b < ((f : Int) + 1) * 64)
/-- Is the frame f one that forbids it? -/
def bdB (o b m : Int) (R W : Nat → Bool) (f : Nat) : Bool := tcB b m f && ((decide (o = 1) && !R f) || (decide (o = 0) && !W f))
/-- None of the first k. -/
def okB (o b m : Int) (R W : Nat → Bool) : Nat → Bool
  | 0 => true
  | k + 1 => okB o b m R W k && !bdB o b m R W k
theorem okB_iff (o b m : Int) (R W : Nat → Bool) (k : Nat) : okB o b m R W k = true ↔ ∀ j, j < k → bdB o b m R W j = false := by
  induction k with
  | zero => simp [okB]
  | succ k ih =>
    rw [okB, Bool.and_eq_true, ih]
    constructor
    · rintro ⟨h1, h2⟩ j hj
      by_cases e : j = k
      · subst e; simpa using h2
      · exact h1 j (by omega)
    · exact fun h => ⟨fun j hj => h j (by omega), by rw [h k (by omega)]; rfl⟩
theorem bool_iff {a b : Bool} (h : a = true ↔ b = true) : a = b := by cases a <;> cases b <;> simp_all

/-- All that a buffer of the law touches is among the frames that R tells of: it may be reached. -/
theorem buf_iff (b m : Int) (R : Nat → Bool) (hb0 : 0 ≤ b) (hb1 : b ≤ 255) (hm0 : 1 ≤ m) (hm1 : m ≤ 4) : bufB b m (frL R 5) = true ↔ ∀ j, j < 5 → tcB b m j = true → R j = true := by
  unfold bufB
  rw [decide_eq_true (show b + m * 16 ≤ 4096 by omega), Bool.true_and]
  unfold okF
  rw [List.all_eq_true]
  have hmem := spl_mem (m * 16).toNat b.toNat
  constructor
  · intro h j hj ht
    unfold tcB at ht
    rw [Bool.and_eq_true, decide_eq_true_eq, decide_eq_true_eq] at ht
    obtain ⟨p, hp, e⟩ := (hmem j).2 (by omega)
    have h1 := h p hp
    rw [List.contains_iff_mem, frL_mem] at h1
    obtain ⟨i, _, hi, hR⟩ := h1
    have : i = j := by omega
    rw [← this]; exact hR
  · intro h p hp
    have h1 := (hmem p.1).1 ⟨p, hp, rfl⟩
    rw [List.contains_iff_mem, frL_mem]
    refine ⟨p.1, by omega, rfl, h p.1 (by omega) ?_⟩
    unfold tcB
    rw [Bool.and_eq_true, decide_eq_true_eq, decide_eq_true_eq]
    omega

/-- What Check answers of the law's descriptor. -/
theorem buf_code (o b m : Int) (R W : Nat → Bool) (hb0 : 0 ≤ b) (hb1 : b ≤ 255) (hm0 : 1 ≤ m) (hm1 : m ≤ 4) (ho0 : 0 ≤ o) (ho1 : o ≤ 3) :
    ckC [⟨o, 255, 0, b, m⟩] (frL R 5) (frL W 5) = if okB o b m R W 5 then 0 else 1703 := by
  have hd : deB o 255 0 b m = true := (de_iff ..).2 (by omega)
  have key : oneC ⟨o, 255, 0, b, m⟩ (frL R 5) (frL W 5) = if okB o b m R W 5 then 0 else 1703 := by
    unfold oneC deD
    simp only
    rw [hd, decide_eq_true hm0, decide_eq_true hm1]
    by_cases h1 : o = 1
    · subst h1
      have e : bufB b m (frL R 5) = okB 1 b m R W 5 := bool_iff (by
        rw [buf_iff b m R hb0 hb1 hm0 hm1, okB_iff]
        constructor
        · intro h j hj
          have := h j hj
          unfold bdB
          cases ht : tcB b m j with
          | false => rfl
          | true => rw [this ht]; rfl
        · intro h j hj ht
          have := h j hj
          unfold bdB at this
          rw [ht] at this
          cases hR : R j with
          | true => rfl
          | false => rw [hR] at this; simp at this)
      rw [e]; rfl
    · by_cases h0 : o = 0
      · subst h0
        have e : bufB b m (frL W 5) = okB 0 b m R W 5 := bool_iff (by
          rw [buf_iff b m W hb0 hb1 hm0 hm1, okB_iff]
          constructor
          · intro h j hj
            have := h j hj
            unfold bdB
            cases ht : tcB b m j with
            | false => rfl
            | true => rw [this ht]; rfl
          · intro h j hj ht
            have := h j hj
            unfold bdB at this
            rw [ht] at this
            cases hR : W j with
            | true => rfl
            | false => rw [hR] at this; simp at this)
        rw [e]; rfl
      · have e : okB o b m R W 5 = true := (okB_iff ..).2 (fun j _ => by unfold bdB; rw [decide_eq_false h1, decide_eq_false h0]; simp)
        rw [e, if_neg h1, if_neg h0]; rfl
  unfold ckC
  rw [key]
  cases okB o b m R W 5 <;> rfl

end Go.Proofs.Ytcjmgjdejljjkaa
