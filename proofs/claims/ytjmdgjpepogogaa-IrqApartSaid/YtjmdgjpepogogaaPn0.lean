/-
  Plain words for layer 12: a list of numbers as a heap. No Go here.
-/
import Derived.Test.YtjmdgjpepogogaaMem
namespace Go.Proofs.Ytjmdgjpepogogaa
open Go.RowKit
set_option linter.unusedVariables false
set_option maxRecDepth 100000

/-- The number at place i. -/
def gd (l : List Nat) (i : Nat) : Nat := l.getD i 0
/-- Two places each have what the other one had. -/
def swp (l : List Nat) (i j : Nat) : List Nat := (l.set i (gd l j)).set j (gd l i)
/-- The first n are a heap below the places from i0 on. -/
def hp (l : List Nat) (n i0 : Nat) : Prop := ∀ c, 0 < c → c < n → i0 ≤ (c - 1) / 2 → gd l ((c - 1) / 2) ≤ gd l c
/-- .. but for place j, which may be too small for where it stands. -/
def hpU (l : List Nat) (n j : Nat) : Prop :=
  (∀ c, 0 < c → c < n → c ≠ j → gd l ((c - 1) / 2) ≤ gd l c) ∧ (∀ c, 0 < c → c < n → (c - 1) / 2 = j → 0 < j → gd l ((j - 1) / 2) ≤ gd l c)
/-- .. but for place i, which may be too great for where it stands. -/
def hpD (l : List Nat) (n i i0 : Nat) : Prop :=
  (∀ c, 0 < c → c < n → i0 ≤ (c - 1) / 2 → (c - 1) / 2 ≠ i → gd l ((c - 1) / 2) ≤ gd l c) ∧ (∀ c, 0 < c → c < n → (c - 1) / 2 = i → i0 ≤ (i - 1) / 2 → i0 < i → gd l ((i - 1) / 2) ≤ gd l c)

theorem swp_len (l : List Nat) (i j : Nat) : (swp l i j).length = l.length := by simp [swp]
theorem gd_lt (l : List Nat) (i : Nat) (h : i < l.length) : gd l i = l[i] := by simp [gd, List.getD, List.getElem?_eq_getElem h]
theorem gd_swp (l : List Nat) (i j k : Nat) (hi : i < l.length) (hj : j < l.length) : gd (swp l i j) k = if k = j then gd l i else if k = i then gd l j else gd l k := by
  unfold gd swp
  simp only [List.getD, List.getElem?_set, List.length_set]
  by_cases h1 : j = k
  · subst h1; simp [hj, gd, List.getD]
  · by_cases h2 : i = k
    · subst h2; simp [h1, hi, gd, List.getD, Ne.symm h1]
    · simp [h1, h2, Ne.symm h1, Ne.symm h2]
theorem swp_perm (l : List Nat) (i j : Nat) (hi : i < l.length) (hj : j < l.length) : (swp l i j).Perm l := by
  unfold swp; rw [gd_lt l i hi, gd_lt l j hj]; exact List.set_set_perm hi hj
theorem swp_self (l : List Nat) (i : Nat) (hi : i < l.length) : swp l i i = l := by
  unfold swp; rw [List.set_set, gd_lt l i hi, List.set_getElem_self]

theorem hpU_push (l : List Nat) (x : Nat) (h : hp l l.length 0) : hpU (l ++ [x]) (l.length + 1) l.length := by
  have e : ∀ c, c < l.length → gd (l ++ [x]) c = gd l c := fun c hc => by simp [gd, List.getD, List.getElem?_append_left hc]
  refine ⟨fun c h0 hc hn => ?_, fun c h0 hc he _ => ?_⟩
  · rw [e c (by omega), e _ (by omega)]; exact h c h0 (by omega) (Nat.zero_le _)
  · omega
theorem hpU_done (l : List Nat) (n j : Nat) (h : hpU l n j) (hd : j = 0 ∨ gd l ((j - 1) / 2) ≤ gd l j) : hp l n 0 := by
  intro c h0 hc _
  by_cases e : c = j
  · subst e; rcases hd with hd | hd
    · omega
    · exact hd
  · exact h.1 c h0 hc e
theorem hpU_step (l : List Nat) (n j : Nat) (hn : n ≤ l.length) (hj : j < n) (h0 : 0 < j) (h : hpU l n j) (hl : gd l j < gd l ((j - 1) / 2)) : hpU (swp l ((j - 1) / 2) j) n ((j - 1) / 2) := by
  have hg : ∀ k, gd (swp l ((j - 1) / 2) j) k = if k = j then gd l ((j - 1) / 2) else if k = (j - 1) / 2 then gd l j else gd l k := fun k => gd_swp l _ _ k (by omega) (by omega)
  generalize hi : (j - 1) / 2 = i at *
  refine ⟨fun c hc0 hc hne => ?_, fun c hc0 hc he hi0 => ?_⟩
  · rw [hg, hg]
    by_cases e1 : c = j
    · subst e1; rw [if_neg (by omega), if_pos hi, if_pos rfl]; omega
    · by_cases e2 : (c - 1) / 2 = j
      · have h5 := h.2 c hc0 hc e2 h0
        rw [hi] at h5
        rw [if_pos e2, if_neg e1, if_neg hne]; exact h5
      · by_cases e3 : (c - 1) / 2 = i
        · have := h.1 c hc0 hc e1; rw [e3] at this
          rw [if_neg e2, if_pos e3, if_neg e1, if_neg hne]; omega
        · rw [if_neg e2, if_neg e3, if_neg e1, if_neg hne]; exact h.1 c hc0 hc e1
  · rw [hg, hg]
    have h3 := h.1 i hi0 (by omega) (by omega)
    by_cases e1 : c = j
    · subst e1; rw [if_neg (by omega), if_neg (by omega), if_pos rfl]; exact h3
    · have h4 := h.1 c hc0 hc e1; rw [he] at h4
      rw [if_neg (by omega), if_neg (by omega), if_neg e1, if_neg (by omega)]; omega

theorem hpD_done (l : List Nat) (n i i0 : Nat) (h : hpD l n i i0) (hd : ∀ c, 0 < c → c < n → (c - 1) / 2 = i → gd l i ≤ gd l c) : hp l n i0 := by
  intro c h0 hc h1
  by_cases e : (c - 1) / 2 = i
  · rw [e]; exact hd c h0 hc e
  · exact h.1 c h0 hc h1 e
/-- j: the lesser child of i. -/
theorem hpD_step (l : List Nat) (n i i0 j : Nat) (hn : n ≤ l.length) (hi : i0 ≤ i) (hj : j < n) (hji : (j - 1) / 2 = i) (h0 : 0 < j) (h : hpD l n i i0) (hl : gd l j < gd l i) (hm : ∀ c, 0 < c → c < n → (c - 1) / 2 = i → gd l j ≤ gd l c) :
    hpD (swp l i j) n j i0 := by
  have hg : ∀ k, gd (swp l i j) k = if k = j then gd l i else if k = i then gd l j else gd l k := fun k => gd_swp l _ _ k (by omega) (by omega)
  refine ⟨fun c hc0 hc hc1 hne => ?_, fun c hc0 hc he h1 h2 => ?_⟩
  · rw [hg, hg]
    by_cases e3 : (c - 1) / 2 = i
    · rw [if_neg hne, if_pos e3]
      by_cases e1 : c = j
      · rw [if_pos e1]; omega
      · rw [if_neg e1, if_neg (by omega)]; exact hm c hc0 hc e3
    · rw [if_neg hne, if_neg e3, if_neg (by omega)]
      by_cases e4 : c = i
      · subst e4; rw [if_pos rfl]; exact h.2 j h0 hj hji hc1 (by omega)
      · rw [if_neg e4]; exact h.1 c hc0 hc hc1 e3
  · rw [hg, hg, if_neg (by omega), if_pos hji, if_neg (by omega), if_neg (by omega)]
    have := h.1 c hc0 hc (by omega) (by omega)
    rw [he] at this; exact this

theorem hp_min (l : List Nat) (n : Nat) (h : hp l n 0) : ∀ c, c < n → gd l 0 ≤ gd l c := by
  intro c
  induction c using Nat.strongRecOn with
  | ind c ih =>
    intro hc
    rcases Nat.eq_zero_or_pos c with e | e
    · subst e; exact Nat.le_refl _
    · exact Nat.le_trans (ih ((c - 1) / 2) (by omega) (by omega)) (h c e hc (Nat.zero_le _))

/-- The first and the last turned: a heap but for its first. -/
theorem hpD_pop (l : List Nat) (n : Nat) (hn : l.length = n + 1) (h : hp l (n + 1) 0) : hpD (swp l 0 n) n 0 0 := by
  have hg : ∀ k, gd (swp l 0 n) k = if k = n then gd l 0 else if k = 0 then gd l n else gd l k := fun k => gd_swp l _ _ k (by omega) (by omega)
  refine ⟨fun c h0 hc _ hne => ?_, fun c h0 hc he _ h1 => by omega⟩
  rw [hg, hg, if_neg (by omega), if_neg hne, if_neg (by omega), if_neg (by omega)]
  exact h c h0 (by omega) (Nat.zero_le _)
theorem hp_zero (l : List Nat) (n i : Nat) (h : n / 2 ≤ i) : hp l n i := fun c h0 hc h1 => by omega
theorem hpD_init (l : List Nat) (n i : Nat) (h : hp l n (i + 1)) : hpD l n i i := ⟨fun c h0 hc h1 h2 => h c h0 hc (by omega), fun c h0 hc he h1 h2 => by omega⟩
theorem hp_of_sorted (l : List Nat) (h : l.Pairwise (· < ·)) : hp l l.length 0 := by
  intro c h0 hc _
  rw [gd_lt l _ (by omega), gd_lt l c hc]
  have := List.pairwise_iff_getElem.1 h ((c - 1) / 2) c (by omega) hc (by omega)
  omega

/-- Places at and behind n stay. -/
def same (l l' : List Nat) (n : Nat) : Prop := l'.length = l.length ∧ l'.Perm l ∧ ∀ k, n ≤ k → gd l' k = gd l k
theorem same_refl (l : List Nat) (n : Nat) : same l l n := ⟨rfl, .refl _, fun _ _ => rfl⟩
theorem same_swp {l l' : List Nat} {n i j : Nat} (h : same l l' n) (hn : n ≤ l.length) (hi : i < n) (hj : j < n) : same l (swp l' i j) n :=
  ⟨(swp_len _ _ _).trans h.1, (swp_perm l' i j (by have := h.1; omega) (by have := h.1; omega)).trans h.2.1, fun k hk => by rw [gd_swp l' i j k (by have := h.1; omega) (by have := h.1; omega), if_neg (by omega), if_neg (by omega)]; exact h.2.2 k hk⟩

/-- What Pop leaves: the heap without its least. -/
theorem pop_facts (l l' : List Nat) (n : Nat) (hn : l.length = n + 1) (h : hp l (n + 1) 0) (hs : same (swp l 0 n) l' n) (h' : hp l' n 0) :
    l' = l'.take n ++ [gd l 0] ∧ (gd l 0 :: l'.take n).Perm l ∧ hp (l'.take n) n 0 ∧ (l'.take n).length = n ∧ ∀ b ∈ l'.take n, gd l 0 ≤ b := by
  have hl' : l'.length = n + 1 := by rw [hs.1, swp_len, hn]
  have e : gd l' n = gd l 0 := by rw [hs.2.2 n (Nat.le_refl _), gd_swp l 0 n n (by omega) (by omega), if_pos rfl]
  have e1 : l' = l'.take n ++ [gd l 0] := by
    rw [← e, gd_lt l' n (by omega), List.take_append_getElem (by omega), List.take_of_length_le (by omega)]
  have hp' : (gd l 0 :: l'.take n).Perm l := by
    have : (l'.take n ++ [gd l 0]).Perm l := by rw [← e1]; exact hs.2.1.trans (swp_perm l 0 n (by omega) (by omega))
    exact (List.perm_append_singleton _ _).symm.trans this
  refine ⟨e1, hp', fun c h0 hc h1 => ?_, by simp; omega, fun b hb => ?_⟩
  · have := h' c h0 hc h1
    have g : ∀ k, k < n → gd (l'.take n) k = gd l' k := fun k hk => by simp [gd, List.getD, hk]
    rw [g _ (by omega), g _ hc]; exact this
  · have hb' : b ∈ l := hp'.mem_iff.1 (List.mem_cons_of_mem _ hb)
    obtain ⟨c, hc, rfl⟩ := List.getElem_of_mem hb'
    rw [← gd_lt l c hc]; exact hp_min l (n + 1) h c (by omega)

end Go.Proofs.Ytjmdgjpepogogaa
