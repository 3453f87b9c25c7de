/-
  Plain words for layer 6's laws without the document's answer. No Go here.
-/
import Derived.Test.YtiegonnnokldkaaTlb0
namespace Go.Proofs.Ytiegonnnokldkaa
open Go.RowKit
set_option linter.unusedVariables false

/-- A line that is there is found. -/
theorem get_mem (l : List Ln) (h : Uq l) (x : Ln) (hx : x ∈ l) : getF l x.d x.p = x.f ∧ getM l x.d x.p = x.m ∧ getB l x.d x.p = true := by
  rcases idx_cases (isK x.d x.p) l with ⟨_, hall⟩ | ⟨k, hk, he, hy, _⟩
  · have := hall x hx
    simp [isK] at this
  · obtain ⟨j, hj, rfl⟩ := List.getElem_of_mem hx
    have hkj : k = j := by
      unfold Uq at h
      rw [List.pairwise_iff_getElem] at h
      have e := (isK_iff _ _ _).1 hy
      rcases Nat.lt_trichotomy k j with hlt | heq | hgt
      · exact absurd e (h k j hk hj hlt)
      · exact heq
      · exact absurd ⟨e.1.symm, e.2.symm⟩ (h j k hj hk hgt)
    subst hkj
    have h0 : ¬ ((k : Int) < 0) := by omega
    simp [getF, getM, getB, he, h0, hk]

/-- Is there a line of the page? -/
def inB (l : List Ln) (q : Int) : Bool := l.any (fun x => x.p == q)
theorem getB_any (l : List Ln) (d q : Int) (h : ∀ x ∈ l, x.d = d) : getB l d q = inB l q := by
  unfold getB inB
  rcases idx_cases (isK d q) l with ⟨he, hall⟩ | ⟨k, hk, he, hy, _⟩
  · rw [he]
    symm
    rw [show decide ((0 : Int) ≤ -1) = false by decide, List.any_eq_false]
    intro x hx
    have h1 := hall x hx
    have h2 := h x hx
    simp [isK, h2] at h1
    simpa using h1
  · rw [he]
    have e := (isK_iff _ _ _).1 hy
    rw [decide_eq_true (by omega)]
    symm
    rw [List.any_eq_true]
    exact ⟨_, List.getElem_mem hk, by simpa using e.2⟩
theorem inB_succ (l : List Ln) (q : Int) (k : Nat) (hk : k < l.length) : inB (l.take (k + 1)) q = (inB (l.take k) q || l[k].p == q) := by
  unfold inB
  rw [List.take_succ_eq_append_getElem hk, List.any_append]
  simp

/-- The pages of a row. -/
def pgs (l : List Ln) : List Int := l.map (·.p)
theorem pgs_len (l : List Ln) : (pgs l).length = l.length := by simp [pgs]
theorem pgs_get (l : List Ln) (k : Nat) (hk : k < l.length) : (pgs l).getD k 0 = l[k].p := by simp [pgs, List.getD, hk]

/-- What the law knows of the first lines: A is -1 where none has the page. -/
def AtI (l : List Ln) (p A : Int) : Prop := (A = -1 ∧ inB l p = false) ∨ (0 ≤ A ∧ A ≤ 100 ∧ inB l p = true)

/-- The lines of this law: of device 1. -/
def Ones (l : List Ln) : Prop := ∀ x ∈ l, x.d = 1

theorem mem_put (c : Nat) (l : List Ln) (x : Ln) (hc : 1 ≤ c) : x ∈ putL c l x := by
  unfold putL
  rcases idx_cases (isK x.d x.p) l with ⟨he, _⟩ | ⟨k, hk, he, _, _⟩
  · rw [he, if_neg (by omega)]
    split
    · cases l with
      | nil => simp at *; omega
      | cons y l => simp
    · simp
  · rw [he, if_pos (by omega), Int.toNat_natCast]
    exact List.mem_set hk _
theorem ones_put (c : Nat) (l : List Ln) (x : Ln) (h : Ones l) (hx : x.d = 1) : Ones (putL c l x) := by
  unfold putL Ones at *
  intro y hy
  split at hy
  · rcases List.mem_or_eq_of_mem_set hy with h1 | h1
    · exact h y h1
    · rw [h1]; exact hx
  · split at hy
    · rcases List.mem_append.1 (List.mem_of_mem_tail hy) with h1 | h1
      · exact h y h1
      · simp at h1; rw [h1]; exact hx
    · rcases List.mem_append.1 hy with h1 | h1
      · exact h y h1
      · simp at h1; rw [h1]; exact hx

/-- The pages behind a Put, as the law reckons them. -/
theorem pgs_put_yes (c : Nat) (l : List Ln) (x : Ln) (h : Ones l) (hx : x.d = 1) (hin : inB l x.p = true) : pgs (putL c l x) = pgs l ∧ (putL c l x).length = l.length := by
  unfold putL
  rcases idx_cases (isK x.d x.p) l with ⟨he, hall⟩ | ⟨k, hk, he, hy, _⟩
  · exfalso
    have := getB_any l x.d x.p (by rw [hx]; exact h)
    rw [hin] at this
    simp [getB, he] at this
  · rw [he, if_pos (by omega), Int.toNat_natCast]
    have e := (isK_iff _ _ _).1 hy
    refine ⟨?_, by simp⟩
    unfold pgs
    rw [List.map_set]
    apply List.ext_getElem
    · simp
    · intro i h1 h2
      rw [List.getElem_set]
      split
      · rename_i hik; subst hik; simp [e.2]
      · rfl
theorem put_no (c : Nat) (l : List Ln) (x : Ln) (h : Ones l) (hx : x.d = 1) (hin : inB l x.p = false) : putL c l x = if c < l.length + 1 then (l ++ [x]).tail else l ++ [x] := by
  unfold putL
  rcases idx_cases (isK x.d x.p) l with ⟨he, hall⟩ | ⟨k, hk, he, hy, _⟩
  · rw [he, if_neg (by omega)]
  · exfalso
    have := getB_any l x.d x.p (by rw [hx]; exact h)
    rw [hin] at this
    simp [getB, he] at this

end Go.Proofs.Ytiegonnnokldkaa
