/-
  Plain words of layer 18: runs of sectors taken into a set one after another; may these shares be; which sector of the disk one of a share is. And a slice of parts, as it is read. No Go function here.
-/
import Derived.Test.YtamhnnkmjhapmaaBitc
import Derived.Test.YtamhnnkmjhapmaaPlain2
namespace Go.Proofs.Ytamhnnkmjhapmaa
open Go.RowKit
set_option linter.unusedVariables false
set_option maxRecDepth 100000

/-- Is none of the c places from a on in the set? -/
def freeB (F : Nat → Bool) : Nat → Nat → Bool
  | _, 0 => true
  | a, c + 1 => !F a && freeB F (a + 1) c
/-- A set with the c places from a on. -/
def addF (F : Nat → Bool) (a c : Nat) : Nat → Bool := fun k => F k || (decide (a ≤ k) && decide (k < a + c))
theorem addF_zero (F : Nat → Bool) (a : Nat) : addF F a 0 = F := by
  funext k; unfold addF
  by_cases h : a ≤ k
  · rw [decide_eq_true h, decide_eq_false (show ¬ k < a + 0 by omega)]; simp
  · rw [decide_eq_false h]; simp
theorem addF_step (F : Nat → Bool) (a k : Nat) : bitF (addF F a k) (a + k) true = addF F a (k + 1) := by
  funext i; unfold bitF addF
  by_cases e : i = a + k
  · subst e; rw [if_pos rfl, decide_eq_true (show a ≤ a + k by omega), decide_eq_true (show a + k < a + (k + 1) by omega)]; simp
  · rw [if_neg e]
    by_cases h : a ≤ i
    · rw [decide_eq_true h]
      by_cases h2 : i < a + k
      · rw [decide_eq_true h2, decide_eq_true (show i < a + (k + 1) by omega)]
      · rw [decide_eq_false h2, decide_eq_false (show ¬ i < a + (k + 1) by omega)]
    · rw [decide_eq_false h]; simp
theorem addF_at (F : Nat → Bool) (a k : Nat) : addF F a k (a + k) = F (a + k) := by
  unfold addF; rw [decide_eq_false (show ¬ a + k < a + k by omega)]; simp
theorem freeB_iff (F : Nat → Bool) (c : Nat) : ∀ a, freeB F a c = true ↔ ∀ i, i < c → F (a + i) = false := by
  induction c with
  | zero => intro a; simp [freeB]
  | succ c ih =>
    intro a
    simp only [freeB, Bool.and_eq_true, Bool.not_eq_true', ih]
    constructor
    · rintro ⟨h1, h2⟩ i hi
      cases i with
      | zero => exact h1
      | succ i => rw [show a + (i + 1) = a + 1 + i by omega]; exact h2 i (by omega)
    · intro h
      exact ⟨h 0 (by omega), fun i hi => by rw [show a + 1 + i = a + (i + 1) by omega]; exact h (i + 1) (by omega)⟩
theorem freeB_step (F : Nat → Bool) (a c k : Nat) (h : k < c) : freeB F (a + k) (c - k) = (!F (a + k) && freeB F (a + (k + 1)) (c - (k + 1))) := by
  obtain ⟨m, hm⟩ : ∃ m, c - k = m + 1 := ⟨c - k - 1, by omega⟩
  rw [hm, show c - (k + 1) = m by omega]; rfl

/-- Do n sectors from a on lie within s, none of the three below 0? -/
def runB (a n s : Int) : Bool := decide (0 ≤ a ∧ 0 ≤ n ∧ a ≤ s ∧ n ≤ s - a)
/-- Do these shares lie within s sectors, none of them in the set or in two? -/
def goB : List (Int × Int) → Int → (Nat → Bool) → Bool
  | [], _, _ => true
  | p :: ps, s, F => runB p.1 p.2 s && (freeB F p.1.toNat p.2.toNat && goB ps s (addF F p.1.toNat p.2.toNat))
/-- May these shares be? -/
def extB (ps : List (Int × Int)) (s : Int) : Bool := (decide (1 ≤ ps.length ∧ ps.length ≤ 4) && decide (0 ≤ s ∧ s ≤ 64)) && goB ps s noB
/-- Which sector one of a share is, and the error. -/
def toC (ps : List (Int × Int)) (part lba n : Int) : Int × Int :=
  if (extB ps 64 && decide (0 ≤ part ∧ part < ps.length)) = true then (if runB lba n (ps.getD part.toNat (0, 0)).2 = true then ((ps.getD part.toNat (0, 0)).1 + lba, 0) else (0, 1801)) else (0, 1800)

theorem goB_end (ps : List (Int × Int)) (s : Int) (F : Nat → Bool) (k : Nat) (h : ps.length ≤ k) : goB (ps.drop k) s F = true := by
  rw [List.drop_eq_nil_of_le h]; rfl
theorem goB_step (ps : List (Int × Int)) (s : Int) (F : Nat → Bool) (k : Nat) (h : k < ps.length) :
    goB (ps.drop k) s F = (runB (ps.getD k (0, 0)).1 (ps.getD k (0, 0)).2 s && (freeB F (ps.getD k (0, 0)).1.toNat (ps.getD k (0, 0)).2.toNat && goB (ps.drop (k + 1)) s (addF F (ps.getD k (0, 0)).1.toNat (ps.getD k (0, 0)).2.toNat))) := by
  simp only [List.getD, List.getElem?_eq_getElem h, Option.getD_some]
  rw [List.drop_eq_getElem_cons h]; rfl
theorem goB_runs (s : Int) : ∀ (ps : List (Int × Int)) (F : Nat → Bool), goB ps s F = true → ∀ p ∈ ps, 0 ≤ p.1 ∧ 0 ≤ p.2 ∧ p.1 ≤ s ∧ p.2 ≤ s - p.1 := by
  intro ps
  induction ps with
  | nil => intro F _ p hp; cases hp
  | cons q ps ih =>
    intro F h p hp
    simp only [goB, Bool.and_eq_true] at h
    rcases List.mem_cons.1 hp with rfl | hp
    · exact of_decide_eq_true h.1
    · exact ih _ h.2.2 p hp
theorem extB_parts {ps : List (Int × Int)} {s : Int} (h : extB ps s = true) : 1 ≤ ps.length ∧ ps.length ≤ 4 ∧ 0 ≤ s ∧ s ≤ 64 ∧ goB ps s noB = true := by
  simp only [extB, Bool.and_eq_true, decide_eq_true_eq] at h
  exact ⟨h.1.1.1, h.1.1.2, h.1.2.1, h.1.2.2, h.2⟩
theorem extB_runs {ps : List (Int × Int)} {s : Int} (h : extB ps s = true) : ∀ p ∈ ps, 0 ≤ p.1 ∧ 0 ≤ p.2 ∧ p.1 ≤ s ∧ p.2 ≤ s - p.1 :=
  goB_runs s ps noB (extB_parts h).2.2.2.2
theorem extB_run {ps : List (Int × Int)} {s : Int} (h : extB ps s = true) (k : Nat) (hk : k < ps.length) : 0 ≤ (ps.getD k (0, 0)).1 ∧ 0 ≤ (ps.getD k (0, 0)).2 ∧ (ps.getD k (0, 0)).1 ≤ s ∧ (ps.getD k (0, 0)).2 ≤ s - (ps.getD k (0, 0)).1 := by
  simp only [List.getD, List.getElem?_eq_getElem hk, Option.getD_some]
  exact extB_runs h _ (List.getElem_mem hk)

/-- A slice of parts, as it is read: its first sectors, its counts. -/
def PtS (w : World) (v : Value) (ps : List (Int × Int)) : Prop :=
  ∃ A cap, v = .slice A ps.length cap ∧ ps.length ≤ maxLen ∧ (0 < ps.length → ∃ b o, A = some ⟨b, o, none⟩ ∧ b < w.heap.size ∧ ∀ i, i < ps.length → ∃ (l c : Int) (A2 : Option Addr) (n2 c2 : Nat),
    w.cell? ⟨b, o + i * 5, none⟩ = some (.int .i64 l) ∧ w.cell? ⟨b, o + i * 5 + 1, none⟩ = some (.int .i64 c) ∧ w.cell? ⟨b, o + i * 5 + 2, none⟩ = some (.slice A2 n2 c2) ∧
    w.cell? ⟨b, o + i * 5 + 3, none⟩ = some (.int .i64 (ps.getD i (0, 0)).1) ∧ w.cell? ⟨b, o + i * 5 + 4, none⟩ = some (.int .i64 (ps.getD i (0, 0)).2))
theorem PtS.below {w w' : World} {v : Value} {ps : List (Int × Int)} (h : PtS w v ps) (hb : Below w.heap.size w w') : PtS w' v ps := by
  obtain ⟨A, cap, hv, hn, hA⟩ := h
  refine ⟨A, cap, hv, hn, fun h0 => ?_⟩
  obtain ⟨b, o, e, hlt, hi⟩ := hA h0
  have g := fun x => hb.cell (p := ⟨b, x, none⟩) hlt
  refine ⟨b, o, e, Nat.lt_of_lt_of_le hlt hb.size, fun i hi' => ?_⟩
  obtain ⟨l, c, A2, n2, c2, h0, h1, h2, h3, h4⟩ := hi i hi'
  exact ⟨l, c, A2, n2, c2, (g _).trans h0, (g _).trans h1, (g _).trans h2, (g _).trans h3, (g _).trans h4⟩
theorem PtS.len {w : World} {v : Value} {ps : List (Int × Int)} (h : PtS w v ps) : ∃ A cap, v = .slice A ps.length cap := by obtain ⟨A, cap, h, _⟩ := h; exact ⟨A, cap, h⟩

end Go.Proofs.Ytamhnnkmjhapmaa
