/-
  Layer 20, plain words for NicRows: three labels; what a Send, a Receive leaves; the law's rows as things.
-/
import Derived.Test.YtfkdohnpfjdehaaNcAwake
import Derived.Test.YtfkdohnpfjdehaaNd2
namespace Go.Proofs.Ytfkdohnpfjdehaa
open Go.RowKit
set_option linter.unusedVariables false
set_option linter.unusedSimpArgs false
set_option maxRecDepth 100000

def lsR : List (Int × Int) := [(0, 0), (1, 0), (1, 0)]
theorem three3 {p : Nat} (h : p < 3) : p = 0 ∨ p = 1 ∨ p = 2 := by omega
theorem lsR_L {f t : Nat} (hf : f < 3) (ht : t < 3) : nsL lsR f t = !(decide (t = 0) && decide (f ≠ 0)) := by
  rcases three3 hf with rfl | rfl | rfl <;> rcases three3 ht with rfl | rfl | rfl <;> kernel_rfl
theorem lsR_C {f t n : Nat} (hf : f < 3) (ht : t < 3) (hn : 1 ≤ n ∧ n ≤ 32) : nsC lsR f t n = if t = 0 ∧ f ≠ 0 then 2001 else 0 := by
  have hB : nsB lsR f t n = true := by
    unfold nsB
    rw [inP_at (show f < lsR.length from hf), inP_at (show t < lsR.length from ht), decide_eq_true hn]; rfl
  unfold nsC
  rw [hB, if_pos rfl, lsR_L hf ht]
  by_cases h : t = 0 ∧ f ≠ 0
  · rw [if_pos h, decide_eq_true h.1, decide_eq_true h.2]; rfl
  · rw [if_neg h]
    by_cases h1 : t = 0
    · have h2 : ¬ (f ≠ 0) := fun h2 => h ⟨h1, h2⟩
      rw [decide_eq_false h2, Bool.and_false]; rfl
    · rw [decide_eq_false h1]; rfl
theorem sdR_no {q : Qs} {f t : Nat} {s : List UInt8} (hf : f < 3) (ht : t < 3) (hn : 1 ≤ s.length ∧ s.length ≤ 32) (h : t = 0 ∧ f ≠ 0) : sd lsR q f t s = q := by
  unfold sd nsQ nsD
  rw [lsR_C hf ht hn, if_pos h, if_neg (by decide), if_neg (by decide)]
theorem sdR_put {q : Qs} {f t : Nat} {s : List UInt8} (hf : f < 3) (ht : t < 3) (hn : 1 ≤ s.length ∧ s.length ≤ 32) (h : ¬ (t = 0 ∧ f ≠ 0)) (h8 : (q.1 t).length < 8) : sd lsR q f t s = (upF q.1 t (q.1 t ++ [⟨f, s⟩]), q.2) := by
  unfold sd nsQ nsD adQ adD
  rw [lsR_C hf ht hn, if_neg h, if_pos rfl, if_pos rfl, Int.toNat_natCast, if_pos h8, if_pos h8]
theorem sdR_full {q : Qs} {f t : Nat} {s : List UInt8} (hf : f < 3) (ht : t < 3) (hn : 1 ≤ s.length ∧ s.length ≤ 32) (h : ¬ (t = 0 ∧ f ≠ 0)) (h8 : ¬ (q.1 t).length < 8) (hd : q.2 t + 1 ≤ 65535) : sd lsR q f t s = (q.1, iF q.2 t (q.2 t + 1)) := by
  unfold sd nsQ nsD adQ adD
  rw [lsR_C hf ht hn, if_neg h, if_pos rfl, if_pos rfl, Int.toNat_natCast, if_neg h8, if_neg h8, show min (q.2 t + 1) 65535 = q.2 t + 1 by omega]
theorem rcR {q : Qs} {t : Nat} (ht : t < 3) : rc lsR q t = (upF q.1 t (q.1 t).tail, q.2) := by
  unfold rc nrQ
  rw [inP_at (show t < lsR.length from ht), if_pos rfl, Int.toNat_natCast]
theorem rcR_C {q : Qs} {t : Nat} (ht : t < 3) : nrC lsR q.1 t = (if (q.1 t).length = 0 then 2002 else 0) ∧ nrM lsR q.1 t = (q.1 t).headD ⟨0, []⟩ := by
  unfold nrC nrM
  rw [inP_at (show t < lsR.length from ht), if_pos rfl, if_pos rfl, Int.toNat_natCast]
  exact ⟨rfl, rfl⟩
theorem nqR {q : Qs} {t : Nat} (ht : t < 3) : nqX lsR q.1 t = q.1 t ∧ ndX lsR q.2 t = q.2 t := by
  unfold nqX ndX
  rw [inP_at (show t < lsR.length from ht), if_pos rfl, if_pos rfl, Int.toNat_natCast]
  exact ⟨rfl, rfl⟩

/-- A row of the law's. -/
def rO (V : Nat → Value) (Q : Nat → List Ms) (p : Nat) : Ob := obR 41 2 (V p) (Q p).length (mss (Q p))
def rows3 (V : Nat → Value) (Q : Nat → List Ms) : List Ob := [rO V Q 0, rO V Q 1, rO V Q 2]
theorem rows3_at (V : Nat → Value) (Q : Nat → List Ms) {p : Nat} (h : p < 3) : (rows3 V Q)[p]? = some (obR 41 2 (V p) (Q p).length (mss (Q p))) :=
  match p, h with
  | 0, _ => rfl
  | 1, _ => rfl
  | 2, _ => rfl
theorem rows3_set (V : Nat → Value) (Q : Nat → List Ms) (v : Value) (x : List Ms) {p : Nat} (h : p < 3) : (rows3 V Q).set p (obR 41 2 v x.length (mss x)) = rows3 (upF V p v) (upF Q p x) :=
  match p, h with
  | 0, _ => rfl
  | 1, _ => rfl
  | 2, _ => rfl
/-- The Switch, the law's rows and counts. -/
def osR (g gq gd : Nat) (V : Nat → Value) (q : Qs) : List Ob := ob2 g lsR q :: obB gq 55 (fam V 3) :: obB gd 56 (itc q.2 3) :: rows3 V q.1
theorem osR_at (g gq gd : Nat) (V : Nat → Value) (q : Qs) {p : Nat} (h : p < 3) : (osR g gq gd V q)[p + 3]? = some (obR 41 2 (V p) (q.1 p).length (mss (q.1 p))) := rows3_at V q.1 h
def StR (w : World) (g gq gd k : Nat) (wx : World) : Prop := ∃ (q : Qs) (V : Nat → Value), (∀ p, q.2 p ≤ k) ∧ Tk nos w (osR g gq gd V q) wx
theorem sl_sub {w : World} {b len cap o : Nat} {m : Ms} {r : List Ms} (h : Sl w (.slice (some ⟨b, 0, none⟩) len cap) len 2 (mss (m :: r))) (hl : (m :: r).length = len) (ho : r.length = 0 ∨ o = 2) : Sl w (.slice (some ⟨b, o, none⟩) r.length (cap - 1)) r.length 2 (mss r) := by
  have ho2 : 0 < r.length → o = 2 := fun h => by omega
  obtain ⟨A, c, e, hc, hx, hA⟩ := h
  simp only [Value.slice.injEq] at e
  obtain ⟨rfl, -, rfl⟩ := e
  simp only [List.length_cons] at hl
  refine ⟨_, cap - 1, rfl, by omega, mss_len r, fun hr => ?_⟩
  obtain ⟨b', o', e, hb, hcell⟩ := hA (by omega)
  simp only [Option.some.injEq, Addr.mk.injEq] at e
  obtain ⟨rfl, rfl, -⟩ := e
  have ho3 := ho2 hr
  subst ho3
  refine ⟨b, 2, rfl, hb, fun j u hu => ?_⟩
  have := hcell (2 + j) u (by rw [mss_cons, List.getElem?_append_right (by show 2 ≤ 2 + j; omega), ← hu]; congr 1; show 2 + j - 2 = j; omega)
  rwa [Nat.zero_add] at this

end Go.Proofs.Ytfkdohnpfjdehaa
