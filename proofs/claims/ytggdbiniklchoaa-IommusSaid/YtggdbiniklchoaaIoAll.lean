/-
  Plain words for layer 7: which leaf a root's word leads to, what Map, Unmap, Translate, Clear answer and leave in a memory's bytes. No Go here.
-/
import Derived.Test.YtggdbiniklchoaaWalkAll
namespace Go.Proofs.Ytggdbiniklchoaa
open Go.RowKit
set_option linter.unusedVariables false
set_option maxRecDepth 100000

/-- How many frames there are. -/
def frs (l : List UInt8) : Int := ((l.length / 64 : Nat) : Int)
/-- The frame that word i of root r leads to; -1: none. -/
def lfI (l : List UInt8) (r i : Int) : Int := if sC l r i = 0 ∧ sP l r i = 3 then sF l r i else -1
def usedI (l : List UInt8) (r : Int) : List Int := (List.range 16).map (fun i => lfI l r ((i : Nat) : Int))
/-- The first leaf of a pool that no word leads to; -1: none. -/
def freshI (l : List UInt8) (pl : List Int) : Int := ((pl.drop 1).find? (fun f => !(usedI l (pl.getD 0 0)).contains f)).getD (-1)
def thB (n : Nat) (d p : Int) : Bool := decide (0 ≤ d ∧ d < n ∧ 0 ≤ p ∧ p < 256)
def ioPool (ps : List (List Int)) (d : Int) : List Int := ps.getD d.toNat []
def ioRoot (ps : List (List Int)) (d : Int) : Int := (ioPool ps d).getD 0 0

/-- Map. -/
def ioMapB (ps : List (List Int)) (l : List UInt8) (d p f m : Int) : Bool := thB ps.length d p && decide (1 ≤ m ∧ m ≤ 3 ∧ 0 ≤ f ∧ f < 64 ∧ f < frs l)
def ioMapF (ps : List (List Int)) (l : List UInt8) (d p : Int) : Int := if lfI l (ioRoot ps d) (p / 16) < 0 then freshI l (ioPool ps d) else lfI l (ioRoot ps d) (p / 16)
def ioMapC (ps : List (List Int)) (l : List UInt8) (d p f m : Int) : Int := if ioMapB ps l d p f m then (if ioMapF ps l d p < 0 then 701 else 0) else 700
def ioMapL (ps : List (List Int)) (l : List UInt8) (d p f m : Int) : List UInt8 :=
  if ioMapC ps l d p f m = 0 then pwL (if lfI l (ioRoot ps d) (p / 16) < 0 then pwL l (ioRoot ps d * 64 + 4 * (p / 16)) (eN (ioMapF ps l d p) 3) else l) (ioMapF ps l d p * 64 + 4 * (p % 16)) (eN f m) else l

/-- A walk's error, as this layer tells it. -/
def uC (l : List UInt8) (r p : Int) : Int := if wC l r p = 501 then 702 else if wC l r p = 502 then 704 else 0
/-- Unmap. -/
def ioUnC (ps : List (List Int)) (l : List UInt8) (d p : Int) : Int := if thB ps.length d p then uC l (ioRoot ps d) p else 700
def ioUnL (ps : List (List Int)) (l : List UInt8) (d p : Int) : List UInt8 := if ioUnC ps l d p = 0 then pwL l (lfI l (ioRoot ps d) (p / 16) * 64 + 4 * (p % 16)) 0 else l

/-- Do rights serve? -/
def hasP (m : Int) (write : Bool) : Bool := if write then decide (2 ≤ m) else decide (m % 2 = 1)
/-- One page of a run. -/
def pgC (l : List UInt8) (r : Int) (write : Bool) (p : Int) : Int := if uC l r p = 0 then (if hasP (wP l r p) write then 0 else 703) else uC l r p
def runC (l : List UInt8) (r : Int) (write : Bool) : List (Nat × Nat × Nat) → Int
  | [] => 0
  | x :: xs => if pgC l r write ((x.1 : Nat) : Int) = 0 then runC l r write xs else pgC l r write ((x.1 : Nat) : Int)
/-- Translate. -/
def ioTrB (ps : List (List Int)) (d a k : Int) : Bool := thB ps.length d 0 && decide (1 ≤ k ∧ k ≤ 256) && mayB a k 16384
def ioTrC (ps : List (List Int)) (l : List UInt8) (d a k : Int) (write : Bool) : Int := if ioTrB ps d a k then runC l (ioRoot ps d) write (spl a.toNat k.toNat) else 700
def ioTrP (ps : List (List Int)) (l : List UInt8) (d a k : Int) (write : Bool) : List (Nat × Nat × Nat) :=
  if ioTrC ps l d a k write = 0 then (spl a.toNat k.toNat).map (fun x => ((wF l (ioRoot ps d) ((x.1 : Nat) : Int)).toNat, x.2.1, x.2.2)) else []

/-- Clear. -/
def ioClC (ps : List (List Int)) (d : Int) : Int := if thB ps.length d 0 then 0 else 700
def ioClL (ps : List (List Int)) (l : List UInt8) (d : Int) : List UInt8 := if thB ps.length d 0 then (ioPool ps d).foldl zeL l else l

/-! ### lengths -/
theorem zeL_len' (l : List UInt8) (f : Int) (h : l.length % 64 = 0) : (zeL l f).length = l.length := by
  unfold zeL; split
  · rename_i hz
    simp only [zeB, decide_eq_true_eq] at hz
    exact put_len _ _ _ (by rw [zero64_len]; omega)
  · rfl
theorem zes_len (fs : List Int) : ∀ (l : List UInt8), l.length % 64 = 0 → (fs.foldl zeL l).length = l.length := by
  induction fs with
  | nil => intro l _; rfl
  | cons f fs ih => intro l h; rw [List.foldl_cons, ih _ (by rw [zeL_len' l f h]; exact h), zeL_len' l f h]
theorem ioMapL_len (ps : List (List Int)) (l : List UInt8) (d p f m : Int) : (ioMapL ps l d p f m).length = l.length := by
  unfold ioMapL
  split
  · rw [pwL_len]
    split
    · rw [pwL_len]
    · rfl
  · rfl
theorem ioUnL_len (ps : List (List Int)) (l : List UInt8) (d p : Int) : (ioUnL ps l d p).length = l.length := by
  unfold ioUnL; split
  · rw [pwL_len]
  · rfl
theorem ioClL_len (ps : List (List Int)) (l : List UInt8) (d : Int) (h : l.length % 64 = 0) : (ioClL ps l d).length = l.length := by
  unfold ioClL; split
  · exact zes_len _ l h
  · rfl

/-! ### what a frame holds -/
/-- A frame's bytes. -/
def frB (l : List UInt8) (F : Nat) : List UInt8 := (l.drop (F * 64)).take 64
theorem frB_len (l : List UInt8) (F : Nat) (h : F * 64 + 64 ≤ l.length) : (frB l F).length = 64 := by simp [frB]; omega

/-- A word within a frame. -/
theorem sW_fr (l : List UInt8) (F k : Nat) (hF : F * 64 + 64 ≤ l.length) (hk : k < 16) : sW l F k = num4 (((frB l F).drop (k * 4)).take 4) := by
  unfold sW wdN
  have hb : wdB l.length ((F : Int) * 64 + (k : Int) * 4) = true := decide_eq_true (by omega)
  rw [hb, if_pos rfl]
  have e1 : ((F : Int) * 64 + (k : Int) * 4).toNat = F * 64 + k * 4 := by omega
  rw [e1]
  unfold frB
  rw [List.drop_take, List.take_take, List.drop_drop]
  congr 2
  omega
/-- Of two memories of one length with the same bytes in a frame, a step tells the same. -/
theorem sC_fr (l l' : List UInt8) (F k : Nat) (hl : l.length = l'.length) (hF : F * 64 + 64 ≤ l.length) (hk : k < 16) (h : frB l F = frB l' F) : sC l F k = sC l' F k ∧ sF l F k = sF l' F k ∧ sP l F k = sP l' F k := by
  have e : sW l F k = sW l' F k := by rw [sW_fr l F k hF hk, sW_fr l' F k (by omega) hk, h]
  have e1 : sC l F k = sC l' F k := by unfold sC; rw [e, hl]
  exact ⟨e1, by unfold sF; rw [e1, e], by unfold sP; rw [e1, e]⟩

/-- A write elsewhere. -/
theorem frB_put (l : List UInt8) (a F : Nat) (s : List UInt8) (h : a + s.length ≤ l.length) (hd : a + s.length ≤ F * 64 ∨ F * 64 + 64 ≤ a) : frB (put l a s) F = frB l F := by
  unfold frB
  apply List.ext_getElem?
  intro j
  simp only [List.getElem?_take, List.getElem?_drop]
  split
  · rename_i hj
    unfold put
    rcases hd with hd | hd
    · rw [List.getElem?_append_right (by rw [List.length_append, List.length_take]; omega), List.length_append, List.length_take, List.getElem?_drop]
      congr 1
      omega
    · rw [List.append_assoc, List.getElem?_append_left (by rw [List.length_take]; omega), List.getElem?_take, if_pos (by omega)]
  · rfl
theorem frB_pw (l : List UInt8) (a x : Int) (F : Nat) (h : a < F * 64 ∨ (F : Int) * 64 + 64 ≤ a) : frB (pwL l a x) F = frB l F := by
  unfold pwL; split
  · rename_i hb
    simp only [pwB, decide_eq_true_eq] at hb
    exact frB_put l a.toNat F (by4 x) (by rw [by4_len]; omega) (by rw [by4_len]; omega)
  · rfl
theorem frB_ze (l : List UInt8) (f : Int) (F : Nat) (hl : l.length % 64 = 0) (h : f ≠ F) : frB (zeL l f) F = frB l F := by
  unfold zeL; split
  · rename_i hb
    simp only [zeB, decide_eq_true_eq] at hb
    exact frB_put l (64 * f.toNat) F zero64 (by rw [zero64_len]; omega) (by rw [zero64_len]; omega)
  · rfl
/-- A write within. -/
theorem frB_at (l : List UInt8) (F k : Nat) (s : List UInt8) (hk : k + s.length ≤ 64) (h : F * 64 + 64 ≤ l.length) : frB (put l (F * 64 + k) s) F = put (frB l F) k s := by
  have hl := frB_len l F h
  unfold frB at *
  apply List.ext_getElem?
  intro j
  simp only [List.getElem?_take, List.getElem?_drop]
  unfold put
  by_cases hj : j < 64
  · rw [if_pos hj]
    by_cases h1 : j < k
    · rw [List.append_assoc, List.getElem?_append_left (by rw [List.length_take]; omega), List.getElem?_take, if_pos (by omega), List.append_assoc, List.getElem?_append_left (by rw [List.length_take, hl]; omega), List.getElem?_take, if_pos h1, List.getElem?_take, if_pos hj, List.getElem?_drop]
    · by_cases h2 : j < k + s.length
      · rw [List.getElem?_append_left (by rw [List.length_append, List.length_take]; omega), List.getElem?_append_right (by rw [List.length_take]; omega), List.getElem?_append_left (by rw [List.length_append, List.length_take, hl]; omega), List.getElem?_append_right (by rw [List.length_take, hl]; omega), List.length_take, List.length_take, hl]
        congr 1
        omega
      · rw [List.getElem?_append_right (by rw [List.length_append, List.length_take]; omega), List.getElem?_append_right (by rw [List.length_append, List.length_take, hl]; omega), List.length_append, List.length_append, List.length_take, List.length_take, hl, List.getElem?_drop, List.getElem?_drop, List.getElem?_take, if_pos (by omega), List.getElem?_drop]
        congr 1
        omega
  · rw [if_neg hj]
    rw [List.getElem?_eq_none]
    rw [List.length_append, List.length_append, List.length_take, List.length_drop, hl]
    omega

end Go.Proofs.Ytggdbiniklchoaa

namespace Go.Proofs.Ytggdbiniklchoaa
open Go.RowKit
set_option linter.unusedVariables false
set_option maxRecDepth 100000

theorem put_off (l : List UInt8) (a b n : Nat) (s : List UInt8) (h : a + s.length ≤ l.length) (hd : b + n ≤ a ∨ a + s.length ≤ b) : ((put l a s).drop b).take n = (l.drop b).take n := by
  apply List.ext_getElem?
  intro j
  simp only [List.getElem?_take, List.getElem?_drop]
  split
  · rename_i hj
    unfold put
    rcases hd with hd | hd
    · rw [List.append_assoc, List.getElem?_append_left (by rw [List.length_take]; omega), List.getElem?_take, if_pos (by omega)]
    · rw [List.getElem?_append_right (by rw [List.length_append, List.length_take]; omega), List.length_append, List.length_take, List.getElem?_drop]
      congr 1
      omega
  · rfl
theorem put_on (l : List UInt8) (a : Nat) (s : List UInt8) (h : a + s.length ≤ l.length) : ((put l a s).drop a).take s.length = s := by
  unfold put
  have e : (l.take a).length = a := by rw [List.length_take]; omega
  rw [List.append_assoc, List.drop_append_of_le_length (by omega), List.drop_of_length_le (by omega), List.nil_append, List.take_left]

/-- A word that is written; the others. -/
theorem sW_pw (l : List UInt8) (F k : Nat) (x : Int) (hF : F * 64 + 64 ≤ l.length) (hk : k < 16) (h0 : 0 ≤ x) (h1 : x ≤ 4294967295) (F' k' : Nat) (hF' : F' * 64 + 64 ≤ l.length) (hk' : k' < 16) :
    sW (pwL l ((F : Int) * 64 + 4 * (k : Int)) x) F' k' = if F' = F ∧ k' = k then x else sW l F' k' := by
  have hpb : pwB l.length ((F : Int) * 64 + 4 * (k : Int)) x = true := decide_eq_true (by omega)
  have e : pwL l ((F : Int) * 64 + 4 * (k : Int)) x = put l (F * 64 + 4 * k) (by4 x) := by
    unfold pwL; rw [hpb, if_pos rfl, show ((F : Int) * 64 + 4 * (k : Int)).toNat = F * 64 + 4 * k by omega]
  have hlen := pwL_len l ((F : Int) * 64 + 4 * (k : Int)) x
  unfold sW wdN
  rw [hlen]
  have hb : wdB l.length ((F' : Int) * 64 + (k' : Int) * 4) = true := decide_eq_true (by omega)
  rw [hb, if_pos rfl, if_pos rfl, e]
  have et : ((F' : Int) * 64 + (k' : Int) * 4).toNat = F' * 64 + 4 * k' := by omega
  rw [et]
  by_cases hc : F' = F ∧ k' = k
  · rw [if_pos hc, hc.1, hc.2]
    have := put_on l (F * 64 + 4 * k) (by4 x) (by rw [by4_len]; omega)
    rw [by4_len] at this
    rw [this, num_by x h0 h1]
  · rw [if_neg hc, put_off l (F * 64 + 4 * k) (F' * 64 + 4 * k') 4 (by4 x) (by rw [by4_len]; omega) (by rw [by4_len]; omega)]

theorem zero64_get (j : Nat) : zero64.getD j 0 = 0 := by
  unfold zero64
  rw [List.getD_eq_getElem?_getD, List.getElem?_replicate]
  split <;> rfl
/-- A frame that is zeroed; the others. -/
theorem sW_ze (l : List UInt8) (G F k : Nat) (hl : l.length % 64 = 0) (hG : G * 64 + 64 ≤ l.length) (hF : F * 64 + 64 ≤ l.length) (hk : k < 16) : sW (zeL l (G : Int)) F k = if F = G then 0 else sW l F k := by
  have hzb : zeB l.length (G : Int) = true := decide_eq_true (by omega)
  have e : zeL l (G : Int) = put l (G * 64) zero64 := by unfold zeL; rw [hzb, if_pos rfl, Int.toNat_natCast, Nat.mul_comm]
  have hlen := zeL_len' l (G : Int) hl
  unfold sW wdN
  rw [hlen]
  have hb : wdB l.length ((F : Int) * 64 + (k : Int) * 4) = true := decide_eq_true (by omega)
  rw [hb, if_pos rfl, if_pos rfl, e]
  have et : ((F : Int) * 64 + (k : Int) * 4).toNat = F * 64 + 4 * k := by omega
  rw [et]
  by_cases hc : F = G
  · rw [if_pos hc, hc]
    have h0 : ((put l (G * 64) zero64).drop (G * 64 + 4 * k)).take 4 = (zero64.drop (4 * k)).take 4 := by
      have := put_on l (G * 64) zero64 (by rw [zero64_len]; omega)
      rw [zero64_len] at this
      conv => rhs; rw [← this]
      rw [List.drop_take, List.take_take, List.drop_drop, show min 4 (64 - 4 * k) = 4 by omega]
    rw [h0]
    unfold num4
    have hz : ∀ j, (((zero64.drop (4 * k)).take 4).getD j 0).toNat = 0 := by
      intro j
      have : ((zero64.drop (4 * k)).take 4).getD j 0 = 0 := by
        simp only [List.getD, List.getElem?_take, List.getElem?_drop]
        split
        · have := zero64_get (4 * k + j); simpa [List.getD] using this
        · rfl
      rw [this]; rfl
    rw [hz, hz, hz, hz]; rfl
  · rw [if_neg hc, put_off l (G * 64) (F * 64 + 4 * k) 4 zero64 (by rw [zero64_len]; omega) (by rw [zero64_len]; omega)]

/-! ### a step by its word -/
theorem s_zero' (l : List UInt8) (F k : Int) (h64 : 64 ≤ l.length) (h : sW l F k = 0) : sC l F k = 501 ∧ sF l F k = 0 ∧ sP l F k = 0 := by
  have e : sC l F k = 501 := by
    unfold sC
    rw [h, if_pos ⟨by decide, by show gF 0 < _; rw [show gF 0 = 0 by decide]; omega⟩, if_pos (by decide)]
  exact ⟨e, by unfold sF; rw [e]; rfl, by unfold sP; rw [e]; rfl⟩
theorem s_entry (l : List UInt8) (F k f p : Int) (h0 : 0 ≤ f) (h1 : f < 64) (hf : f < frs l) (h2 : 1 ≤ p) (h3 : p ≤ 3) (h : sW l F k = eN f p) : sC l F k = 0 ∧ sF l F k = f ∧ sP l F k = p := by
  obtain ⟨g1, g2, g3⟩ := g_of f p h2 h3 h0 h1
  have e : sC l F k = 0 := by
    unfold sC
    rw [h, g1, g2, g3, if_pos ⟨rfl, hf⟩, if_neg (by omega)]
  exact ⟨e, by unfold sF; rw [e, if_pos rfl, h, g2], by unfold sP; rw [e, if_pos rfl, h, g3]⟩
theorem s_same (l l' : List UInt8) (F k : Int) (hl : l'.length = l.length) (h : sW l' F k = sW l F k) : sC l' F k = sC l F k ∧ sF l' F k = sF l F k ∧ sP l' F k = sP l F k := by
  have e : sC l' F k = sC l F k := by unfold sC; rw [h, hl]
  exact ⟨e, by unfold sF; rw [e, h], by unfold sP; rw [e, h]⟩
theorem eN_bounds (f p : Int) (h0 : 0 ≤ f) (h1 : f < 64) (h2 : 1 ≤ p) (h3 : p ≤ 3) : 0 ≤ eN f p ∧ eN f p ≤ 4294967295 := by
  rw [eN_yes f p h2 h3 h0 h1]; omega

/-! ### tables that are well formed -/
/-- A word that tells nothing, or an entry. -/
def Wok (l : List UInt8) (F k : Nat) : Prop := (sW l F k = 0 ∧ sC l F k = 501) ∨ (sC l F k = 0 ∧ 1 ≤ sP l F k ∧ sP l F k ≤ 3)
/-- The tables of a device: root R, leaves ls, in a memory of so many frames. -/
structure Wf (l : List UInt8) (R : Nat) (ls : List Nat) : Prop where
  len : l.length % 64 = 0
  cap : l.length ≤ 4096
  rin : R * 64 + 64 ≤ l.length
  lin : ∀ F ∈ ls, F * 64 + 64 ≤ l.length ∧ F ≠ R
  nodup : ls.Nodup
  root : ∀ i : Nat, i < 16 → (sW l R i = 0 ∧ sC l R i = 501) ∨ (sC l R i = 0 ∧ sP l R i = 3 ∧ ∃ F ∈ ls, sF l R i = (F : Int))
  inj : ∀ i j : Nat, i < 16 → j < 16 → sC l R i = 0 → sC l R j = 0 → sF l R i = sF l R j → i = j
  leaf : ∀ F ∈ ls, ∀ k : Nat, k < 16 → Wok l F k
  free : ∀ F ∈ ls, (∀ i : Nat, i < 16 → sC l R i = 0 → sF l R i ≠ (F : Int)) → ∀ k : Nat, k < 16 → sW l F k = 0

section
variable {l : List UInt8} {R : Nat} {ls : List Nat}
theorem Wf.h64 (h : Wf l R ls) : 64 ≤ l.length := by have := h.rin; omega
/-- The leaf of a root's word. -/
theorem Wf.lf (h : Wf l R ls) (i : Nat) (hi : i < 16) : (sC l R i = 501 ∧ lfI l R i = -1) ∨ ∃ F ∈ ls, sC l R i = 0 ∧ sP l R i = 3 ∧ sF l R i = (F : Int) ∧ lfI l R i = F := by
  rcases h.root i hi with ⟨_, h1⟩ | ⟨h1, h2, F, hF, h3⟩
  · exact .inl ⟨h1, by unfold lfI; rw [if_neg (by rw [h1]; omega)]⟩
  · exact .inr ⟨F, hF, h1, h2, h3, by unfold lfI; rw [if_pos ⟨h1, h2⟩, h3]⟩
/-- A page's answer. -/
theorem Wf.walk (h : Wf l R ls) (p : Nat) (hp : p < 256) : (sC l R (p / 16 : Nat) = 501 ∧ wC l R p = 501 ∧ wF l R p = 0 ∧ wP l R p = 0) ∨
    ∃ F ∈ ls, sC l R (p / 16 : Nat) = 0 ∧ sP l R (p / 16 : Nat) = 3 ∧ sF l R (p / 16 : Nat) = (F : Int) ∧ wC l R p = sC l F (p % 16 : Nat) ∧ wF l R p = sF l F (p % 16 : Nat) ∧ wP l R p = sP l F (p % 16 : Nat) := by
  have e1 : ((p : Int) / 16) = ((p / 16 : Nat) : Int) := by omega
  have e2 : ((p : Int) % 16) = ((p % 16 : Nat) : Int) := by omega
  have ho : wOk l R p = true := decide_eq_true (by have := h.rin; omega)
  rcases h.root (p / 16) (by omega) with ⟨_, h1⟩ | ⟨h1, h2, F, hF, h3⟩
  · left
    rcases w_cases l R p with ⟨hh, _⟩ | ⟨_, _, g1, g2, g3⟩ | ⟨_, hh, _⟩ | ⟨_, hh, _⟩
    · rw [ho] at hh; cases hh
    · rw [e1] at g1; exact ⟨h1, g1.trans h1, g2, g3⟩
    · rw [e1, h1] at hh; omega
    · rw [e1, h1] at hh; omega
  · right
    rcases w_cases l R p with ⟨hh, _⟩ | ⟨_, hh, _⟩ | ⟨_, _, hh, _⟩ | ⟨_, _, _, g1, g2, g3⟩
    · rw [ho] at hh; cases hh
    · rw [e1] at hh; exact absurd h1 hh
    · rw [e1] at hh; exact absurd h2 hh
    · rw [e1, e2, h3] at g1 g2 g3; exact ⟨F, hF, h1, h2, h3, g1, g2, g3⟩
theorem Wok.cases {F k : Nat} (h : Wok l F k) : (sC l F k = 501 ∧ sF l F k = 0 ∧ sP l F k = 0) ∨ (sC l F k = 0 ∧ 1 ≤ sP l F k ∧ sP l F k ≤ 3) := by
  rcases h with ⟨h0, h1⟩ | h
  · left
    exact ⟨h1, by unfold sF; rw [h1]; rfl, by unfold sP; rw [h1]; rfl⟩
  · exact .inr h
/-- A page is one that leads nowhere, or one with rights. -/
theorem Wf.page (h : Wf l R ls) (p : Nat) (hp : p < 256) : (wC l R p = 501 ∧ wF l R p = 0 ∧ wP l R p = 0) ∨ (wC l R p = 0 ∧ 1 ≤ wP l R p ∧ wP l R p ≤ 3) := by
  rcases h.walk p hp with ⟨_, h1, h2, h3⟩ | ⟨F, hF, _, _, _, h1, h2, h3⟩
  · exact .inl ⟨h1, h2, h3⟩
  · rw [h1, h2, h3]; exact (h.leaf F hF _ (by omega)).cases
end

end Go.Proofs.Ytggdbiniklchoaa

namespace Go.Proofs.Ytggdbiniklchoaa
open Go.RowKit
set_option linter.unusedVariables false
set_option maxRecDepth 100000

/-- What a page's walk tells. -/
def view (l : List UInt8) (R p : Nat) : Int × Int × Int := (wC l R p, wF l R p, wP l R p)

/-- A word of a leaf: none, or an entry. -/
inductive Lw (l : List UInt8) : Int → Int × Int × Int → Prop
  | none : Lw l 0 (501, 0, 0)
  | some (f m : Int) (h0 : 0 ≤ f) (h1 : f < 64) (hf : f < frs l) (h2 : 1 ≤ m) (h3 : m ≤ 3) : Lw l (eN f m) (0, f, m)
theorem Lw.bounds {l : List UInt8} {x : Int} {v : Int × Int × Int} (h : Lw l x v) : 0 ≤ x ∧ x ≤ 4294967295 := by
  cases h with
  | none => omega
  | some f m h0 h1 hf h2 h3 => exact eN_bounds f m h0 h1 h2 h3
theorem Lw.step {l l' : List UInt8} {x : Int} {v : Int × Int × Int} (h : Lw l x v) (hl : l'.length = l.length) (h64 : 64 ≤ l.length) (F k : Int) (hw : sW l' F k = x) : sC l' F k = v.1 ∧ sF l' F k = v.2.1 ∧ sP l' F k = v.2.2 := by
  cases h with
  | none => exact s_zero' l' F k (by omega) hw
  | some f m h0 h1 hf h2 h3 => exact s_entry l' F k f m h0 h1 (by unfold frs at *; rw [hl]; exact hf) h2 h3 hw
theorem Lw.ok {l l' : List UInt8} {x : Int} {v : Int × Int × Int} (h : Lw l x v) (hl : l'.length = l.length) (h64 : 64 ≤ l.length) (F k : Nat) (hw : sW l' F k = x) : Wok l' F k := by
  have hs := h.step hl h64 F k hw
  cases h with
  | none => exact .inl ⟨hw, hs.1⟩
  | some f m h0 h1 hf h2 h3 => exact .inr ⟨hs.1, by rw [hs.2.2]; exact h2, by rw [hs.2.2]; exact h3⟩
theorem Wok.same {l l' : List UInt8} {F k : Nat} (h : Wok l F k) (hl : l'.length = l.length) (hw : sW l' F k = sW l F k) : Wok l' F k := by
  obtain ⟨e1, e2, e3⟩ := s_same l l' F k hl hw
  unfold Wok at *
  rw [e1, e3, hw]; exact h

section
variable {l : List UInt8} {R : Nat} {ls : List Nat}

/-- A word written into a leaf that a root's word leads to. -/
theorem Wf.leafword (h : Wf l R ls) (F : Nat) (hF : F ∈ ls) (i k : Nat) (hi : i < 16) (hk : k < 16) (hr : sC l R i = 0) (hs : sF l R i = (F : Int)) (x : Int) (v : Int × Int × Int) (hx : Lw l x v) :
    Wf (pwL l ((F : Int) * 64 + 4 * (k : Int)) x) R ls ∧ view (pwL l ((F : Int) * 64 + 4 * (k : Int)) x) R (16 * i + k) = v ∧ (∀ p, p < 256 → p ≠ 16 * i + k → view (pwL l ((F : Int) * 64 + 4 * (k : Int)) x) R p = view l R p) ∧
    (∀ j : Nat, j < 16 → sC (pwL l ((F : Int) * 64 + 4 * (k : Int)) x) R j = sC l R j ∧ sF (pwL l ((F : Int) * 64 + 4 * (k : Int)) x) R j = sF l R j) := by
  obtain ⟨hFl, hFR⟩ := h.lin F hF
  have hb := hx.bounds
  have hlen := pwL_len l ((F : Int) * 64 + 4 * (k : Int)) x
  have hw := fun G j hG hj => sW_pw l F k x hFl hk hb.1 hb.2 G j hG hj
  generalize pwL l ((F : Int) * 64 + 4 * (k : Int)) x = l' at *
  have hroot : ∀ j : Nat, j < 16 → sC l' R j = sC l R j ∧ sF l' R j = sF l R j ∧ sP l' R j = sP l R j := fun j hj => s_same l l' R j hlen (by rw [hw R j h.rin hj, if_neg (by omega)])
  have hword : ∀ G ∈ ls, ∀ j : Nat, j < 16 → ¬ (G = F ∧ j = k) → sW l' G j = sW l G j := fun G hG j hj hn => by rw [hw G j (h.lin G hG).1 hj, if_neg hn]
  have hat : sW l' F k = x := by rw [hw F k hFl hk, if_pos ⟨rfl, rfl⟩]
  have hwf : Wf l' R ls := by
    refine ⟨by rw [hlen]; exact h.len, by rw [hlen]; exact h.cap, by rw [hlen]; exact h.rin, fun G hG => by rw [hlen]; exact h.lin G hG, h.nodup, ?_, ?_, ?_, ?_⟩
    · intro j hj
      obtain ⟨e1, e2, e3⟩ := hroot j hj
      rw [e1, e2, e3, hw R j h.rin hj, if_neg (by omega)]
      exact h.root j hj
    · intro a b ha hb' h1 h2 h3
      rw [(hroot a ha).1] at h1; rw [(hroot b hb').1] at h2; rw [(hroot a ha).2.1, (hroot b hb').2.1] at h3
      exact h.inj a b ha hb' h1 h2 h3
    · intro G hG j hj
      by_cases hc : G = F ∧ j = k
      · obtain ⟨rfl, rfl⟩ := hc
        exact hx.ok hlen h.h64 G j hat
      · exact (h.leaf G hG j hj).same hlen (hword G hG j hj hc)
    · intro G hG hn j hj
      have hGF : G ≠ F := by
        intro e; subst e
        exact hn i hi (by rw [(hroot i hi).1]; exact hr) (by rw [(hroot i hi).2.1]; exact hs)
      rw [hword G hG j hj (by omega)]
      exact h.free G hG (fun a ha h1 => by
        have := hn a ha (by rw [(hroot a ha).1]; exact h1)
        rwa [(hroot a ha).2.1] at this) j hj
  refine ⟨hwf, ?_, ?_, fun j hj => ⟨(hroot j hj).1, (hroot j hj).2.1⟩⟩
  · have e1 : (16 * i + k) / 16 = i := by omega
    have e2 : (16 * i + k) % 16 = k := by omega
    rcases hwf.walk (16 * i + k) (by omega) with ⟨h1, _⟩ | ⟨G, hG, g1, g2, g3, g4, g5, g6⟩
    · rw [e1, (hroot i hi).1, hr] at h1; omega
    · rw [e1, (hroot i hi).2.1, hs] at g3
      have hGF : G = F := by omega
      subst hGF
      rw [e2] at g4 g5 g6
      obtain ⟨s1, s2, s3⟩ := hx.step hlen h.h64 G k hat
      unfold view
      rw [g4, g5, g6, s1, s2, s3]
  · intro p hp hne
    unfold view
    rcases h.walk p hp with ⟨h1, h2, h3, h4⟩ | ⟨G, hG, g1, g2, g3, g4, g5, g6⟩
    · rcases hwf.walk p hp with ⟨k1, k2, k3, k4⟩ | ⟨G, hG, k1, _⟩
      · rw [h2, h3, h4, k2, k3, k4]
      · rw [(hroot _ (by omega)).1, h1] at k1; omega
    · rcases hwf.walk p hp with ⟨k1, _⟩ | ⟨G', hG', k1, k2, k3, k4, k5, k6⟩
      · rw [(hroot _ (by omega)).1, g1] at k1; omega
      · rw [(hroot _ (by omega)).2.1, g3] at k3
        have hGG : G' = G := by omega
        subst hGG
        have hsm : sW l' G' (p % 16 : Nat) = sW l G' (p % 16 : Nat) := by
          apply hword G' hG' _ (by omega)
          rintro ⟨rfl, e⟩
          have := h.inj (p / 16) i (by omega) hi g1 hr (by rw [g3, hs])
          omega
        obtain ⟨s1, s2, s3⟩ := s_same l l' G' (p % 16 : Nat) hlen hsm
        rw [g4, g5, g6, k4, k5, k6, s1, s2, s3]

/-- A leaf that no word leads to, put into the root: no page is turned. -/
theorem Wf.rootword (h : Wf l R ls) (F : Nat) (hF : F ∈ ls) (i : Nat) (hi : i < 16) (hr : sC l R i = 501) (hu : ∀ j : Nat, j < 16 → sC l R j = 0 → sF l R j ≠ (F : Int)) :
    Wf (pwL l ((R : Int) * 64 + 4 * (i : Int)) (eN F 3)) R ls ∧ (∀ p, p < 256 → view (pwL l ((R : Int) * 64 + 4 * (i : Int)) (eN F 3)) R p = view l R p) ∧ sC (pwL l ((R : Int) * 64 + 4 * (i : Int)) (eN F 3)) R i = 0 ∧ sF (pwL l ((R : Int) * 64 + 4 * (i : Int)) (eN F 3)) R i = (F : Int) ∧
    (∀ j : Nat, j < 16 → j ≠ i → sC (pwL l ((R : Int) * 64 + 4 * (i : Int)) (eN F 3)) R j = sC l R j ∧ sF (pwL l ((R : Int) * 64 + 4 * (i : Int)) (eN F 3)) R j = sF l R j) := by
  obtain ⟨hFl, hFR⟩ := h.lin F hF
  have hcap := h.cap
  have hb := eN_bounds F 3 (by omega) (by omega) (by omega) (by omega)
  have hlen := pwL_len l ((R : Int) * 64 + 4 * (i : Int)) (eN F 3)
  have hw := fun G j hG hj => sW_pw l R i (eN F 3) h.rin hi hb.1 hb.2 G j hG hj
  generalize pwL l ((R : Int) * 64 + 4 * (i : Int)) (eN F 3) = l' at *
  have hroot : ∀ j : Nat, j < 16 → j ≠ i → sC l' R j = sC l R j ∧ sF l' R j = sF l R j ∧ sP l' R j = sP l R j := fun j hj hn => s_same l l' R j hlen (by rw [hw R j h.rin hj, if_neg (by omega)])
  have hword : ∀ G ∈ ls, ∀ j : Nat, j < 16 → sW l' G j = sW l G j := fun G hG j hj => by rw [hw G j (h.lin G hG).1 hj, if_neg (by have := (h.lin G hG).2; omega)]
  obtain ⟨a1, a2, a3⟩ := s_entry l' R i F 3 (by omega) (by omega) (by unfold frs; rw [hlen]; omega) (by omega) (by omega) (by rw [hw R i h.rin hi, if_pos ⟨rfl, rfl⟩])
  have hwf : Wf l' R ls := by
    refine ⟨by rw [hlen]; exact h.len, by rw [hlen]; exact h.cap, by rw [hlen]; exact h.rin, fun G hG => by rw [hlen]; exact h.lin G hG, h.nodup, ?_, ?_, ?_, ?_⟩
    · intro j hj
      by_cases e : j = i
      · subst e; exact .inr ⟨a1, a3, F, hF, a2⟩
      · obtain ⟨e1, e2, e3⟩ := hroot j hj e
        rw [e1, e2, e3, hw R j h.rin hj, if_neg (by omega)]
        exact h.root j hj
    · intro a b ha hb' h1 h2 h3
      by_cases ea : a = i
      · by_cases eb : b = i
        · omega
        · subst ea
          rw [(hroot b hb' eb).1] at h2
          rw [a2, (hroot b hb' eb).2.1] at h3
          exact absurd h3.symm (hu b hb' h2)
      · by_cases eb : b = i
        · subst eb
          rw [(hroot a ha ea).1] at h1
          rw [a2, (hroot a ha ea).2.1] at h3
          exact absurd h3 (hu a ha h1)
        · rw [(hroot a ha ea).1] at h1; rw [(hroot b hb' eb).1] at h2; rw [(hroot a ha ea).2.1, (hroot b hb' eb).2.1] at h3
          exact h.inj a b ha hb' h1 h2 h3
    · intro G hG j hj
      exact (h.leaf G hG j hj).same hlen (hword G hG j hj)
    · intro G hG hn j hj
      rw [hword G hG j hj]
      apply h.free G hG _ j hj
      intro a ha h1
      by_cases ea : a = i
      · subst ea; rw [hr] at h1; omega
      · have := hn a ha (by rw [(hroot a ha ea).1]; exact h1)
        rwa [(hroot a ha ea).2.1] at this
  refine ⟨hwf, ?_, a1, a2, fun j hj hn => ⟨(hroot j hj hn).1, (hroot j hj hn).2.1⟩⟩
  intro p hp
  unfold view
  by_cases e : p / 16 = i
  · rcases h.walk p hp with ⟨h1, h2, h3, h4⟩ | ⟨G, hG, g1, _⟩
    · rcases hwf.walk p hp with ⟨k1, _⟩ | ⟨G', hG', k1, k2, k3, k4, k5, k6⟩
      · rw [e, a1] at k1; omega
      · rw [e, a2] at k3
        have hGF : G' = F := by omega
        subst hGF
        have hz := h.free G' hF hu (p % 16) (by omega)
        obtain ⟨s1, s2, s3⟩ := s_zero' l' G' (p % 16 : Nat) (by have := h.h64; omega) (by rw [hword G' hF _ (by omega)]; exact hz)
        rw [h2, h3, h4, k4, k5, k6, s1, s2, s3]
    · rw [e, hr] at g1; omega
  · obtain ⟨r1, r2, r3⟩ := hroot (p / 16) (by omega) e
    rcases h.walk p hp with ⟨h1, h2, h3, h4⟩ | ⟨G, hG, g1, g2, g3, g4, g5, g6⟩
    · rcases hwf.walk p hp with ⟨k1, k2, k3, k4⟩ | ⟨G', hG', k1, _⟩
      · rw [h2, h3, h4, k2, k3, k4]
      · rw [r1, h1] at k1; omega
    · rcases hwf.walk p hp with ⟨k1, _⟩ | ⟨G', hG', k1, k2, k3, k4, k5, k6⟩
      · rw [r1, g1] at k1; omega
      · rw [r2, g3] at k3
        have hGG : G' = G := by omega
        subst hGG
        obtain ⟨s1, s2, s3⟩ := s_same l l' G' (p % 16 : Nat) hlen (hword G' hG' _ (by omega))
        rw [g4, g5, g6, k4, k5, k6, s1, s2, s3]
end

end Go.Proofs.Ytggdbiniklchoaa

namespace Go.Proofs.Ytggdbiniklchoaa
open Go.RowKit
set_option linter.unusedVariables false
set_option maxRecDepth 100000

/-- A pool: the root's frame, the leaves'. -/
def plI (R : Nat) (ls : List Nat) : List Int := (R : Int) :: ls.map (fun x : Nat => (x : Int))

/-- Nothing but the frames fs may have turned. -/
structure Out (l l' : List UInt8) (fs : List Nat) : Prop where
  len : l'.length = l.length
  word : ∀ G k : Nat, G * 64 + 64 ≤ l.length → G ∉ fs → k < 16 → sW l' G k = sW l G k
/-- Two memories say the same in the frames fs. -/
structure Same (l l' : List UInt8) (fs : List Nat) : Prop where
  len : l'.length = l.length
  word : ∀ G k : Nat, G ∈ fs → k < 16 → sW l' G k = sW l G k

theorem Out.refl (l : List UInt8) (fs : List Nat) : Out l l fs := ⟨rfl, fun _ _ _ _ _ => rfl⟩
theorem Out.trans {a b c : List UInt8} {fs : List Nat} (h : Out a b fs) (k : Out b c fs) : Out a c fs := ⟨k.len.trans h.len, fun G j h1 h2 h3 => (k.word G j (by rw [h.len]; exact h1) h2 h3).trans (h.word G j h1 h2 h3)⟩
theorem Out.pw (l : List UInt8) (F k : Nat) (x : Int) (fs : List Nat) (hF : F * 64 + 64 ≤ l.length) (hk : k < 16) (h0 : 0 ≤ x) (h1 : x ≤ 4294967295) (hm : F ∈ fs) : Out l (pwL l ((F : Int) * 64 + 4 * (k : Int)) x) fs :=
  ⟨pwL_len _ _ _, fun G j g1 g2 g3 => by rw [sW_pw l F k x hF hk h0 h1 G j g1 g3, if_neg (fun e => g2 (by rw [e.1]; exact hm))]⟩
theorem Out.ze (l : List UInt8) (F : Nat) (fs : List Nat) (hl : l.length % 64 = 0) (hF : F * 64 + 64 ≤ l.length) (hm : F ∈ fs) : Out l (zeL l (F : Int)) fs :=
  ⟨zeL_len' _ _ hl, fun G j g1 g2 g3 => by rw [sW_ze l F G j hl hF g1 g3, if_neg (fun e => g2 (by rw [e]; exact hm))]⟩
theorem Out.same {l l' : List UInt8} {fs gs : List Nat} (h : Out l l' fs) (hd : ∀ G ∈ gs, G ∉ fs) (hr : ∀ G ∈ gs, G * 64 + 64 ≤ l.length) : Same l l' gs := ⟨h.len, fun G k hG hk => h.word G k (hr G hG) (hd G hG) hk⟩

section
variable {l l' : List UInt8} {R : Nat} {ls : List Nat}
theorem Wf.fin (h : Wf l R ls) : ∀ G ∈ R :: ls, G * 64 + 64 ≤ l.length := by
  intro G hG
  rcases List.mem_cons.1 hG with rfl | hG
  · exact h.rin
  · exact (h.lin G hG).1
/-- Tables in which the same words stand. -/
theorem Wf.same (h : Wf l R ls) (hs : Same l l' (R :: ls)) : Wf l' R ls ∧ (∀ p, p < 256 → view l' R p = view l R p) ∧ (∀ j : Nat, j < 16 → sC l' R j = sC l R j ∧ sF l' R j = sF l R j ∧ sP l' R j = sP l R j) := by
  have hroot : ∀ j : Nat, j < 16 → sC l' R j = sC l R j ∧ sF l' R j = sF l R j ∧ sP l' R j = sP l R j := fun j hj => s_same l l' R j hs.len (hs.word R j (by simp) hj)
  have hleaf : ∀ G ∈ ls, ∀ j : Nat, j < 16 → sW l' G j = sW l G j := fun G hG j hj => hs.word G j (by simp [hG]) hj
  have hwf : Wf l' R ls := by
    refine ⟨by rw [hs.len]; exact h.len, by rw [hs.len]; exact h.cap, by rw [hs.len]; exact h.rin, fun G hG => by rw [hs.len]; exact h.lin G hG, h.nodup, ?_, ?_, ?_, ?_⟩
    · intro j hj
      obtain ⟨e1, e2, e3⟩ := hroot j hj
      rw [e1, e2, e3, hs.word R j (by simp) hj]
      exact h.root j hj
    · intro a b ha hb h1 h2 h3
      rw [(hroot a ha).1] at h1; rw [(hroot b hb).1] at h2; rw [(hroot a ha).2.1, (hroot b hb).2.1] at h3
      exact h.inj a b ha hb h1 h2 h3
    · intro G hG j hj
      exact (h.leaf G hG j hj).same hs.len (hleaf G hG j hj)
    · intro G hG hn j hj
      rw [hleaf G hG j hj]
      exact h.free G hG (fun a ha h1 => by
        have := hn a ha (by rw [(hroot a ha).1]; exact h1)
        rwa [(hroot a ha).2.1] at this) j hj
  refine ⟨hwf, ?_, hroot⟩
  intro p hp
  unfold view
  obtain ⟨r1, r2, r3⟩ := hroot (p / 16) (by omega)
  rcases h.walk p hp with ⟨h1, h2, h3, h4⟩ | ⟨G, hG, g1, g2, g3, g4, g5, g6⟩
  · rcases hwf.walk p hp with ⟨k1, k2, k3, k4⟩ | ⟨G', hG', k1, _⟩
    · rw [h2, h3, h4, k2, k3, k4]
    · rw [r1, h1] at k1; omega
  · rcases hwf.walk p hp with ⟨k1, _⟩ | ⟨G', hG', k1, k2, k3, k4, k5, k6⟩
    · rw [r1, g1] at k1; omega
    · rw [r2, g3] at k3
      have hGG : G' = G := by omega
      subst hGG
      obtain ⟨s1, s2, s3⟩ := s_same l l' G' (p % 16 : Nat) hs.len (hleaf G' hG' _ (by omega))
      rw [g4, g5, g6, k4, k5, k6, s1, s2, s3]

/-- The first leaf that no word leads to. -/
theorem Wf.fresh (h : Wf l R ls) : (freshI l (plI R ls) = -1 ∧ ∀ F ∈ ls, ∃ i : Nat, i < 16 ∧ sC l R i = 0 ∧ sF l R i = (F : Int)) ∨
    ∃ F ∈ ls, freshI l (plI R ls) = (F : Int) ∧ ∀ i : Nat, i < 16 → sC l R i = 0 → sF l R i ≠ (F : Int) := by
  unfold freshI plI
  simp only [List.drop_succ_cons, List.drop_zero, List.getD_cons_zero]
  cases hf : (ls.map (fun x : Nat => (x : Int))).find? (fun f => !(usedI l (R : Int)).contains f) with
  | none =>
    left
    refine ⟨rfl, fun F hF => ?_⟩
    have h1 := List.find?_eq_none.1 hf (F : Int) (List.mem_map.2 ⟨F, hF, rfl⟩)
    have h1 : ((F : Nat) : Int) ∈ usedI l (R : Int) := by simpa using h1
    unfold usedI at h1
    obtain ⟨i, hi, e⟩ := List.mem_map.1 h1
    have hi := List.mem_range.1 hi
    rcases h.lf i hi with ⟨_, e2⟩ | ⟨G, hG, e2, _, e3, e4⟩
    · rw [e2] at e; omega
    · rw [e4] at e
      exact ⟨i, hi, e2, by rw [e3]; exact e⟩
  | some f =>
    right
    have h1 := List.find?_some hf
    obtain ⟨F, hF, rfl⟩ := List.mem_map.1 (List.mem_of_find?_eq_some hf)
    refine ⟨F, hF, rfl, fun i hi hc hs => ?_⟩
    have h2 : ((F : Nat) : Int) ∈ usedI l (R : Int) := by
      unfold usedI
      refine List.mem_map.2 ⟨i, List.mem_range.2 hi, ?_⟩
      rcases h.lf i hi with ⟨e1, _⟩ | ⟨G, hG, e2, _, e3, e4⟩
      · omega
      · rw [e4, ← e3, hs]
    have h3 : (usedI l (R : Int)).contains ((F : Nat) : Int) = true := List.contains_iff_mem.2 h2
    rw [h3] at h1
    simp at h1

/-- What Map does with well-formed tables. -/
theorem Wf.map (h : Wf l R ls) (ps : List (List Int)) (d : Int) (hp : ioPool ps d = plI R ls) (p : Nat) (f m : Int) (hB : ioMapB ps l d p f m = true) :
    (ioMapC ps l d p f m = 701 ∧ ioMapL ps l d p f m = l ∧ sC l R (p / 16 : Nat) = 501 ∧ ∀ F ∈ ls, ∃ i : Nat, i < 16 ∧ sC l R i = 0 ∧ sF l R i = (F : Int)) ∨
    (ioMapC ps l d p f m = 0 ∧ Wf (ioMapL ps l d p f m) R ls ∧ Out l (ioMapL ps l d p f m) (R :: ls) ∧ view (ioMapL ps l d p f m) R p = (0, f, m) ∧ (∀ q, q < 256 → q ≠ p → view (ioMapL ps l d p f m) R q = view l R q) ∧
      (∀ j : Nat, j < 16 → j ≠ p / 16 → sC (ioMapL ps l d p f m) R j = sC l R j ∧ sF (ioMapL ps l d p f m) R j = sF l R j) ∧ sC (ioMapL ps l d p f m) R (p / 16 : Nat) = 0) := by
  have hB' := hB
  unfold ioMapB thB at hB'
  simp only [Bool.and_eq_true, decide_eq_true_eq] at hB'
  obtain ⟨⟨hd0, hd1, hp0, hp1⟩, hm1, hm2, hf0, hf1, hf2⟩ := hB'
  have hp256 : p < 256 := by omega
  have e1 : ((p : Int) / 16) = ((p / 16 : Nat) : Int) := by omega
  have e2 : ((p : Int) % 16) = ((p % 16 : Nat) : Int) := by omega
  have hroot : ioRoot ps d = (R : Int) := by unfold ioRoot; rw [hp]; rfl
  have hLw : Lw l (eN f m) (0, f, m) := .some f m hf0 hf1 hf2 hm1 hm2
  have e16 : 16 * (p / 16) + p % 16 = p := by omega
  rcases h.lf (p / 16) (by omega) with ⟨hc, hl⟩ | ⟨F, hF, hc, _, hs, hl⟩
  · -- no leaf yet
    have hmf : ioMapF ps l d p = freshI l (plI R ls) := by unfold ioMapF; rw [hroot, e1, hl, if_pos (by omega), hp]
    rcases h.fresh with ⟨hfr, hall⟩ | ⟨F, hF, hfr, hu⟩
    · left
      have hC : ioMapC ps l d p f m = 701 := by unfold ioMapC; rw [hB, if_pos rfl, hmf, hfr, if_pos (by omega)]
      exact ⟨hC, by unfold ioMapL; rw [hC, if_neg (by omega)], hc, hall⟩
    · right
      have hC : ioMapC ps l d p f m = 0 := by unfold ioMapC; rw [hB, if_pos rfl, hmf, hfr, if_neg (by omega)]
      obtain ⟨w1, w2, w3, w4, w5⟩ := h.rootword F hF (p / 16) (by omega) hc hu
      have hcap := h.cap
      have hFl := (h.lin F hF).1
      have hb := eN_bounds (F : Int) 3 (by omega) (by omega) (by omega) (by omega)
      have o1 := Out.pw l R (p / 16) (eN F 3) (R :: ls) h.rin (by omega) hb.1 hb.2 (by simp)
      have hL : ioMapL ps l d p f m = pwL (pwL l ((R : Int) * 64 + 4 * ((p / 16 : Nat) : Int)) (eN F 3)) ((F : Int) * 64 + 4 * ((p % 16 : Nat) : Int)) (eN f m) := by
        unfold ioMapL; rw [hC, if_pos rfl, hroot, e1, e2, hl, if_pos (by omega), hmf, hfr]
      have hlen := o1.len
      generalize pwL l ((R : Int) * 64 + 4 * ((p / 16 : Nat) : Int)) (eN F 3) = l1 at *
      have hLw1 : Lw l1 (eN f m) (0, f, m) := .some f m hf0 hf1 (by unfold frs at *; rw [hlen]; exact hf2) hm1 hm2
      obtain ⟨v1, v2, v3, v4⟩ := w1.leafword F hF (p / 16) (p % 16) (by omega) (by omega) w3 w4 (eN f m) _ hLw1
      have hb2 := hLw1.bounds
      have o2 := Out.pw l1 F (p % 16) (eN f m) (R :: ls) (by rw [hlen]; exact hFl) (by omega) hb2.1 hb2.2 (by simp [hF])
      rw [e16] at v2
      rw [hL]
      refine ⟨hC, v1, o1.trans o2, v2, fun q hq hn => ?_, fun j hj hn => ?_, ?_⟩
      · rw [v3 q hq (by rw [e16]; exact hn), w2 q hq]
      · exact ⟨(v4 j hj).1.trans (w5 j hj hn).1, (v4 j hj).2.trans (w5 j hj hn).2⟩
      · rw [(v4 (p / 16) (by omega)).1]; exact w3
  · right
    have hmf : ioMapF ps l d p = (F : Int) := by unfold ioMapF; rw [hroot, e1, hl, if_neg (by omega)]
    have hC : ioMapC ps l d p f m = 0 := by unfold ioMapC; rw [hB, if_pos rfl, hmf, if_neg (by omega)]
    have hL : ioMapL ps l d p f m = pwL l ((F : Int) * 64 + 4 * ((p % 16 : Nat) : Int)) (eN f m) := by
      unfold ioMapL; rw [hC, if_pos rfl, hroot, e1, e2, hl, if_neg (by omega), hmf]
    obtain ⟨v1, v2, v3, v4⟩ := h.leafword F hF (p / 16) (p % 16) (by omega) (by omega) hc hs (eN f m) _ hLw
    have hb2 := hLw.bounds
    have o2 := Out.pw l F (p % 16) (eN f m) (R :: ls) (h.lin F hF).1 (by omega) hb2.1 hb2.2 (by simp [hF])
    rw [e16] at v2
    rw [hL]
    exact ⟨hC, v1, o2, v2, fun q hq hn => v3 q hq (by rw [e16]; exact hn), fun j hj _ => v4 j hj, by rw [(v4 (p / 16) (by omega)).1]; exact hc⟩

/-- .. Unmap. -/
theorem Wf.unmap (h : Wf l R ls) (ps : List (List Int)) (d : Int) (hp : ioPool ps d = plI R ls) (p : Nat) (hB : thB ps.length d p = true) :
    (view l R p = (501, 0, 0) ∧ ioUnC ps l d p = 702 ∧ ioUnL ps l d p = l) ∨
    (wC l R p = 0 ∧ 1 ≤ wP l R p ∧ ioUnC ps l d p = 0 ∧ Wf (ioUnL ps l d p) R ls ∧ Out l (ioUnL ps l d p) (R :: ls) ∧ view (ioUnL ps l d p) R p = (501, 0, 0) ∧ (∀ q, q < 256 → q ≠ p → view (ioUnL ps l d p) R q = view l R q) ∧
      (∀ j : Nat, j < 16 → sC (ioUnL ps l d p) R j = sC l R j ∧ sF (ioUnL ps l d p) R j = sF l R j)) := by
  have hB' := hB
  unfold thB at hB'
  simp only [decide_eq_true_eq] at hB'
  have e1 : ((p : Int) / 16) = ((p / 16 : Nat) : Int) := by omega
  have e2 : ((p : Int) % 16) = ((p % 16 : Nat) : Int) := by omega
  have hroot : ioRoot ps d = (R : Int) := by unfold ioRoot; rw [hp]; rfl
  have e16 : 16 * (p / 16) + p % 16 = p := by omega
  rcases h.page p (by omega) with ⟨h1, h2, h3⟩ | ⟨h1, h2, h3⟩
  · left
    have hC : ioUnC ps l d p = 702 := by unfold ioUnC uC; rw [hB, if_pos rfl, hroot, h1, if_pos rfl]
    exact ⟨by unfold view; rw [h1, h2, h3], hC, by unfold ioUnL; rw [hC, if_neg (by omega)]⟩
  · right
    have hC : ioUnC ps l d p = 0 := by unfold ioUnC uC; rw [hB, if_pos rfl, hroot, h1, if_neg (by omega), if_neg (by omega)]
    rcases h.walk p (by omega) with ⟨_, g1, _⟩ | ⟨F, hF, g1, g2, g3, _, _, _⟩
    · omega
    · have hl : lfI l R (p / 16 : Nat) = (F : Int) := by unfold lfI; rw [if_pos ⟨g1, g2⟩, g3]
      have hL : ioUnL ps l d p = pwL l ((F : Int) * 64 + 4 * ((p % 16 : Nat) : Int)) 0 := by
        unfold ioUnL; rw [hC, if_pos rfl, hroot, e1, e2, hl]
      obtain ⟨v1, v2, v3, v4⟩ := h.leafword F hF (p / 16) (p % 16) (by omega) (by omega) g1 g3 0 _ .none
      have o2 := Out.pw l F (p % 16) 0 (R :: ls) (h.lin F hF).1 (by omega) (by omega) (by omega) (by simp [hF])
      rw [e16] at v2
      rw [hL]
      exact ⟨h1, h2, hC, v1, o2, v2, fun q hq hn => v3 q hq (by rw [e16]; exact hn), v4⟩

theorem zes_out (fs : List Nat) (gs : List Nat) : ∀ (l : List UInt8), l.length % 64 = 0 → (∀ F ∈ fs, F * 64 + 64 ≤ l.length ∧ F ∈ gs) → Out l ((fs.map (fun x : Nat => (x : Int))).foldl zeL l) gs ∧ (∀ F ∈ fs, ∀ k : Nat, k < 16 → sW ((fs.map (fun x : Nat => (x : Int))).foldl zeL l) F k = 0) := by
  induction fs with
  | nil => intro l _ _; exact ⟨Out.refl _ _, fun F hF => by cases hF⟩
  | cons F fs ih =>
    intro l hl hin
    have hF := hin F (by simp)
    have hz := zeL_len' l (F : Int) hl
    obtain ⟨i1, i2⟩ := ih (zeL l (F : Int)) (by rw [hz]; exact hl) (fun G hG => by rw [hz]; exact hin G (by simp [hG]))
    simp only [List.map_cons, List.foldl_cons]
    refine ⟨(Out.ze l F gs hl hF.1 hF.2).trans i1, fun G hG k hk => ?_⟩
    by_cases hm : G ∈ fs
    · exact i2 G hm k hk
    · have hGF : G = F := by
        rcases List.mem_cons.1 hG with e | e
        · exact e
        · exact absurd e hm
      subst hGF
      have ho := (zes_out_only fs (zeL l (G : Int)) (by rw [hz]; exact hl) (fun H hH => by rw [hz]; exact (hin H (by simp [hH])).1)).word G k (by rw [hz]; exact hF.1) hm hk
      rw [ho, sW_ze l G G k hl hF.1 hF.1 hk, if_pos rfl]
where
  zes_out_only (fs : List Nat) : ∀ (l : List UInt8), l.length % 64 = 0 → (∀ F ∈ fs, F * 64 + 64 ≤ l.length) → Out l ((fs.map (fun x : Nat => (x : Int))).foldl zeL l) fs := by
    induction fs with
    | nil => intro l _ _; exact Out.refl _ _
    | cons F fs ih =>
      intro l hl hin
      have hz := zeL_len' l (F : Int) hl
      have i1 := ih (zeL l (F : Int)) (by rw [hz]; exact hl) (fun G hG => by rw [hz]; exact hin G (by simp [hG]))
      simp only [List.map_cons, List.foldl_cons]
      have o0 := Out.ze l F (F :: fs) hl (hin F (by simp)) (by simp)
      refine o0.trans ⟨i1.len, fun G k h1 h2 h3 => i1.word G k h1 (fun e => h2 (by simp [e])) h3⟩

/-- Tables in which all words are 0. -/
theorem Wf.zero (hl : l.length % 64 = 0) (hc : l.length ≤ 4096) (hin : ∀ G ∈ R :: ls, G * 64 + 64 ≤ l.length) (hR : R ∉ ls) (hn : ls.Nodup) (hz : ∀ G ∈ R :: ls, ∀ k : Nat, k < 16 → sW l G k = 0) :
    Wf l R ls ∧ (∀ p, p < 256 → view l R p = (501, 0, 0)) ∧ ∀ j : Nat, j < 16 → sC l R j = 501 := by
  have h64 : 64 ≤ l.length := by have := hin R (by simp); omega
  have hr : ∀ j : Nat, j < 16 → sC l R j = 501 := fun j hj => (s_zero' l R j h64 (hz R (by simp) j hj)).1
  have hwf : Wf l R ls := by
    refine ⟨hl, hc, hin R (by simp), fun F hF => ⟨hin F (by simp [hF]), fun e => hR (by rw [← e]; exact hF)⟩, hn, fun i hi => .inl ⟨hz R (by simp) i hi, hr i hi⟩, ?_, ?_, ?_⟩
    · intro i j hi _ h1 _ _; rw [hr i hi] at h1; omega
    · intro F hF k hk; exact .inl ⟨hz F (by simp [hF]) k hk, (s_zero' l F k h64 (hz F (by simp [hF]) k hk)).1⟩
    · intro F hF _ k hk; exact hz F (by simp [hF]) k hk
  refine ⟨hwf, fun p hp => ?_, hr⟩
  rcases hwf.walk p hp with ⟨_, h1, h2, h3⟩ | ⟨F, hF, h1, _⟩
  · unfold view; rw [h1, h2, h3]
  · rw [hr _ (by omega)] at h1; omega
/-- Clear. -/
theorem Wf.clear_ (h : Wf l R ls) (ps : List (List Int)) (d : Int) (hp : ioPool ps d = plI R ls) (hB : thB ps.length d 0 = true) :
    ioClC ps d = 0 ∧ Wf (ioClL ps l d) R ls ∧ Out l (ioClL ps l d) (R :: ls) ∧ (∀ p, p < 256 → view (ioClL ps l d) R p = (501, 0, 0)) ∧ ∀ j : Nat, j < 16 → sC (ioClL ps l d) R j = 501 := by
  have hL : ioClL ps l d = (((R :: ls).map (fun x : Nat => (x : Int))).foldl zeL l) := by unfold ioClL; rw [hB, if_pos rfl, hp]; rfl
  obtain ⟨o1, o2⟩ := zes_out (R :: ls) (R :: ls) l h.len (fun F hF => ⟨h.fin F hF, hF⟩)
  rw [hL]
  generalize (((R :: ls).map (fun x : Nat => (x : Int))).foldl zeL l) = l1 at *
  obtain ⟨z1, z2, z3⟩ := Wf.zero (l := l1) (R := R) (ls := ls) (by rw [o1.len]; exact h.len) (by rw [o1.len]; exact h.cap) (fun G hG => by rw [o1.len]; exact h.fin G hG) (fun e => (h.lin R e).2 rfl) h.nodup o2
  exact ⟨by unfold ioClC; rw [hB, if_pos rfl], z1, o1, z2, z3⟩
end

end Go.Proofs.Ytggdbiniklchoaa

namespace Go.Proofs.Ytggdbiniklchoaa
open Go.RowKit
set_option linter.unusedVariables false
set_option maxRecDepth 100000

theorem Same.pw {l l0 : List UInt8} {fs : List Nat} (h : Same l l0 fs) (F k : Nat) (x : Int) (hF : F * 64 + 64 ≤ l.length) (hk : k < 16) (h0 : 0 ≤ x) (h1 : x ≤ 4294967295) (hr : ∀ G ∈ fs, G * 64 + 64 ≤ l.length) :
    Same (pwL l ((F : Int) * 64 + 4 * (k : Int)) x) (pwL l0 ((F : Int) * 64 + 4 * (k : Int)) x) fs :=
  ⟨by rw [pwL_len, pwL_len]; exact h.len, fun G j hG hj => by
    rw [sW_pw l F k x hF hk h0 h1 G j (hr G hG) hj, sW_pw l0 F k x (by rw [h.len]; exact hF) hk h0 h1 G j (by rw [h.len]; exact hr G hG) hj, h.word G j hG hj]⟩
theorem Same.symm {l l0 : List UInt8} {fs : List Nat} (h : Same l l0 fs) : Same l0 l fs := ⟨h.len.symm, fun G k h1 h2 => (h.word G k h1 h2).symm⟩
theorem Same.trans {a b c : List UInt8} {fs : List Nat} (h : Same a b fs) (k : Same b c fs) : Same a c fs := ⟨k.len.trans h.len, fun G j h1 h2 => (k.word G j h1 h2).trans (h.word G j h1 h2)⟩

section
variable {l l0 : List UInt8} {R : Nat} {ls : List Nat}
theorem Wf.lf_same (h : Wf l R ls) (hs : Same l l0 (R :: ls)) (i : Nat) (hi : i < 16) : lfI l0 R i = lfI l R i := by
  obtain ⟨_, _, hr⟩ := h.same hs
  obtain ⟨e1, e2, e3⟩ := hr i hi
  unfold lfI; rw [e1, e2, e3]
theorem Wf.fresh_same (h : Wf l R ls) (hs : Same l l0 (R :: ls)) : freshI l0 (plI R ls) = freshI l (plI R ls) := by
  have hu : usedI l0 (R : Int) = usedI l (R : Int) := by
    unfold usedI
    apply List.map_congr_left
    intro i hi
    exact h.lf_same hs i (List.mem_range.1 hi)
  unfold freshI plI
  simp only [List.getD_cons_zero, hu]
theorem frs_same (hl : l0.length = l.length) : frs l0 = frs l := by unfold frs; rw [hl]
theorem Wf.map_same (h : Wf l R ls) (hs : Same l l0 (R :: ls)) (ps : List (List Int)) (d : Int) (hp : ioPool ps d = plI R ls) (p : Nat) (f m : Int) :
    ioMapC ps l0 d p f m = ioMapC ps l d p f m ∧ Same (ioMapL ps l d p f m) (ioMapL ps l0 d p f m) (R :: ls) := by
  have hBs : ioMapB ps l0 d p f m = ioMapB ps l d p f m := by unfold ioMapB; rw [frs_same hs.len]
  cases hB : ioMapB ps l d p f m with
  | false =>
    have c1 : ioMapC ps l d p f m = 700 := by unfold ioMapC; rw [hB]; rfl
    have c2 : ioMapC ps l0 d p f m = 700 := by unfold ioMapC; rw [hBs, hB]; rfl
    refine ⟨by rw [c1, c2], ?_⟩
    unfold ioMapL
    rw [c1, c2, if_neg (by omega), if_neg (by omega)]
    exact hs
  | true =>
    have hB' := hB
    unfold ioMapB thB at hB'
    simp only [Bool.and_eq_true, decide_eq_true_eq] at hB'
    obtain ⟨⟨hd0, hd1, hp0, hp1⟩, hm1, hm2, hf0, hf1, hf2⟩ := hB'
    have e1 : ((p : Int) / 16) = ((p / 16 : Nat) : Int) := by omega
    have e2 : ((p : Int) % 16) = ((p % 16 : Nat) : Int) := by omega
    have hroot : ioRoot ps d = (R : Int) := by unfold ioRoot; rw [hp]; rfl
    have hlf := h.lf_same hs (p / 16) (by omega)
    have hmf : ioMapF ps l0 d p = ioMapF ps l d p := by unfold ioMapF; rw [hroot, e1, hlf, hp, h.fresh_same hs]
    have hC : ioMapC ps l0 d p f m = ioMapC ps l d p f m := by unfold ioMapC; rw [hBs, hmf]
    refine ⟨hC, ?_⟩
    unfold ioMapL
    rw [hC]
    by_cases hc : ioMapC ps l d p f m = 0
    · rw [if_pos hc, if_pos hc, hmf, hroot, e1, e2, hlf]
      have hb := eN_bounds f m hf0 hf1 hm1 hm2
      have hcap := h.cap
      rcases h.lf (p / 16) (by omega) with ⟨_, hl⟩ | ⟨F, hF, _, _, _, hl⟩
      · have hmf' : ioMapF ps l d p = freshI l (plI R ls) := by unfold ioMapF; rw [hroot, e1, hl, if_pos (by omega), hp]
        rw [hl, if_pos (by omega), if_pos (by omega), hmf']
        rcases h.fresh with ⟨hfr, _⟩ | ⟨F, hF, hfr, _⟩
        · exfalso
          unfold ioMapC at hc
          rw [hB, if_pos rfl, hmf', hfr, if_pos (by omega)] at hc
          omega
        · rw [hfr]
          have hb3 := eN_bounds (F : Int) 3 (by omega) (by have := (h.lin F hF).1; omega) (by omega) (by omega)
          have s1 := hs.pw R (p / 16) (eN F 3) h.rin (by omega) hb3.1 hb3.2 h.fin
          exact s1.pw F (p % 16) (eN f m) (by rw [pwL_len]; exact (h.lin F hF).1) (by omega) hb.1 hb.2 (fun G hG => by rw [pwL_len]; exact h.fin G hG)
      · have hmf' : ioMapF ps l d p = (F : Int) := by unfold ioMapF; rw [hroot, e1, hl, if_neg (by omega)]
        rw [hl, if_neg (by omega), if_neg (by omega), hmf']
        exact hs.pw F (p % 16) (eN f m) (h.lin F hF).1 (by omega) hb.1 hb.2 h.fin
    · rw [if_neg hc, if_neg hc]; exact hs
theorem Wf.wc_same (h : Wf l R ls) (hs : Same l l0 (R :: ls)) (p : Nat) (hp : p < 256) : wC l0 R p = wC l R p ∧ wF l0 R p = wF l R p ∧ wP l0 R p = wP l R p := by
  have := (h.same hs).2.1 p hp
  unfold view at this
  simp only [Prod.mk.injEq] at this
  exact this
theorem Wf.unmap_same (h : Wf l R ls) (hs : Same l l0 (R :: ls)) (ps : List (List Int)) (d : Int) (hp : ioPool ps d = plI R ls) (p : Nat) :
    ioUnC ps l0 d p = ioUnC ps l d p ∧ Same (ioUnL ps l d p) (ioUnL ps l0 d p) (R :: ls) := by
  cases hB : thB ps.length d p with
  | false =>
    have c1 : ioUnC ps l d p = 700 := by unfold ioUnC; rw [hB]; rfl
    have c2 : ioUnC ps l0 d p = 700 := by unfold ioUnC; rw [hB]; rfl
    refine ⟨by rw [c1, c2], ?_⟩
    unfold ioUnL
    rw [c1, c2, if_neg (by omega), if_neg (by omega)]
    exact hs
  | true =>
    have hB' := hB
    unfold thB at hB'
    simp only [decide_eq_true_eq] at hB'
    have e1 : ((p : Int) / 16) = ((p / 16 : Nat) : Int) := by omega
    have e2 : ((p : Int) % 16) = ((p % 16 : Nat) : Int) := by omega
    have hroot : ioRoot ps d = (R : Int) := by unfold ioRoot; rw [hp]; rfl
    obtain ⟨w1, _, _⟩ := h.wc_same hs p (by omega)
    have hC : ioUnC ps l0 d p = ioUnC ps l d p := by unfold ioUnC uC; rw [hroot, w1]
    refine ⟨hC, ?_⟩
    unfold ioUnL
    rw [hC]
    by_cases hc : ioUnC ps l d p = 0
    · rw [if_pos hc, if_pos hc, hroot, e1, e2, h.lf_same hs (p / 16) (by omega)]
      rcases h.unmap ps d hp p hB with ⟨_, hc2, _⟩ | ⟨hw, _⟩
      · omega
      · rcases h.walk p (by omega) with ⟨_, g1, _⟩ | ⟨F, hF, g1, g2, g3, _⟩
        · omega
        · have hl : lfI l R (p / 16 : Nat) = (F : Int) := by unfold lfI; rw [if_pos ⟨g1, g2⟩, g3]
          rw [hl]
          exact hs.pw F (p % 16) 0 (h.lin F hF).1 (by omega) (by omega) (by omega) h.fin
    · rw [if_neg hc, if_neg hc]; exact hs
theorem Wf.clear_same (h : Wf l R ls) (hs : Same l l0 (R :: ls)) (ps : List (List Int)) (d : Int) (hp : ioPool ps d = plI R ls) : Same (ioClL ps l d) (ioClL ps l0 d) (R :: ls) := by
  cases hB : thB ps.length d 0 with
  | false => unfold ioClL; rw [hB]; exact hs
  | true =>
    have key : ∀ l : List UInt8, ioClL ps l d = (((R :: ls).map (fun x : Nat => (x : Int))).foldl zeL l) := by intro l; unfold ioClL; rw [hB, if_pos rfl, hp]; rfl
    rw [key, key]
    obtain ⟨o1, z1⟩ := zes_out (R :: ls) (R :: ls) l h.len (fun F hF => ⟨h.fin F hF, hF⟩)
    obtain ⟨o2, z2⟩ := zes_out (R :: ls) (R :: ls) l0 (by rw [hs.len]; exact h.len) (fun F hF => ⟨by rw [hs.len]; exact h.fin F hF, hF⟩)
    exact ⟨by rw [o1.len, o2.len]; exact hs.len, fun G k hG hk => by rw [z1 G hG k hk, z2 G hG k hk]⟩
end

/-! ### runs, page by page -/
/-- The first error of n pages from s on. -/
def pgsC (l : List UInt8) (r : Int) (write : Bool) : Nat → Nat → Int
  | _, 0 => 0
  | s, n + 1 => if pgC l r write ((s : Nat) : Int) = 0 then pgsC l r write (s + 1) n else pgC l r write ((s : Nat) : Int)
theorem runC_pages (l : List UInt8) (r : Int) (write : Bool) (n : Nat) : ∀ a, 0 < n → runC l r write (spl a n) = pgsC l r write (a / 64) ((a + n - 1) / 64 + 1 - a / 64) := by
  induction n using Nat.strongRecOn with
  | ind n ih =>
    intro a hn
    rw [spl_step a n hn]
    unfold runC
    obtain ⟨c, hc⟩ : ∃ c, (a + n - 1) / 64 + 1 - a / 64 = c + 1 := ⟨(a + n - 1) / 64 - a / 64, by omega⟩
    rw [hc]
    unfold pgsC
    simp only
    by_cases hz : pgC l r write ((a / 64 : Nat) : Int) = 0
    · rw [if_pos hz, if_pos hz]
      by_cases hm : n ≤ 64 - a % 64
      · have h0 : n - min n (64 - a % 64) = 0 := by omega
        have hc0 : c = 0 := by omega
        rw [h0, spl_zero, hc0]
        rfl
      · have hmin : min n (64 - a % 64) = 64 - a % 64 := by omega
        rw [hmin, ih (n - (64 - a % 64)) (by omega) (a + (64 - a % 64)) (by omega)]
        have e1 : (a + (64 - a % 64)) / 64 = a / 64 + 1 := by omega
        have e2 : (a + (64 - a % 64) + (n - (64 - a % 64)) - 1) / 64 + 1 - (a + (64 - a % 64)) / 64 = c := by omega
        rw [e2, e1]
    · rw [if_neg hz, if_neg hz]
/-- A run within a page. -/
theorem spl_one (q o n : Nat) (hn : 0 < n) (h : o + n ≤ 64) : spl (q * 64 + o) n = [(q, o, n)] := by
  by_cases ho : o = 64
  · omega
  · rw [spl_step _ _ hn]
    have e1 : (q * 64 + o) / 64 = q := by omega
    have e2 : (q * 64 + o) % 64 = o := by omega
    rw [e1, e2, show min n (64 - o) = n by omega, Nat.sub_self, spl_zero]

section
variable {l : List UInt8} {R : Nat} {ls : List Nat}
/-- A page's error, by what its walk tells. -/
theorem Wf.pgC (h : Wf l R ls) (write : Bool) (p : Nat) (hp : p < 256) : (view l R p = (501, 0, 0) ∧ pgC l R write p = 702) ∨ (wC l R p = 0 ∧ 1 ≤ wP l R p ∧ wP l R p ≤ 3 ∧ pgC l R write p = if hasP (wP l R p) write then 0 else 703) := by
  rcases h.page p hp with ⟨h1, h2, h3⟩ | ⟨h1, h2, h3⟩
  · left
    exact ⟨by unfold view; rw [h1, h2, h3], by
      have hu : uC l R p = 702 := by unfold uC; rw [h1, if_pos rfl]
      unfold Proofs.Ytggdbiniklchoaa.pgC; rw [hu, if_neg (by omega)]⟩
  · right
    exact ⟨h1, h2, h3, by
      have hu : uC l R p = 0 := by unfold uC; rw [h1, if_neg (by omega), if_neg (by omega)]
      unfold Proofs.Ytggdbiniklchoaa.pgC; rw [hu, if_pos rfl]⟩
theorem view_pgC (l l' : List UInt8) (R : Nat) (write : Bool) (p : Nat) (h : view l' R p = view l R p) : Proofs.Ytggdbiniklchoaa.pgC l' R write p = Proofs.Ytggdbiniklchoaa.pgC l R write p := by
  unfold view at h
  simp only [Prod.mk.injEq] at h
  unfold Proofs.Ytggdbiniklchoaa.pgC uC
  rw [h.1, h.2.2]
end

end Go.Proofs.Ytggdbiniklchoaa

namespace Go.Proofs.Ytggdbiniklchoaa
open Go.RowKit
set_option linter.unusedVariables false
set_option maxRecDepth 100000

/-- The pools of the laws. -/
def ps2 : List (List Int) := [plI 0 [1, 2, 3], plI 4 [5, 6]]
theorem ps2_0 : ioPool ps2 0 = plI 0 [1, 2, 3] := rfl
theorem ps2_1 : ioPool ps2 1 = plI 4 [5, 6] := rfl
theorem ps2_th (d p : Int) : thB ps2.length d p = decide (0 ≤ d ∧ d < 2 ∧ 0 ≤ p ∧ p < 256) := rfl

/-- Both devices' tables. -/
structure Two7 (l : List UInt8) : Prop where
  len : l.length = 1024
  a : Wf l 0 [1, 2, 3]
  b : Wf l 4 [5, 6]

theorem num4_zero (b : List UInt8) (h : ∀ j, b.getD j 0 = 0) : num4 b = 0 := by unfold num4; rw [h, h, h, h]; rfl
/-- A memory that is all 0. -/
theorem two7_zero (l : List UInt8) (hl : l.length = 1024) (h0 : ∀ i : Nat, l.getD i 0 = 0) : Two7 l ∧ (∀ p, p < 256 → view l 0 p = (501, 0, 0)) ∧ (∀ p, p < 256 → view l 4 p = (501, 0, 0)) ∧ (∀ j : Nat, j < 16 → sC l (0 : Nat) j = 501) := by
  have hw : ∀ F k : Nat, sW l F k = 0 := by
    intro F k
    unfold sW wdN
    split
    · apply num4_zero
      intro j
      have e : ((l.drop ((F : Int) * 64 + (k : Int) * 4).toNat).take 4).getD j 0 = 0 := by
        simp only [List.getD, List.getElem?_take, List.getElem?_drop]
        split
        · have := h0 (((F : Int) * 64 + (k : Int) * 4).toNat + j); simpa [List.getD] using this
        · rfl
      exact e
    · rfl
  have hin : ∀ (fs : List Nat), (∀ G ∈ fs, G < 16) → ∀ G ∈ fs, G * 64 + 64 ≤ l.length := fun fs h G hG => by have := h G hG; omega
  obtain ⟨a1, a2, a3⟩ := Wf.zero (l := l) (R := 0) (ls := [1, 2, 3]) (by omega) (by omega) (hin _ (by decide)) (by decide) (by decide) (fun G _ k _ => hw G k)
  obtain ⟨b1, b2, _⟩ := Wf.zero (l := l) (R := 4) (ls := [5, 6]) (by omega) (by omega) (hin _ (by decide)) (by decide) (by decide) (fun G _ k _ => hw G k)
  exact ⟨⟨hl, a1, b1⟩, a2, b2, a3⟩

section
variable {l l' : List UInt8}
/-- What turns device 0's tables alone. -/
theorem Two7.out0 (h : Two7 l) (o : Out l l' [0, 1, 2, 3]) (a : Wf l' 0 [1, 2, 3]) : Two7 l' ∧ (∀ p, p < 256 → view l' 4 p = view l 4 p) ∧ Same l l' [4, 5, 6] := by
  have hs : Same l l' [4, 5, 6] := o.same (by decide) (fun G hG => h.b.fin G hG)
  obtain ⟨w1, w2, _⟩ := h.b.same hs
  exact ⟨⟨by rw [o.len]; exact h.len, a, w1⟩, w2, hs⟩
/-- .. device 1's. -/
theorem Two7.out1 (h : Two7 l) (o : Out l l' [4, 5, 6]) (b : Wf l' 4 [5, 6]) : Two7 l' ∧ (∀ p, p < 256 → view l' 0 p = view l 0 p) ∧ Same l l' [0, 1, 2, 3] := by
  have hs : Same l l' [0, 1, 2, 3] := o.same (by decide) (fun G hG => h.a.fin G hG)
  obtain ⟨w1, w2, _⟩ := h.a.same hs
  exact ⟨⟨by rw [o.len]; exact h.len, w1, b⟩, w2, hs⟩
end

/-! ### pages below 48: each can be mapped -/
/-- What a page is to tell: no rights, none. -/
def wantV (e : Int × Int) : Int × Int × Int := if e.2 = 0 then (501, 0, 0) else (0, e.1, e.2)
def updW (W : Nat → Int × Int) (p : Nat) (e : Int × Int) : Nat → Int × Int := fun q => if q = p then e else W q
structure MI (l : List UInt8) (W : Nat → Int × Int) : Prop where
  two : Two7 l
  high : ∀ j : Nat, 3 ≤ j → j < 16 → sC l (0 : Nat) j = 501
  other : ∀ p, p < 256 → view l 4 p = (501, 0, 0)
  want : ∀ q, q < 48 → view l 0 q = wantV (W q)
  rng : ∀ q, q < 48 → (W q = (0, 0) ∨ (1 ≤ (W q).2 ∧ (W q).2 ≤ 3 ∧ 0 ≤ (W q).1 ∧ (W q).1 < 64))

theorem mi_zero (l : List UInt8) (hl : l.length = 1024) (h0 : ∀ i : Nat, l.getD i 0 = 0) : MI l (fun _ => (0, 0)) := by
  obtain ⟨h1, h2, h3, h4⟩ := two7_zero l hl h0
  exact ⟨h1, fun j _ hj => h4 j hj, h3, fun q hq => h2 q (by omega), fun q _ => .inl rfl⟩

theorem MI.map {l : List UInt8} {W : Nat → Int × Int} (h : MI l W) (p : Nat) (hp : p < 48) (f m : Int) (hf0 : 0 ≤ f) (hf1 : f < 16) (hm1 : 1 ≤ m) (hm2 : m ≤ 3) :
    ioMapC ps2 l 0 p f m = 0 ∧ MI (ioMapL ps2 l 0 p f m) (updW W p (f, m)) := by
  have hlen := h.two.len
  have hB : ioMapB ps2 l 0 p f m = true := by
    unfold ioMapB
    rw [ps2_th, Bool.and_eq_true, decide_eq_true_eq, decide_eq_true_eq]
    unfold frs
    rw [hlen]
    omega
  rcases h.two.a.map ps2 0 ps2_0 p f m hB with ⟨_, _, hn, hall⟩ | ⟨hC, hw, ho, hv, hq, hr, hx⟩
  · exfalso
    obtain ⟨i1, a1, b1, c1⟩ := hall 1 (by simp)
    obtain ⟨i2, a2, b2, c2⟩ := hall 2 (by simp)
    obtain ⟨i3, a3, b3, c3⟩ := hall 3 (by simp)
    have lt : ∀ i : Nat, i < 16 → sC l (0 : Nat) i = 0 → i < 3 ∧ i ≠ p / 16 := by
      intro i hi hc
      constructor
      · rcases Nat.lt_or_ge i 3 with h3 | h3
        · exact h3
        · rw [h.high i h3 hi] at hc; omega
      · intro e; subst e; rw [hn] at hc; omega
    have l1 := lt i1 a1 b1
    have l2 := lt i2 a2 b2
    have l3 := lt i3 a3 b3
    have n12 : i1 ≠ i2 := by intro e; subst e; rw [c1] at c2; omega
    have n13 : i1 ≠ i3 := by intro e; subst e; rw [c1] at c3; omega
    have n23 : i2 ≠ i3 := by intro e; subst e; rw [c2] at c3; omega
    omega
  · obtain ⟨t1, t2, _⟩ := h.two.out0 ho hw
    refine ⟨hC, t1, fun j h3 hj => ?_, fun q hq' => by rw [t2 q hq']; exact h.other q hq', fun q hq' => ?_, fun q hq' => ?_⟩
    · rw [(hr j hj (by omega)).1]; exact h.high j h3 hj
    · by_cases e : q = p
      · subst e
        rw [hv]
        unfold updW wantV
        rw [if_pos rfl, if_neg (by simp; omega)]
      · rw [hq q (by omega) e, h.want q hq']
        unfold updW
        rw [if_neg e]
    · unfold updW
      by_cases e : q = p
      · rw [if_pos e]; exact .inr ⟨hm1, hm2, hf0, by show f < 64; omega⟩
      · rw [if_neg e]; exact h.rng q hq'

theorem MI.unmap {l : List UInt8} {W : Nat → Int × Int} (h : MI l W) (p : Nat) (hp : p < 48) :
    (((W p).2 = 0 ∧ ioUnC ps2 l 0 p = 702) ∨ ((W p).2 ≠ 0 ∧ ioUnC ps2 l 0 p = 0)) ∧ MI (ioUnL ps2 l 0 p) (updW W p (0, 0)) := by
  have hB : thB ps2.length 0 p = true := by rw [ps2_th]; exact decide_eq_true (by omega)
  have hwp := h.want p hp
  rcases h.two.a.unmap ps2 0 ps2_0 p hB with ⟨hv, hc, hl⟩ | ⟨hw0, hw1, hC, hw, ho, hv, hq, hr⟩
  · have h0 : (W p).2 = 0 := by
      rw [hv] at hwp
      unfold wantV at hwp
      by_cases e : (W p).2 = 0
      · exact e
      · rw [if_neg e] at hwp; simp at hwp
    refine ⟨.inl ⟨h0, hc⟩, ?_⟩
    rw [hl]
    refine ⟨h.two, h.high, h.other, fun q hq' => ?_, fun q hq' => ?_⟩
    · unfold updW
      by_cases e : q = p
      · subst e; rw [if_pos rfl, hv]; rfl
      · rw [if_neg e]; exact h.want q hq'
    · unfold updW
      by_cases e : q = p
      · rw [if_pos e]; exact .inl rfl
      · rw [if_neg e]; exact h.rng q hq'
  · have h0 : (W p).2 ≠ 0 := by
      intro e
      unfold wantV at hwp
      rw [if_pos e] at hwp
      unfold view at hwp
      simp only [Prod.mk.injEq] at hwp
      omega
    obtain ⟨t1, t2, _⟩ := h.two.out0 ho hw
    refine ⟨.inr ⟨h0, hC⟩, t1, fun j h3 hj => by rw [(hr j hj).1]; exact h.high j h3 hj, fun q hq' => by rw [t2 q hq']; exact h.other q hq', fun q hq' => ?_, fun q hq' => ?_⟩
    · by_cases e : q = p
      · subst e; rw [hv]; unfold updW; rw [if_pos rfl]; rfl
      · rw [hq q (by omega) e, h.want q hq']; unfold updW; rw [if_neg e]
    · unfold updW
      by_cases e : q = p
      · rw [if_pos e]; exact .inl rfl
      · rw [if_neg e]; exact h.rng q hq'

/-- What one page's run tells, by what the page is to tell. -/
theorem page_tr (l : List UInt8) (R : Nat) (d : Int) (q o n : Nat) (write : Bool) (hq : q < 256) (hn : 0 < n) (ho : o + n ≤ 64) (hth : thB ps2.length d 0 = true) (hr : ioRoot ps2 d = (R : Int)) (e : Int × Int) (hv : view l R q = wantV e) (he : e = (0, 0) ∨ (1 ≤ e.2 ∧ e.2 ≤ 3 ∧ 0 ≤ e.1 ∧ e.1 < 64)) :
    ioTrC ps2 l d ((q * 64 + o : Nat) : Int) (n : Int) write = (if e.2 = 0 then 702 else if hasP e.2 write then 0 else 703) ∧
    ioTrP ps2 l d ((q * 64 + o : Nat) : Int) (n : Int) write = (if e.2 ≠ 0 ∧ hasP e.2 write = true then [(e.1.toNat, o, n)] else []) := by
  have hB : ioTrB ps2 d ((q * 64 + o : Nat) : Int) (n : Int) = true := by
    unfold ioTrB
    rw [hth, Bool.true_and, Bool.and_eq_true, decide_eq_true_eq]
    exact ⟨by omega, decide_eq_true (by omega)⟩
  have hs : spl ((q * 64 + o : Nat) : Int).toNat ((n : Nat) : Int).toNat = [(q, o, n)] := by
    rw [Int.toNat_natCast, Int.toNat_natCast]; exact spl_one q o n hn ho
  unfold view wantV at hv
  by_cases e0 : e.2 = 0
  · rw [if_pos e0] at hv
    simp only [Prod.mk.injEq] at hv
    have hu : uC l R q = 702 := by unfold uC; rw [hv.1, if_pos rfl]
    have hp : pgC l R write q = 702 := by unfold pgC; rw [hu, if_neg (by omega)]
    have hC : ioTrC ps2 l d ((q * 64 + o : Nat) : Int) (n : Int) write = 702 := by
      unfold ioTrC
      rw [hB, if_pos rfl, hs, hr]
      unfold runC
      rw [if_neg (by simp only; rw [hp]; omega)]
      exact hp
    refine ⟨by rw [hC, if_pos e0], ?_⟩
    unfold ioTrP
    rw [hC, if_neg (by omega), if_neg (by intro h; exact h.1 e0)]
  · rw [if_neg e0] at hv
    simp only [Prod.mk.injEq] at hv
    have hu : uC l R q = 0 := by unfold uC; rw [hv.1, if_neg (by omega), if_neg (by omega)]
    have hp : pgC l R write q = if hasP e.2 write then 0 else 703 := by unfold pgC; rw [hu, if_pos rfl, hv.2.2]
    have hC : ioTrC ps2 l d ((q * 64 + o : Nat) : Int) (n : Int) write = if hasP e.2 write then 0 else 703 := by
      unfold ioTrC
      rw [hB, if_pos rfl, hs, hr]
      unfold runC
      simp only
      rw [hp]
      by_cases hh : hasP e.2 write = true
      · rw [if_pos hh, if_pos rfl]; rfl
      · rw [if_neg hh, if_neg (by omega)]
    refine ⟨by rw [hC, if_neg e0], ?_⟩
    unfold ioTrP
    rw [hC, hs, hr]
    by_cases hh : hasP e.2 write = true
    · rw [if_pos hh, if_pos rfl, if_pos ⟨e0, hh⟩]
      simp only [List.map_cons, List.map_nil]
      rw [hv.2.1]
    · rw [if_neg hh, if_neg (by omega), if_neg (fun h => hh h.2)]

end Go.Proofs.Ytggdbiniklchoaa

namespace Go.Proofs.Ytggdbiniklchoaa
open Go.RowKit
set_option linter.unusedVariables false
set_option maxRecDepth 100000

/-- A Map that is refused turns nothing. -/
theorem ioMapL_no (ps : List (List Int)) (l : List UInt8) (d p f m : Int) (h : ioMapC ps l d p f m ≠ 0) : ioMapL ps l d p f m = l := by unfold ioMapL; rw [if_neg h]
theorem ioMapC_no (ps : List (List Int)) (l : List UInt8) (d p f m : Int) (h : ioMapB ps l d p f m = false) : ioMapC ps l d p f m = 700 := by unfold ioMapC; rw [h]; rfl
theorem ioUnL_no (ps : List (List Int)) (l : List UInt8) (d p : Int) (h : ioUnC ps l d p ≠ 0) : ioUnL ps l d p = l := by unfold ioUnL; rw [if_neg h]

section
variable {l : List UInt8} {R : Nat} {ls : List Nat}
/-- Whatever Map answers, the tables stay well formed, and nothing else has turned. -/
theorem Wf.map_any (h : Wf l R ls) (ps : List (List Int)) (d : Int) (hp : ioPool ps d = plI R ls) (p : Nat) (f m : Int) : Wf (ioMapL ps l d p f m) R ls ∧ Out l (ioMapL ps l d p f m) (R :: ls) := by
  cases hB : ioMapB ps l d p f m with
  | false => rw [ioMapL_no ps l d p f m (by rw [ioMapC_no ps l d p f m hB]; omega)]; exact ⟨h, Out.refl _ _⟩
  | true =>
    rcases h.map ps d hp p f m hB with ⟨_, hl, _⟩ | ⟨_, hw, ho, _⟩
    · rw [hl]; exact ⟨h, Out.refl _ _⟩
    · exact ⟨hw, ho⟩
theorem Wf.unmap_any (h : Wf l R ls) (ps : List (List Int)) (d : Int) (hp : ioPool ps d = plI R ls) (p : Nat) : Wf (ioUnL ps l d p) R ls ∧ Out l (ioUnL ps l d p) (R :: ls) := by
  cases hB : thB ps.length d p with
  | false =>
    have hc : ioUnC ps l d p = 700 := by unfold ioUnC; rw [hB]; rfl
    rw [ioUnL_no ps l d p (by rw [hc]; omega)]
    exact ⟨h, Out.refl _ _⟩
  | true =>
    rcases h.unmap ps d hp p hB with ⟨_, _, hl⟩ | ⟨_, _, _, hw, ho, _⟩
    · rw [hl]; exact ⟨h, Out.refl _ _⟩
    · exact ⟨hw, ho⟩
theorem Wf.clear_any (h : Wf l R ls) (ps : List (List Int)) (d : Int) (hp : ioPool ps d = plI R ls) : Wf (ioClL ps l d) R ls ∧ Out l (ioClL ps l d) (R :: ls) := by
  cases hB : thB ps.length d 0 with
  | false => unfold ioClL; rw [hB]; exact ⟨h, Out.refl _ _⟩
  | true => obtain ⟨_, hw, ho, _⟩ := h.clear_ ps d hp hB; exact ⟨hw, ho⟩

/-- Where all leaves are led to, no more can be put. -/
theorem Wf.full (h : Wf l R ls) (ps : List (List Int)) (d : Int) (hp : ioPool ps d = plI R ls) (p : Nat) (f m : Int) (hB : ioMapB ps l d p f m = true) (hr : sC l R (p / 16 : Nat) = 501) (hu : ∀ F ∈ ls, ∃ i : Nat, i < 16 ∧ sC l R i = 0 ∧ sF l R i = (F : Int)) : ioMapC ps l d p f m = 701 := by
  have hB' := hB
  unfold ioMapB thB at hB'
  simp only [Bool.and_eq_true, decide_eq_true_eq] at hB'
  have e1 : ((p : Int) / 16) = ((p / 16 : Nat) : Int) := by omega
  have hroot : ioRoot ps d = (R : Int) := by unfold ioRoot; rw [hp]; rfl
  have hl : lfI l R (p / 16 : Nat) = -1 := by unfold lfI; rw [if_neg (by rw [hr]; omega)]
  have hmf : ioMapF ps l d p = freshI l (plI R ls) := by unfold ioMapF; rw [hroot, e1, hl, if_pos (by omega), hp]
  have hfr : freshI l (plI R ls) = -1 := by
    rcases h.fresh with ⟨hfr, _⟩ | ⟨F, hF, _, hn⟩
    · exact hfr
    · obtain ⟨i, hi, hc, hs⟩ := hu F hF
      exact absurd hs (hn i hi hc)
  unfold ioMapC
  rw [hB, if_pos rfl, hmf, hfr, if_pos (by omega)]
end

theorem mapB_0 (l : List UInt8) (hl : l.length = 1024) (p : Nat) (hp : p < 256) (f m : Int) (hf0 : 0 ≤ f) (hf1 : f < 16) (hm1 : 1 ≤ m) (hm2 : m ≤ 3) : ioMapB ps2 l 0 p f m = true := by
  unfold ioMapB
  rw [ps2_th, Bool.and_eq_true, decide_eq_true_eq, decide_eq_true_eq]
  unfold frs
  rw [hl]
  omega
theorem mapB_1 (l : List UInt8) (hl : l.length = 1024) (p : Nat) (hp : p < 256) (f m : Int) (hf0 : 0 ≤ f) (hf1 : f < 16) (hm1 : 1 ≤ m) (hm2 : m ≤ 3) : ioMapB ps2 l 1 p f m = true := by
  unfold ioMapB
  rw [ps2_th, Bool.and_eq_true, decide_eq_true_eq, decide_eq_true_eq]
  unfold frs
  rw [hl]
  omega

/-- Device 0's root, of which just the words of these numbers lead somewhere. -/
def Used (l : List UInt8) (us : List Nat) : Prop := ∀ j : Nat, j < 16 → (j ∈ us → sC l (0 : Nat) j = 0) ∧ (j ∉ us → sC l (0 : Nat) j = 501)

/-- One more leaf is put. -/
theorem Two7.more {l : List UInt8} (h : Two7 l) (us : List Nat) (hu : Used l us) (p : Nat) (hp : p < 256) (hn : p / 16 ∉ us) (hl : us.length < 3) (f m : Int) (hf0 : 0 ≤ f) (hf1 : f < 16) (hm1 : 1 ≤ m) (hm2 : m ≤ 3) :
    ioMapC ps2 l 0 p f m = 0 ∧ Two7 (ioMapL ps2 l 0 p f m) ∧ Used (ioMapL ps2 l 0 p f m) (p / 16 :: us) ∧ (∀ q, q < 256 → view (ioMapL ps2 l 0 p f m) 4 q = view l 4 q) := by
  have hB := mapB_0 l h.len p hp f m hf0 hf1 hm1 hm2
  rcases h.a.map ps2 0 ps2_0 p f m hB with ⟨_, _, hr, hall⟩ | ⟨hC, hw, ho, hv, hq, hr, hx⟩
  · exfalso
    obtain ⟨i1, a1, b1, c1⟩ := hall 1 (by simp)
    obtain ⟨i2, a2, b2, c2⟩ := hall 2 (by simp)
    obtain ⟨i3, a3, b3, c3⟩ := hall 3 (by simp)
    have mem : ∀ i : Nat, i < 16 → sC l (0 : Nat) i = 0 → i ∈ us := by
      intro i hi hc
      by_cases hm : i ∈ us
      · exact hm
      · rw [(hu i hi).2 hm] at hc; omega
    have n12 : i1 ≠ i2 := by intro e; subst e; rw [c1] at c2; omega
    have n13 : i1 ≠ i3 := by intro e; subst e; rw [c1] at c3; omega
    have n23 : i2 ≠ i3 := by intro e; subst e; rw [c2] at c3; omega
    have m1 := mem i1 a1 b1
    have m2 := mem i2 a2 b2
    have m3 := mem i3 a3 b3
    match us, hl with
    | [], _ => cases m1
    | [x], _ =>
      simp only [List.mem_cons, List.not_mem_nil, or_false] at m1 m2
      omega
    | [x, y], _ =>
      simp only [List.mem_cons, List.not_mem_nil, or_false] at m1 m2 m3
      omega
  · obtain ⟨t1, t2, _⟩ := h.out0 ho hw
    refine ⟨hC, t1, fun j hj => ⟨fun hm => ?_, fun hm => ?_⟩, t2⟩
    · by_cases e : j = p / 16
      · rw [e]; exact hx
      · rw [(hr j hj e).1]
        rcases List.mem_cons.1 hm with e2 | e2
        · exact absurd e2 e
        · exact (hu j hj).1 e2
    · have e : j ≠ p / 16 := fun e => hm (by simp [e])
      rw [(hr j hj e).1]
      exact (hu j hj).2 (fun e2 => hm (by simp [e2]))

/-- .. but no fourth one. -/
theorem Two7.none_left {l : List UInt8} (h : Two7 l) (x y z : Nat) (hu : Used l [x, y, z]) (hx : x < 16) (hy : y < 16) (hz : z < 16) (hxy : x ≠ y) (hxz : x ≠ z) (hyz : y ≠ z) (p : Nat) (hp : p < 256) (hn : p / 16 ∉ [x, y, z]) (f m : Int) (hf0 : 0 ≤ f) (hf1 : f < 16) (hm1 : 1 ≤ m) (hm2 : m ≤ 3) :
    ioMapC ps2 l 0 p f m = 701 := by
  have hB := mapB_0 l h.len p hp f m hf0 hf1 hm1 hm2
  have cx := (hu x hx).1 (by simp)
  have cy := (hu y hy).1 (by simp)
  have cz := (hu z hz).1 (by simp)
  have lf : ∀ i : Nat, i < 16 → sC l (0 : Nat) i = 0 → ∃ F : Nat, (F = 1 ∨ F = 2 ∨ F = 3) ∧ sF l (0 : Nat) i = (F : Int) := by
    intro i hi hc
    rcases h.a.root i hi with ⟨_, h1⟩ | ⟨_, _, F, hF, h3⟩
    · rw [h1] at hc; omega
    · exact ⟨F, by simpa using hF, h3⟩
  obtain ⟨X, hX, eX⟩ := lf x hx cx
  obtain ⟨Y, hY, eY⟩ := lf y hy cy
  obtain ⟨Z, hZ, eZ⟩ := lf z hz cz
  have nXY : X ≠ Y := by intro e; subst e; exact hxy (h.a.inj x y hx hy cx cy (by rw [eX, eY]))
  have nXZ : X ≠ Z := by intro e; subst e; exact hxz (h.a.inj x z hx hz cx cz (by rw [eX, eZ]))
  have nYZ : Y ≠ Z := by intro e; subst e; exact hyz (h.a.inj y z hy hz cy cz (by rw [eY, eZ]))
  refine h.a.full ps2 0 ps2_0 p f m hB ((hu _ (by omega)).2 hn) (fun F hF => ?_)
  have hF' : F = 1 ∨ F = 2 ∨ F = 3 := by simpa using hF
  have hc : F = X ∨ F = Y ∨ F = Z := by omega
  rcases hc with e | e | e
  · exact ⟨x, hx, cx, by rw [e]; exact eX⟩
  · exact ⟨y, hy, cy, by rw [e]; exact eY⟩
  · exact ⟨z, hz, cz, by rw [e]; exact eZ⟩

/-- Two memories, one of both devices, the others of one each. -/
structure Apart7 (lx ly lz : List UInt8) : Prop where
  x : Two7 lx
  y : Two7 ly
  z : Two7 lz
  sa : Same lx ly [0, 1, 2, 3]
  sb : Same lx lz [4, 5, 6]

section
variable {lx ly lz : List UInt8}
theorem Apart7.map0 (h : Apart7 lx ly lz) (p : Nat) (f m : Int) : ioMapC ps2 ly 0 p f m = ioMapC ps2 lx 0 p f m ∧ Apart7 (ioMapL ps2 lx 0 p f m) (ioMapL ps2 ly 0 p f m) lz := by
  obtain ⟨c, s⟩ := h.x.a.map_same h.sa ps2 0 ps2_0 p f m
  obtain ⟨wx, ox⟩ := h.x.a.map_any ps2 0 ps2_0 p f m
  obtain ⟨wy, oy⟩ := h.y.a.map_any ps2 0 ps2_0 p f m
  obtain ⟨tx, _, sx⟩ := h.x.out0 ox wx
  obtain ⟨ty, _, _⟩ := h.y.out0 oy wy
  exact ⟨c, tx, ty, h.z, s, sx.symm.trans h.sb⟩
theorem Apart7.map1 (h : Apart7 lx ly lz) (p : Nat) (f m : Int) : ioMapC ps2 lz 1 p f m = ioMapC ps2 lx 1 p f m ∧ Apart7 (ioMapL ps2 lx 1 p f m) ly (ioMapL ps2 lz 1 p f m) := by
  obtain ⟨c, s⟩ := h.x.b.map_same h.sb ps2 1 ps2_1 p f m
  obtain ⟨wx, ox⟩ := h.x.b.map_any ps2 1 ps2_1 p f m
  obtain ⟨wz, oz⟩ := h.z.b.map_any ps2 1 ps2_1 p f m
  obtain ⟨tx, _, sx⟩ := h.x.out1 ox wx
  obtain ⟨tz, _, _⟩ := h.z.out1 oz wz
  exact ⟨c, tx, h.y, tz, sx.symm.trans h.sa, s⟩
theorem Apart7.unmap0 (h : Apart7 lx ly lz) (p : Nat) : ioUnC ps2 ly 0 p = ioUnC ps2 lx 0 p ∧ Apart7 (ioUnL ps2 lx 0 p) (ioUnL ps2 ly 0 p) lz := by
  obtain ⟨c, s⟩ := h.x.a.unmap_same h.sa ps2 0 ps2_0 p
  obtain ⟨wx, ox⟩ := h.x.a.unmap_any ps2 0 ps2_0 p
  obtain ⟨wy, oy⟩ := h.y.a.unmap_any ps2 0 ps2_0 p
  obtain ⟨tx, _, sx⟩ := h.x.out0 ox wx
  obtain ⟨ty, _, _⟩ := h.y.out0 oy wy
  exact ⟨c, tx, ty, h.z, s, sx.symm.trans h.sb⟩
theorem Apart7.unmap1 (h : Apart7 lx ly lz) (p : Nat) : ioUnC ps2 lz 1 p = ioUnC ps2 lx 1 p ∧ Apart7 (ioUnL ps2 lx 1 p) ly (ioUnL ps2 lz 1 p) := by
  obtain ⟨c, s⟩ := h.x.b.unmap_same h.sb ps2 1 ps2_1 p
  obtain ⟨wx, ox⟩ := h.x.b.unmap_any ps2 1 ps2_1 p
  obtain ⟨wz, oz⟩ := h.z.b.unmap_any ps2 1 ps2_1 p
  obtain ⟨tx, _, sx⟩ := h.x.out1 ox wx
  obtain ⟨tz, _, _⟩ := h.z.out1 oz wz
  exact ⟨c, tx, h.y, tz, sx.symm.trans h.sa, s⟩
theorem Apart7.clear0 (h : Apart7 lx ly lz) : Apart7 (ioClL ps2 lx 0) (ioClL ps2 ly 0) lz := by
  have s := h.x.a.clear_same h.sa ps2 0 ps2_0
  obtain ⟨wx, ox⟩ := h.x.a.clear_any ps2 0 ps2_0
  obtain ⟨wy, oy⟩ := h.y.a.clear_any ps2 0 ps2_0
  obtain ⟨tx, _, sx⟩ := h.x.out0 ox wx
  obtain ⟨ty, _, _⟩ := h.y.out0 oy wy
  exact ⟨tx, ty, h.z, s, sx.symm.trans h.sb⟩
theorem Apart7.clear1 (h : Apart7 lx ly lz) : Apart7 (ioClL ps2 lx 1) ly (ioClL ps2 lz 1) := by
  have s := h.x.b.clear_same h.sb ps2 1 ps2_1
  obtain ⟨wx, ox⟩ := h.x.b.clear_any ps2 1 ps2_1
  obtain ⟨wz, oz⟩ := h.z.b.clear_any ps2 1 ps2_1
  obtain ⟨tx, _, sx⟩ := h.x.out1 ox wx
  obtain ⟨tz, _, _⟩ := h.z.out1 oz wz
  exact ⟨tx, h.y, tz, sx.symm.trans h.sa, s⟩
end

end Go.Proofs.Ytggdbiniklchoaa
