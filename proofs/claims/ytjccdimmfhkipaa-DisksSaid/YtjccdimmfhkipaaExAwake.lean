/-
  Layer 18's awake; contracts whose answers are known; slices of parts that were just made.
-/
import Derived.Test.YtjccdimmfhkipaaEx2
import Derived.Test.YtjccdimmfhkipaaNum
namespace Go.Proofs.Ytjccdimmfhkipaa
open Go.RowKit
set_option linter.unusedVariables false
set_option linter.unusedSimpArgs false
set_option maxRecDepth 100000

theorem extmay_is (v : Value) (ps : List (Int × Int)) (s : Int) (w : World) (h : PtS w v ps) (B : Bool) (hB : extB ps s = B) :
    Calls Try.prog 26 #[v, .int .i64 s] w fun e w' => e = .returned (.bool B) ∧ Below w.heap.size w w' := by
  subst hB; exact extmay_any v ps s w h
theorem to_is (v : Value) (ps : List (Int × Int)) (part lba n : Int) (w : World) (h : PtS w v ps) (A E : Int) (hA : toC ps part lba n = (A, E)) :
    Calls Try.prog 37 #[v, .int .i64 part, .int .i64 lba, .int .i64 n] w fun e w' => e = .returned (.tuple #[.int .i64 A, .int .i64 E]) ∧ Below w.heap.size w w' := by
  have := to_any v ps part lba n w h
  rw [hA] at this
  exact this

/-- The cells of parts that hold sectors alone. -/
def zpc (p : Int × Int) : List Value := [.int .i64 0, .int .i64 0, .slice none 0 0, .int .i64 p.1, .int .i64 p.2]
def zpl (ps : List (Int × Int)) : List Value := ps.flatMap zpc
theorem zpl_len (ps : List (Int × Int)) : (zpl ps).length = ps.length * 5 := by
  induction ps with
  | nil => rfl
  | cons x L ih => simp only [zpl, List.flatMap_cons, List.length_append, List.length_cons] at ih ⊢; rw [ih]; simp [zpc]; omega
theorem zpl_append (L M : List (Int × Int)) : zpl (L ++ M) = zpl L ++ zpl M := by simp [zpl, List.flatMap_append]
theorem zpl_one (x : Int × Int) : zpl [x] = zpc x := by simp [zpl]
theorem zpl_get (L : List (Int × Int)) : ∀ i, i < L.length → (zpl L)[i * 5]? = some (.int .i64 0) ∧ (zpl L)[i * 5 + 1]? = some (.int .i64 0) ∧ (zpl L)[i * 5 + 2]? = some (.slice none 0 0) ∧ (zpl L)[i * 5 + 3]? = some (.int .i64 (L.getD i (0, 0)).1) ∧ (zpl L)[i * 5 + 4]? = some (.int .i64 (L.getD i (0, 0)).2) := by
  induction L with
  | nil => intro i h; simp at h
  | cons p L ih =>
    intro i h
    have e : zpl (p :: L) = zpc p ++ zpl L := by simp [zpl]
    match i with
    | 0 => rw [e]; simp [zpc]
    | i + 1 =>
      have := ih i (by simpa using h)
      have hp : (zpc p).length = 5 := rfl
      rw [e, List.getElem?_append_right (by omega), List.getElem?_append_right (by omega), List.getElem?_append_right (by omega), List.getElem?_append_right (by omega), List.getElem?_append_right (by omega), hp]
      rw [show (i + 1) * 5 - 5 = i * 5 by omega, show (i + 1) * 5 + 1 - 5 = i * 5 + 1 by omega, show (i + 1) * 5 + 2 - 5 = i * 5 + 2 by omega, show (i + 1) * 5 + 3 - 5 = i * 5 + 3 by omega, show (i + 1) * 5 + 4 - 5 = i * 5 + 4 by omega]
      simpa using this
theorem PtS.of_sl {w : World} {v : Value} {ps : List (Int × Int)} {n : Nat} (h : Sl w v n 5 (zpl ps)) (hn : ps.length = n) (hm : n ≤ maxLen) : PtS w v ps := by
  obtain ⟨A, c, rfl, hc, hl, hA⟩ := h
  subst hn
  refine ⟨A, c, rfl, hm, fun h0 => ?_⟩
  obtain ⟨b, o, e, hlt, hcell⟩ := hA h0
  refine ⟨b, o, e, hlt, fun i hi => ?_⟩
  obtain ⟨h0, h1, h2, h3, h4⟩ := zpl_get ps i hi
  have g1 := hcell _ _ h1; have g2 := hcell _ _ h2; have g3 := hcell _ _ h3; have g4 := hcell _ _ h4
  simp only [← Nat.add_assoc] at g1 g2 g3 g4
  exact ⟨_, _, _, _, _, hcell _ _ h0, g1, g2, g3, g4⟩
theorem PtS.lit (w : World) (ps : List (Int × Int)) (t : TypeId) (hm : ps.length ≤ maxLen) : PtS (w.alloc (.cells (zpl ps).toArray t)) (.slice (some ⟨w.heap.size, 0, none⟩) ps.length ps.length) ps :=
  PtS.of_sl (Sl.lit w (zpl ps) ps.length 5 t (zpl_len ps)) rfl hm
theorem PtS.of_blk {w : World} {g n : Nat} {t : TypeId} {ps : List (Int × Int)} (h : Blk w g t (zpl ps)) (hn : ps.length = n) (hm : n ≤ maxLen) : PtS w (.slice (some ⟨g, 0, none⟩) n n) ps :=
  PtS.of_sl ⟨_, n, rfl, Nat.le_refl _, by rw [zpl_len, hn], fun _ => ⟨g, 0, rfl, h.lt, fun j u hu => by rw [h.cell, Nat.zero_add]; exact hu⟩⟩ hn hm

end Go.Proofs.Ytjccdimmfhkipaa
