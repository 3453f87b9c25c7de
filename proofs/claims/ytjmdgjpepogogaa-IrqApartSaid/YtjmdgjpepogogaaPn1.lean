/-
  Contracts of the row's methods: Len, Less, Swap.
-/
import Derived.Test.YtjmdgjpepogogaaPn0
import Derived.Test.YtjmdgjpepogogaaPlain2
import Derived.Test.YtjmdgjpepogogaaChecked
import Derived.StillTailTactics
import Derived.BigRegion
namespace Go.Proofs.Ytjmdgjpepogogaa
open Go.RowKit
set_option linter.unusedVariables false
set_option maxRecDepth 100000

/-- A place's cells, the cells of places. -/
def pl2 (k : Nat) : List Value := [.int .i64 ((k / 8 : Nat) : Int), .int .i64 ((k % 8 : Nat) : Int)]
def pls (l : List Nat) : List Value := l.flatMap pl2
theorem pls_len (l : List Nat) : (pls l).length = l.length * 2 := by
  induction l with
  | nil => rfl
  | cons p l ih => simp only [pls, List.flatMap_cons, List.length_append, List.length_cons] at ih ⊢; rw [ih]; simp [pl2]; omega
theorem pls_append (l m : List Nat) : pls (l ++ m) = pls l ++ pls m := by simp [pls]
theorem pls_one (k : Nat) : pls [k] = pl2 k := by simp [pls]
theorem pls_get (l : List Nat) : ∀ i, i < l.length → (pls l)[i * 2]? = some (.int .i64 ((gd l i / 8 : Nat) : Int)) ∧ (pls l)[i * 2 + 1]? = some (.int .i64 ((gd l i % 8 : Nat) : Int)) := by
  induction l with
  | nil => intro i h; simp at h
  | cons p l ih =>
    intro i h
    have e : pls (p :: l) = pl2 p ++ pls l := by simp [pls]
    match i with
    | 0 => rw [e]; simp [pl2, gd]
    | i + 1 =>
      have := ih i (by simpa using h)
      have hp : (pl2 p).length = 2 := rfl
      rw [e, List.getElem?_append_right (by omega), List.getElem?_append_right (by omega), hp]
      rw [show (i + 1) * 2 - 2 = i * 2 from by omega, show (i + 1) * 2 + 1 - 2 = i * 2 + 1 from by omega]
      simpa [gd] using this

/-- A row: the slice value v reads as the places l, in a block of its own. -/
def RW (w : World) (B : Nat) (v : Value) (l : List Nat) : Prop := w.ownsRow B 111 2 v l.length (pls l)

section
variable {w w' : World} {B : Nat} {v : Value} {l : List Nat}
theorem RW.drewN (h : RW w B v l) (n : Nat) : RW (w.drewN n) B v l := h
theorem RW.slice (h : RW w B v l) (h0 : 0 < l.length) : ∃ g cap, v = .slice (some ⟨g, 0, none⟩) l.length cap ∧ B ≤ g ∧ g < w.heap.size ∧ l.length ≤ cap ∧ cap ≤ maxLen ∧ (∀ i, w.frozen? ⟨g, i, none⟩ = false) ∧ ∀ i, i < l.length → w.cell? ⟨g, i * 2, none⟩ = some (.int .i64 ((gd l i / 8 : Nat) : Int)) ∧ w.cell? ⟨g, i * 2 + 1, none⟩ = some (.int .i64 ((gd l i % 8 : Nat) : Int)) := by
  obtain ⟨hl, ⟨_, hn⟩ | ⟨g, cap, cur, rfl, hb, hg, hnc, hcm, hsz, ht⟩⟩ := h
  · omega
  · refine ⟨g, cap, rfl, hb, (Array.getElem?_eq_some_iff.1 hg).1, hnc, hcm, fun i => by simp [World.frozen?, hg], fun i hi => ?_⟩
    have hx := pls_get l i hi
    rw [cell_of_row w g _ cur _ (0, 0) hg, cell_of_row w g _ cur _ (0, 0) hg]
    rw [← ht, List.getElem?_take, List.getElem?_take, if_pos (by omega), if_pos (by omega)] at hx
    simpa using hx
end

theorem rlen_any (A : Option Addr) (n cap : Nat) (w : World) :
    Calls Try.prog 94 #[.slice A n cap] w fun e w' => e = .returned (.int .i64 n) ∧ w = w' := by
  go_enter Try.func94, Try.ntmps94
  go_wp2
  go_ret
  exact ⟨rfl, rfl⟩

/-- Less: of two places, each within the row. -/
theorem rless_any (g n cap i j a b c d : Nat) (w : World) (hi : i < n) (hj : j < n) (hn : n ≤ maxLen) (h1 : w.cell? ⟨g, i * 2, none⟩ = some (.int .i64 a)) (h2 : w.cell? ⟨g, i * 2 + 1, none⟩ = some (.int .i64 b))
    (h3 : w.cell? ⟨g, j * 2, none⟩ = some (.int .i64 c)) (h4 : w.cell? ⟨g, j * 2 + 1, none⟩ = some (.int .i64 d)) :
    Calls Try.prog 95 #[.slice (some ⟨g, 0, none⟩) n cap, .int .i64 i, .int .i64 j] w fun e w' => e = .returned (.bool (decide (a < c ∨ a = c ∧ b < d))) ∧ ∃ q, w' = w.drewN q := by
  unfold maxLen at hn
  have hfin : ∀ (x : Bool) (p q : Nat), x = decide (a < c ∨ a = c ∧ b < d) → (Ending.returned (.bool x) = .returned (.bool (decide (a < c ∨ a = c ∧ b < d))) ∧ ∃ k, (w.drewN p).drewN q = w.drewN k) := fun x p q h => ⟨by rw [h], p + q, (World.drewN_drewN w p q)⟩
  have HF := Lib.hid hfin
  clear hfin
  by_cases hac : a = c
  · subst hac
    have h5 : ((a : Int) != (a : Int)) = false := by simp
    go_enter Try.func95, Try.ntmps95
    go_wp2_with fail
    go_quiet (fail)
    go_wp2_with fail
    go_quiet (fail)
    go_wp2_with fail
    go_ret
    exact HF.out _ _ _ (by simp)
  · have h5 : ((a : Int) != (c : Int)) = true := by simp; omega
    have HA := Lib.hid hac
    clear hac
    go_enter Try.func95, Try.ntmps95
    go_wp2_with fail
    go_quiet (fail)
    go_wp2_with fail
    go_quiet (fail)
    go_wp2_with fail
    go_ret
    exact HF.out _ _ _ (by have := HA.out; simp [this])

theorem pcode (x y : Nat) : (decide (x / 8 < y / 8 ∨ x / 8 = y / 8 ∧ x % 8 < y % 8)) = decide (x < y) := by
  rw [decide_eq_decide]; omega
theorem rless_row {w : World} {B : Nat} {v : Value} {l : List Nat} (h : RW w B v l) (i j : Nat) (hi : i < l.length) (hj : j < l.length) :
    Calls Try.prog 95 #[v, .int .i64 i, .int .i64 j] w fun e w' => e = .returned (.bool (decide (gd l i < gd l j))) ∧ ∃ q, w' = w.drewN q := by
  obtain ⟨g, cap, rfl, _, _, hc, hm, _, hcell⟩ := h.slice (by omega)
  have := rless_any g l.length cap i j _ _ _ _ w hi hj (by omega) (hcell i hi).1 (hcell i hi).2 (hcell j hj).1 (hcell j hj).2
  rw [pcode] at this
  exact this

theorem rswap_any (g n cap i j a b c d : Nat) (w : World) (hne : i ≠ j) (hi : i < n) (hj : j < n) (hn : n ≤ maxLen) (hg : g < w.heap.size) (h1 : w.cell? ⟨g, i * 2, none⟩ = some (.int .i64 a)) (h2 : w.cell? ⟨g, i * 2 + 1, none⟩ = some (.int .i64 b))
    (h3 : w.cell? ⟨g, j * 2, none⟩ = some (.int .i64 c)) (h4 : w.cell? ⟨g, j * 2 + 1, none⟩ = some (.int .i64 d)) (f1 : w.frozen? ⟨g, i * 2, none⟩ = false) (f2 : w.frozen? ⟨g, i * 2 + 1, none⟩ = false) (f3 : w.frozen? ⟨g, j * 2, none⟩ = false) (f4 : w.frozen? ⟨g, j * 2 + 1, none⟩ = false) :
    Calls Try.prog 96 #[.slice (some ⟨g, 0, none⟩) n cap, .int .i64 i, .int .i64 j] w fun e w' => e = .returned (.tuple #[]) ∧ ∃ q, w' = ((((w.setCell ⟨g, i * 2, none⟩ (.int .i64 c)).setCell ⟨g, i * 2 + 1, none⟩ (.int .i64 d)).setCell ⟨g, j * 2, none⟩ (.int .i64 a)).setCell ⟨g, j * 2 + 1, none⟩ (.int .i64 b)).drewN q := by
  unfold maxLen at hn
  have n1 : ¬ i * 2 = j * 2 := by omega
  have n2 : ¬ i * 2 + 1 = j * 2 := by omega
  have n3 : ¬ i * 2 = j * 2 + 1 := by omega
  have n4 : ¬ j * 2 = i * 2 := by omega
  have n5 : ¬ j * 2 + 1 = i * 2 := by omega
  have n6 : ¬ j * 2 = i * 2 + 1 := by omega
  go_enter Try.func96, Try.ntmps96
  go_wp2_with fail
  go_region
  go_wp2_with fail
  refine bodyPost_end (results_none rfl _ _ _) rfl ?_
  exact ⟨rfl, 1, rfl⟩
theorem rswap_eq (g n cap i a b : Nat) (w : World) (hi : i < n) (hn : n ≤ maxLen) (hg : g < w.heap.size) (h1 : w.cell? ⟨g, i * 2, none⟩ = some (.int .i64 a)) (h2 : w.cell? ⟨g, i * 2 + 1, none⟩ = some (.int .i64 b))
    (f1 : w.frozen? ⟨g, i * 2, none⟩ = false) (f2 : w.frozen? ⟨g, i * 2 + 1, none⟩ = false) :
    Calls Try.prog 96 #[.slice (some ⟨g, 0, none⟩) n cap, .int .i64 i, .int .i64 i] w fun e w' => e = .returned (.tuple #[]) ∧ ∃ q, w' = ((((w.setCell ⟨g, i * 2, none⟩ (.int .i64 a)).setCell ⟨g, i * 2 + 1, none⟩ (.int .i64 b)).setCell ⟨g, i * 2, none⟩ (.int .i64 a)).setCell ⟨g, i * 2 + 1, none⟩ (.int .i64 b)).drewN q := by
  unfold maxLen at hn
  go_enter Try.func96, Try.ntmps96
  go_wp2_with fail
  go_region
  go_wp2_with fail
  refine bodyPost_end (results_none rfl _ _ _) rfl ?_
  exact ⟨rfl, 1, rfl⟩

theorem pls_set (l : List Nat) (k : Nat) : ∀ i, i < l.length → ((pls l).set (i * 2) (.int .i64 ((k / 8 : Nat) : Int))).set (i * 2 + 1) (.int .i64 ((k % 8 : Nat) : Int)) = pls (l.set i k) := by
  induction l with
  | nil => intro i h; simp at h
  | cons p l ih =>
    intro i h
    have e : ∀ p (l : List Nat), pls (p :: l) = pl2 p ++ pls l := fun p l => by simp [pls]
    match i with
    | 0 => simp [e, pl2]
    | i + 1 =>
      have := ih i (by simpa using h)
      have hp : (pl2 p).length = 2 := rfl
      rw [List.set_cons_succ, e, e, List.set_append_right _ _ (by omega), List.set_append_right _ _ (by omega), hp]
      rw [show (i + 1) * 2 - 2 = i * 2 from by omega, show (i + 1) * 2 + 1 - 2 = i * 2 + 1 from by omega, this]
theorem RW.put {w : World} {B : Nat} {v : Value} {l : List Nat} {g : Nat} (h : RW w B v l) (hv : v.ownBlock = some g) (i k : Nat) (hi : i < l.length) : RW ((w.setCell ⟨g, i * 2, none⟩ (.int .i64 ((k / 8 : Nat) : Int))).setCell ⟨g, i * 2 + 1, none⟩ (.int .i64 ((k % 8 : Nat) : Int))) B v (l.set i k) := by
  obtain ⟨hl, ⟨_, hn⟩ | ⟨g', cap, cur, rfl, hb, hg, hnc, hcm, hsz, ht⟩⟩ := h
  · omega
  · have e : g' = g := by simpa [Value.ownBlock] using hv
    subst e
    have b0 : Blk w g' 111 cur.toList := by unfold Blk; rw [hg]
    have b1 := (b0.set (i * 2) (.int .i64 ((k / 8 : Nat) : Int))).set (i * 2 + 1) (.int .i64 ((k % 8 : Nat) : Int))
    have hn' : (l.set i k).length = l.length := List.length_set ..
    unfold RW
    rw [hn']
    refine ⟨by rw [pls_len, hn'], .inr ⟨g', cap, _, rfl, hb, b1, hnc, hcm, by simpa using hsz, ?_⟩⟩
    rw [← pls_set l k i hi, ← ht]
    simp [List.take_set]

/-- Two places of a row written. -/
theorem RW.swap {w : World} {B : Nat} {v : Value} {l : List Nat} {g : Nat} (h : RW w B v l) (hv : v.ownBlock = some g) (i j x y : Nat) (hi : i < l.length) (hj : j < l.length) (c d a b : Value) (hc : c = .int .i64 ((x / 8 : Nat) : Int)) (hd : d = .int .i64 ((x % 8 : Nat) : Int)) (ha : a = .int .i64 ((y / 8 : Nat) : Int)) (hb : b = .int .i64 ((y % 8 : Nat) : Int)) (q : Nat) :
    RW (((((w.setCell ⟨g, i * 2, none⟩ c).setCell ⟨g, i * 2 + 1, none⟩ d).setCell ⟨g, j * 2, none⟩ a).setCell ⟨g, j * 2 + 1, none⟩ b).drewN q) B v ((l.set i x).set j y) ∧ w.grownBy (((((w.setCell ⟨g, i * 2, none⟩ c).setCell ⟨g, i * 2 + 1, none⟩ d).setCell ⟨g, j * 2, none⟩ a).setCell ⟨g, j * 2 + 1, none⟩ b).drewN q) (some g) := by
  subst hc hd ha hb
  refine ⟨?_, ?_⟩
  · have p1 := RW.put h hv i x hi
    have p2 := RW.put p1 hv j y (by rw [List.length_set]; exact hj)
    exact p2
  · have h1 := gset (grefl w (some g)) (p := ⟨g, i * 2, none⟩) (.inl rfl) (.int .i64 ((x / 8 : Nat) : Int))
    have h2 := gset h1 (p := ⟨g, i * 2 + 1, none⟩) (.inl rfl) (.int .i64 ((x % 8 : Nat) : Int))
    have h3 := gset h2 (p := ⟨g, j * 2, none⟩) (.inl rfl) (.int .i64 ((y / 8 : Nat) : Int))
    exact gdrewN (gset h3 (p := ⟨g, j * 2 + 1, none⟩) (.inl rfl) (.int .i64 ((y % 8 : Nat) : Int))) q

theorem rswap_row {w : World} {B : Nat} {v : Value} {l : List Nat} (h : RW w B v l) (i j : Nat) (hi : i < l.length) (hj : j < l.length) :
    Calls Try.prog 96 #[v, .int .i64 i, .int .i64 j] w fun e w' => e = .returned (.tuple #[]) ∧ RW w' B v (swp l i j) ∧ w.grownBy w' v.ownBlock := by
  obtain ⟨g, cap, rfl, _, hlt, hc, hm, hf, hcell⟩ := h.slice (by omega)
  have fin := fun q => RW.swap (g := g) h rfl i j (gd l j) (gd l i) hi hj _ _ _ _ rfl rfl rfl rfl q
  have own : Value.ownBlock (.slice (some ⟨g, 0, none⟩) l.length cap) = some g := rfl
  rw [own]
  by_cases hne : i = j
  · subst hne
    have hs := rswap_eq g l.length cap i _ _ w hi (Nat.le_trans hc hm) hlt (hcell i hi).1 (hcell i hi).2 (hf _) (hf _)
    refine hs.mono ?_
    rintro e w' ⟨he, q, rfl⟩
    exact ⟨he, fin q⟩
  · have hs := rswap_any g l.length cap i j _ _ _ _ w hne hi hj (Nat.le_trans hc hm) hlt (hcell i hi).1 (hcell i hi).2 (hcell j hj).1 (hcell j hj).2 (hf _) (hf _) (hf _) (hf _)
    refine hs.mono ?_
    rintro e w' ⟨he, q, rfl⟩
    exact ⟨he, fin q⟩

end Go.Proofs.Ytjmdgjpepogogaa
