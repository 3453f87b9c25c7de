/-
  Contracts: SamePieces of two slices that read the same; SpoilPieces.
-/
import Derived.Test.YtcdioceleiolaaaSplit
namespace Go.Proofs.Ytcdioceleiolaaa
open Go.RowKit
set_option linter.unusedVariables false

/-- The slice value v of n elements reads as the cells xs (size cells an element). -/
def Sl (w : World) (v : Value) (n size : Nat) (xs : List Value) : Prop :=
  ∃ A cap, v = .slice A n cap ∧ n ≤ cap ∧ xs.length = n * size ∧ (0 < n → ∃ b o, A = some ⟨b, o, none⟩ ∧ b < w.heap.size ∧ ∀ j u, xs[j]? = some u → w.cell? ⟨b, o + j, none⟩ = some u)

theorem same_yes (x y : Value) (l : List (Nat × Nat × Nat)) (w : World) (hx : Sl w x l.length 3 (flat l)) (hy : Sl w y l.length 3 (flat l)) (hl : l.length ≤ 65536) :
    Calls Try.prog 10 #[x, y] w fun e w' => e = .returned (.bool true) ∧ ∃ n, w.drewN n = w' := by
  obtain ⟨A, c, rfl, hc, _, hA⟩ := hx
  obtain ⟨B, d, rfl, hd, _, hB⟩ := hy
  generalize hn : l.length = n at *
  have HN := Lib.hid hn; clear hn
  go_enter Try.func10, Try.ntmps10
  go_wp2
  go_loopw [5] (fun i wr => ∃ k q : Nat, k ≤ n ∧ i = .int .i64 k ∧ wr = w.drewN q) (fun i _ => n - (intOf i).toNat)
  case atStart => exact ⟨0, 0, by omega, rfl, rfl⟩
  case round =>
    obtain ⟨k, q, hk, rfl, rfl⟩ := hrel
    by_cases hlt : k < n
    · obtain ⟨b, o, rfl, _, gA⟩ := hA (by omega)
      obtain ⟨b', o', rfl, _, gB⟩ := hB (by omega)
      clear hA hB
      have f := flat_get l k (by rw [HN.out]; exact hlt)
      obtain ⟨p1, hp1⟩ : ∃ p : Nat, p = (l[k]'(by rw [HN.out]; exact hlt)).1 := ⟨_, rfl⟩
      obtain ⟨p2, hp2⟩ : ∃ p : Nat, p = (l[k]'(by rw [HN.out]; exact hlt)).2.1 := ⟨_, rfl⟩
      obtain ⟨p3, hp3⟩ : ∃ p : Nat, p = (l[k]'(by rw [HN.out]; exact hlt)).2.2 := ⟨_, rfl⟩
      rw [← hp1, ← hp2, ← hp3] at f
      have a0 := gA _ _ f.1
      have a1 := gA _ _ f.2.1
      have a2 := gA _ _ f.2.2
      have b0 := gB _ _ f.1
      have b1 := gB _ _ f.2.1
      have b2 := gB _ _ f.2.2
      simp only [← Nat.add_assoc] at a1 a2 b1 b2
      clear gA gB f hp1 hp2 hp3
      go_wp2
      go_quiet (fail)
      go_wp2
      go_roundw
      case rel => exact ⟨k + 1, _, by omega, by go_num, rfl⟩
      case measure => simp [intOf]; omega
    · go_wp2
      go_ret
      exact ⟨rfl, _, rfl⟩

theorem Sl.drewN {w : World} {v : Value} {n size : Nat} {xs : List Value} (h : Sl w v n size xs) (k : Nat) : Sl (w.drewN k) v n size xs := h
theorem Sl.below {w w' : World} {v : Value} {n size : Nat} {xs : List Value} (h : Sl w v n size xs) (hb : Below w.heap.size w w') : Sl w' v n size xs := by
  obtain ⟨A, c, rfl, hc, hl, hA⟩ := h
  refine ⟨A, c, rfl, hc, hl, fun hn => ?_⟩
  obtain ⟨b, o, rfl, hlt, hcell⟩ := hA hn
  exact ⟨b, o, rfl, Nat.lt_of_lt_of_le hlt hb.size, fun j u hu => (hb.cell (p := ⟨b, o + j, none⟩) hlt).trans (hcell j u hu)⟩
theorem Sl.own {w : World} {v : Value} {base n size : Nat} {e : TypeId} {xs : List Value} (h : w.ownsRow base e size v n xs) : Sl w v n size xs := by
  obtain ⟨hl, ⟨rfl, rfl⟩ | ⟨g, cap, cur, rfl, hb, hg, hnc, _, hsz, ht⟩⟩ := h
  · exact ⟨none, 0, rfl, Nat.le_refl _, hl, fun h => absurd h (by omega)⟩
  · refine ⟨_, cap, rfl, hnc, hl, fun _ => ⟨g, 0, rfl, ?_, fun j u hu => ?_⟩⟩
    · rcases Nat.lt_or_ge g w.heap.size with h | h
      · exact h
      · rw [Array.getElem?_eq_none h] at hg; cases hg
    · rw [cell_of_row w g (0 + j) cur e (0, 0) hg, ← ht] at *
      rw [List.getElem?_take] at hu
      split at hu
      · simpa using hu
      · cases hu

/-- All cells are ints. -/
def AllInts (xs : List Value) : Prop := ∀ j, j < xs.length → ∃ q : Int, xs[j]? = some (.int .i64 q)

theorem AllInts.flat (l : List (Nat × Nat × Nat)) : AllInts (flat l) := by
  intro j hj
  have hl := flat_len l
  have f := flat_get l (j / 3) (by omega)
  have e : j = j / 3 * 3 + j % 3 := by omega
  have h3 : j % 3 = 0 ∨ j % 3 = 1 ∨ j % 3 = 2 := by omega
  rcases h3 with h | h | h
  · exact ⟨_, by rw [e, h]; exact f.1⟩
  · exact ⟨_, by rw [e, h]; exact f.2.1⟩
  · exact ⟨_, by rw [e, h]; exact f.2.2⟩

theorem AllInts.set {xs : List Value} (h : AllInts xs) (i : Nat) (q : Int) : AllInts (xs.set i (.int .i64 q)) := by
  intro j hj
  rw [List.getElem?_set]
  split
  · rw [if_pos (by simp at hj; omega)]; exact ⟨_, rfl⟩
  · exact h j (by simpa using hj)

theorem spoil_any (v : Value) (base n : Nat) (xs : List Value) (w : World) (hown : w.ownsRow base 35 3 v n xs) (hi : AllInts xs) (hn : n ≤ 65536) :
    Calls Try.prog 14 #[v] w fun e w' => e = .returned (.tuple #[]) ∧ w.grownBy w' v.ownBlock := by
  obtain ⟨A, c, hv, hc, _, _⟩ := Sl.own hown
  obtain ⟨xs, hxs⟩ : ∃ ys, ys = xs := ⟨_, rfl⟩
  subst hv
  have hob : ∀ g, A = some ⟨g, 0, none⟩ → (Value.slice A n c).ownBlock = some g := by rintro g rfl; rfl
  generalize hrow : (Value.slice A n c).ownBlock = row at *
  have HO := Lib.hid hob; clear hob hrow
  have hg : A = none ∨ ∃ g, A = some ⟨g, 0, none⟩ ∧ base ≤ g := by
    rcases hown.2 with ⟨h, _⟩ | ⟨g, cap, cur, h, hb, _⟩
    · left; simp at h; exact h.1
    · right; simp at h; exact ⟨g, h.1, hb⟩
  have hA0 : A = none → n = 0 := by
    intro e; subst e
    rcases hown.2 with ⟨_, h⟩ | ⟨g, cap, cur, h, hb, _⟩
    · exact h
    · simp at h
  go_enter Try.func14, Try.ntmps14
  go_wp2
  go_loopw [2] (fun i wr => ∃ (k : Nat) (ys : List Value), k ≤ n ∧ i = .int .i64 k ∧ wr.ownsRow base 35 3 (.slice A n c) n ys ∧ AllInts ys ∧ w.grownBy wr row) (fun i _ => n - (intOf i).toNat)
  case atStart => exact ⟨0, _, by omega, rfl, hown, hi, grefl _ _⟩
  case round =>
    obtain ⟨k, ys, hk, rfl, ho, hy, hbel⟩ := hrel
    by_cases hlt : k < n
    · rcases hg with rfl | ⟨g, rfl, hbg⟩
      · have := hA0 rfl; omega
      · obtain ⟨q, hq⟩ := hy (k * 3 + 2) (by rw [ho.1]; omega)
        have hcell := ho.cellAt (k * 3 + 2) (by omega)
        rw [hq] at hcell
        have hfz := ho.frozenAt (k * 3 + 2)
        clear hown hA0 hq
        go_wp2
        go_roundw
        case rel => exact ⟨k + 1, _, by omega, by go_num, (ho.stored _ _).1, hy.set _ _, gtrans hbel (by rw [HO.out g rfl]; exact (ho.stored _ _).2)⟩
        case measure => simp [intOf]; omega
    · go_wp2
      go_end0
      exact ⟨rfl, hbel⟩

end Go.Proofs.Ytcdioceleiolaaa
