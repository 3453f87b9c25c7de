/-
  Contracts: SameFaults of two slices that read the same; SpoilFaults.
-/
import Derived.Test.YtnlifmeikbgilaaLog0
import Derived.Test.YtnlifmeikbgilaaChecked
namespace Go.Proofs.Ytnlifmeikbgilaa
open Go.RowKit
set_option linter.unusedVariables false
set_option maxRecDepth 100000

theorem fsame_yes (x y : Value) (l : List Fl) (w : World) (hx : Sl w x l.length 5 (fls l)) (hy : Sl w y l.length 5 (fls l)) (hl : l.length ≤ 65536) :
    Calls Try.prog 13 #[x, y] w fun e w' => e = .returned (.bool true) ∧ ∃ n, w.drewN n = w' := by
  obtain ⟨A, c, rfl, hc, _, hA⟩ := hx
  obtain ⟨B, d, rfl, hd, _, hB⟩ := hy
  generalize hn : l.length = n at *
  have HN := Lib.hid hn; clear hn
  go_enter Try.func13, Try.ntmps13
  go_wp2
  go_loopw [5] (fun i wr => ∃ k q : Nat, k ≤ n ∧ i = .int .i64 k ∧ wr = w.drewN q) (fun i _ => n - (intOf i).toNat)
  case atStart => exact ⟨0, 0, by omega, rfl, rfl⟩
  case round =>
    obtain ⟨k, q, hk, rfl, rfl⟩ := hrel
    by_cases hlt : k < n
    · obtain ⟨b, o, rfl, _, gA⟩ := hA (by omega)
      obtain ⟨b', o', rfl, _, gB⟩ := hB (by omega)
      clear hA hB
      have f := fls_get l k (by rw [HN.out]; exact hlt)
      obtain ⟨⟨p1, p2, p3, p4, p5⟩, hp⟩ : ∃ p : Fl, p = (l[k]'(by rw [HN.out]; exact hlt)) := ⟨_, rfl⟩
      rw [← hp] at f
      have a0 := gA _ _ f.1
      have a1 := gA _ _ f.2.1
      have a2 := gA _ _ f.2.2.1
      have a3 := gA _ _ f.2.2.2.1
      have a4 := gA _ _ f.2.2.2.2
      have b0 := gB _ _ f.1
      have b1 := gB _ _ f.2.1
      have b2 := gB _ _ f.2.2.1
      have b3 := gB _ _ f.2.2.2.1
      have b4 := gB _ _ f.2.2.2.2
      simp only [← Nat.add_assoc] at a1 a2 a3 a4 b1 b2 b3 b4
      clear gA gB f hp
      go_wp2
      go_quiet (fail)
      go_wp2
      go_roundw
      case rel => exact ⟨k + 1, _, by omega, by go_num, rfl⟩
      case measure => simp [intOf]; omega
    · go_wp2
      go_ret
      exact ⟨rfl, _, rfl⟩

/-- The first cell of each fault is an int. -/
def Tck (xs : List Value) (n : Nat) : Prop := ∀ j, j < n → ∃ q : Int, xs[j * 5]? = some (.int .i64 q)
theorem Tck.fls (l : List Fl) : Tck (fls l) l.length := fun j hj => ⟨_, (fls_get l j hj).1⟩
theorem Tck.set {xs : List Value} {n : Nat} (h : Tck xs n) (i : Nat) (q : Int) : Tck (xs.set i (.int .i64 q)) n := by
  intro j hj
  rw [List.getElem?_set]
  split
  · obtain ⟨u, hu⟩ := h j hj
    have := (List.getElem?_eq_some_iff.1 hu).1
    rw [if_pos (by omega)]; exact ⟨_, rfl⟩
  · exact h j hj

theorem fspoil_any (v : Value) (base n : Nat) (xs : List Value) (w : World) (hown : w.ownsRow base 34 5 v n xs) (hi : Tck xs n) (hn : n ≤ 65536) :
    Calls Try.prog 14 #[v] w fun e w' => e = .returned (.tuple #[]) ∧ w.grownBy w' v.ownBlock := by
  obtain ⟨A, c, hv, hc, _, _⟩ := Sl.own hown
  obtain ⟨xs, hxs⟩ : ∃ ys, ys = xs := ⟨_, rfl⟩
  subst hv
  have hob : ∀ g, A = some ⟨g, 0, none⟩ → (Value.slice A n c).ownBlock = some g := by rintro g rfl; rfl
  generalize hrow : (Value.slice A n c).ownBlock = row at *
  have HO := Lib.hid hob; clear hob hrow
  have hg : A = none ∨ ∃ g, A = some ⟨g, 0, none⟩ ∧ base ≤ g := by
    rcases hown.2 with ⟨h, _⟩ | ⟨g, cap, cur, h, hb, _⟩
    · left; simp at h; exact h.1
    · right; simp at h; exact ⟨g, h.1, hb⟩
  have hA0 : A = none → n = 0 := by
    intro e; subst e
    rcases hown.2 with ⟨_, h⟩ | ⟨g, cap, cur, h, hb, _⟩
    · exact h
    · simp at h
  go_enter Try.func14, Try.ntmps14
  go_wp2
  go_loopw [2] (fun i wr => ∃ (k : Nat) (ys : List Value), k ≤ n ∧ i = .int .i64 k ∧ wr.ownsRow base 34 5 (.slice A n c) n ys ∧ Tck ys n ∧ w.grownBy wr row) (fun i _ => n - (intOf i).toNat)
  case atStart => exact ⟨0, _, by omega, rfl, hown, hi, grefl _ _⟩
  case round =>
    obtain ⟨k, ys, hk, rfl, ho, hy, hbel⟩ := hrel
    by_cases hlt : k < n
    · rcases hg with rfl | ⟨g, rfl, hbg⟩
      · have := hA0 rfl; omega
      · obtain ⟨q, hq⟩ := hy k hlt
        have hcell := ho.cellAt (k * 5) (by omega)
        rw [hq] at hcell
        have hfz := ho.frozenAt (k * 5)
        clear hown hA0 hq
        go_wp2
        go_roundw
        case rel => exact ⟨k + 1, _, by omega, by go_num, (ho.stored _ _).1, hy.set _ _, gtrans hbel (by rw [HO.out g rfl]; exact (ho.stored _ _).2)⟩
        case measure => simp [intOf]; omega
    · go_wp2
      go_end0
      exact ⟨rfl, hbel⟩

end Go.Proofs.Ytnlifmeikbgilaa
