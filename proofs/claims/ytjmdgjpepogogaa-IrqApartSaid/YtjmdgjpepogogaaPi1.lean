/-
  Irqs lent: caissonlaw0.CopyIrqs, LendIrqs, SameIrqs, KeptIrqs, SpoilIrqs.
-/
import Derived.Test.YtjmdgjpepogogaaPnc
import Derived.Test.YtjmdgjpepogogaaPlain2
import Derived.Test.YtjmdgjpepogogaaChecked
import Derived.Laws.AppendOwnNone
import Derived.Lib.SliceRun
namespace Go.Proofs.Ytjmdgjpepogogaa
open Go.RowKit
set_option linter.unusedVariables false
set_option linter.unusedSimpArgs false
set_option maxRecDepth 100000

theorem iqs_ones (l : List Iq) : ∀ u ∈ iqs l, u.oneCell' = true := by
  intro u hu
  obtain ⟨q, _, hq⟩ := List.mem_flatMap.1 hu
  exact iq_one _ _ _ u hq

/-- The marked room. -/
def room : List Iq := [⟨77777, 0, 0⟩, ⟨77777, 0, 0⟩]

/-- A slice that was lent: n windows, the marked room behind them in its capacity. -/
def Lent (B : Nat) (w : World) (v : Value) (n : Nat) (l : List Iq) : Prop :=
  ∃ g cap, v = .slice (some ⟨g, 0, none⟩) n cap ∧ n + 2 ≤ cap ∧ w.ownsRow B 46 3 (.slice (some ⟨g, 0, none⟩) (n + 2) cap) (n + 2) (iqs (l ++ room))

theorem Lent.below {B : Nat} {w w' : World} {v : Value} {n : Nat} {l : List Iq} (h : Lent B w v n l) (hb : Below w.heap.size w w') : Lent B w' v n l := by
  obtain ⟨g, cap, hv, hc, ho⟩ := h
  exact ⟨g, cap, hv, hc, own_below ho hb⟩
theorem Lent.sl {B : Nat} {w : World} {v : Value} {n : Nat} {l : List Iq} (h : Lent B w v n l) (hl : l.length = n) : Sl w v n 3 (iqs l) := by
  obtain ⟨g, cap, rfl, hc, ho⟩ := h
  obtain ⟨A, c, e, _, hxl, hA⟩ := Sl.own ho
  simp only [Value.slice.injEq] at e
  obtain ⟨rfl, _, rfl⟩ := e
  refine ⟨_, cap, rfl, by omega, by rw [iqs_len, hl], fun _ => ?_⟩
  obtain ⟨b, o, e, hb, hcell⟩ := hA (by omega)
  refine ⟨b, o, e, hb, fun j u hu => hcell j u ?_⟩
  rw [iqs_append, List.getElem?_append_left (List.getElem?_eq_some_iff.1 hu).1]
  exact hu

theorem same_iqs (x y : Value) (n : Nat) (l : List Iq) (w : World) (hx : Sl w x n 3 (iqs l)) (hy : Sl w y n 3 (iqs l)) (hl : l.length = n) (hn : n ≤ maxLen) :
    Calls Try.prog 13 #[x, y] w fun e w' => e = .returned (.bool true) ∧ ∃ k, w' = w.drewN k := by
  obtain ⟨A, c, rfl, hc, _, _⟩ := id hx
  obtain ⟨B, d, rfl, hd, _, _⟩ := id hy
  have HX := Lib.hid hx; have HY := Lib.hid hy; have HL := Lib.hid hl
  unfold maxLen at hn
  clear hx hy hl
  go_enter Try.func13, Try.ntmps13
  go_wp2
  go_loopw [5] (fun i wr => ∃ k q : Nat, k ≤ n ∧ i = .int .i64 k ∧ wr = w.drewN q) (fun i _ => n - (intOf i).toNat)
  case atStart => exact ⟨0, 0, by omega, rfl, rfl⟩
  case round =>
    obtain ⟨k, q, hk, rfl, rfl⟩ := hrel
    by_cases hlt : k < n
    · have hkl : k < l.length := by rw [HL.out]; exact hlt
      obtain ⟨b, o, cx, ex, -, -, c0, c1, c2⟩ := iq_at HX.out HL.out k hkl
      obtain ⟨b', o', cy, ey, -, -, d0, d1, d2⟩ := iq_at HY.out HL.out k hkl
      simp only [Value.slice.injEq] at ex ey
      obtain ⟨rfl, -, -⟩ := ex
      obtain ⟨rfl, -, -⟩ := ey
      generalize l[k] = x at *
      obtain ⟨xt, xd, xv⟩ := x
      simp only at c0 c1 c2 d0 d1 d2
      go_wp2
      go_quiet (fail)
      go_wp2
      go_roundw
      case rel => exact ⟨k + 1, _, by omega, by go_num, rfl⟩
      case measure => simp [intOf]; omega
    · go_wp2
      go_ret
      exact ⟨rfl, _, rfl⟩

/-- The first cell of each Irq is an int. -/
def Tck (xs : List Value) (n : Nat) : Prop := ∀ j, j < n → ∃ q : Int, xs[j * 3]? = some (.int .i64 q)
theorem Tck.iqs (l : List Iq) : Tck (iqs l) l.length := fun j hj => ⟨_, (iqs_get l j hj).1⟩
theorem Tck.set {xs : List Value} {n : Nat} (h : Tck xs n) (i : Nat) (q : Int) : Tck (xs.set i (.int .i64 q)) n := by
  intro j hj
  rw [List.getElem?_set]
  split
  · obtain ⟨u, hu⟩ := h j hj
    have := (List.getElem?_eq_some_iff.1 hu).1
    rw [if_pos (by omega)]; exact ⟨_, rfl⟩
  · exact h j hj

theorem spoil_iqs (v : Value) (base n : Nat) (xs : List Value) (w : World) (hown : w.ownsRow base 46 3 v n xs) (hi : Tck xs n) (hn : n ≤ 140737488355328) :
    Calls Try.prog 29 #[v] w fun e w' => e = .returned (.tuple #[]) ∧ w.grownBy w' v.ownBlock := by
  obtain ⟨A, c, hv, hc, _, _⟩ := Sl.own hown
  obtain ⟨xs, hxs⟩ : ∃ ys, ys = xs := ⟨_, rfl⟩
  subst hv
  have hob : ∀ g, A = some ⟨g, 0, none⟩ → (Value.slice A n c).ownBlock = some g := by rintro g rfl; rfl
  generalize hrow : (Value.slice A n c).ownBlock = row at *
  have HO := Lib.hid hob; clear hob hrow
  have hg : A = none ∨ ∃ g, A = some ⟨g, 0, none⟩ ∧ base ≤ g := by
    rcases hown.2 with ⟨h, _⟩ | ⟨g, cap, cur, h, hb, _⟩
    · left; simp at h; exact h.1
    · right; simp at h; exact ⟨g, h.1, hb⟩
  have hA0 : A = none → n = 0 := by
    intro e; subst e
    rcases hown.2 with ⟨_, h⟩ | ⟨g, cap, cur, h, hb, _⟩
    · exact h
    · simp at h
  go_enter Try.func29, Try.ntmps29
  go_wp2
  go_loopw [2] (fun i wr => ∃ (k : Nat) (ys : List Value), k ≤ n ∧ i = .int .i64 k ∧ wr.ownsRow base 46 3 (.slice A n c) n ys ∧ Tck ys n ∧ w.grownBy wr row) (fun i _ => n - (intOf i).toNat)
  case atStart => exact ⟨0, _, by omega, rfl, hown, hi, grefl _ _⟩
  case round =>
    obtain ⟨k, ys, hk, rfl, ho, hy, hbel⟩ := hrel
    by_cases hlt : k < n
    · rcases hg with rfl | ⟨g, rfl, hbg⟩
      · have := hA0 rfl; omega
      · obtain ⟨q, hq⟩ := hy k hlt
        have hcell := ho.cellAt (k * 3) (by omega)
        rw [hq] at hcell
        have hfz := ho.frozenAt (k * 3)
        clear hown hA0 hq
        go_wp2
        go_roundw
        case rel => exact ⟨k + 1, _, by omega, by go_num, (ho.stored _ _).1, hy.set _ _, gtrans hbel (by rw [HO.out g rfl]; exact (ho.stored _ _).2)⟩
        case measure => simp [intOf]; omega
    · go_wp2
      go_end0
      exact ⟨rfl, hbel⟩

end Go.Proofs.Ytjmdgjpepogogaa
