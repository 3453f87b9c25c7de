/-
  Messages, one by one: caissonlaw0.SameMessages, SpoilMessages.
-/
import Derived.Test.YtfkdohnpfjdehaaNcP
import Derived.BigQuiet
namespace Go.Proofs.Ytfkdohnpfjdehaa
open Go.RowKit
set_option linter.unusedVariables false
set_option linter.unusedSimpArgs false
set_option maxRecDepth 100000

theorem ms_at {w : World} {A : Option Addr} {n c : Nat} {q : List Ms} (h : Sl w (.slice A n c) n 2 (mss q)) (hl : q.length = n) (k : Nat) (hk : k < q.length) :
    ∃ b o, A = some ⟨b, o, none⟩ ∧ b < w.heap.size ∧ w.cell? ⟨b, o + k * 2, none⟩ = some (.int .i64 q[k].f) ∧ w.cell? ⟨b, o + k * 2 + 1, none⟩ = some (.string (str q[k].s)) := by
  obtain ⟨A', cap, e, hc, hxl, hA⟩ := h
  simp only [Value.slice.injEq] at e
  obtain ⟨rfl, _, rfl⟩ := e
  obtain ⟨b, o, rfl, hb, hcell⟩ := hA (by omega)
  have g := mss_get q k hk
  refine ⟨b, o, rfl, hb, hcell _ _ g.1, ?_⟩
  rw [Nat.add_assoc]
  exact hcell _ _ g.2

theorem same_msgs (x y : Value) (n : Nat) (q : List Ms) (w : World) (hx : Sl w x n 2 (mss q)) (hy : Sl w y n 2 (mss q)) (hl : q.length = n) (hn : n ≤ maxLen) :
    Calls Try.prog 20 #[x, y] w fun e w' => e = .returned (.bool true) ∧ ∃ k, w' = w.drewN k := by
  obtain ⟨A, c, rfl, hc, _, _⟩ := id hx
  obtain ⟨B, d, rfl, hd, _, _⟩ := id hy
  have HX := Lib.hid hx; have HY := Lib.hid hy; have HL := Lib.hid hl
  unfold maxLen at hn
  clear hx hy hl
  go_enter Try.func20, Try.ntmps20
  go_wp2
  go_loopw [5] (fun i wr => ∃ k q : Nat, k ≤ n ∧ i = .int .i64 k ∧ wr = w.drewN q) (fun i _ => n - (intOf i).toNat)
  case atStart => exact ⟨0, 0, by omega, rfl, rfl⟩
  case round =>
    obtain ⟨k, q', hk, rfl, rfl⟩ := hrel
    by_cases hlt : k < n
    · have hkl : k < q.length := by rw [HL.out]; exact hlt
      obtain ⟨b, o, rfl, -, c0, c1⟩ := ms_at HX.out HL.out k hkl
      obtain ⟨b', o', rfl, -, d0, d1⟩ := ms_at HY.out HL.out k hkl
      generalize q[k] = m at *
      obtain ⟨f, s⟩ := m
      simp only at c0 c1 d0 d1
      generalize str s = s at *
      have e1 : (f == f) = true := by simp
      have e2 : (s.toList == s.toList) = true := by simp
      go_wp2
      go_quiet (fail)
      go_wp2
      go_roundw
      case rel => exact ⟨k + 1, _, by omega, by go_num, rfl⟩
      case measure => simp [intOf]; omega
    · go_wp2
      go_ret
      exact ⟨rfl, _, rfl⟩

/-- The first cell of each message is an int. -/
def Mck (xs : List Value) (n : Nat) : Prop := ∀ j, j < n → ∃ q : Int, xs[j * 2]? = some (.int .i64 q)
theorem Mck.mss (q : List Ms) : Mck (mss q) q.length := fun j hj => ⟨_, (mss_get q j hj).1⟩
theorem Mck.set {xs : List Value} {n : Nat} (h : Mck xs n) (i : Nat) (q : Int) : Mck (xs.set i (.int .i64 q)) n := by
  intro j hj
  rw [List.getElem?_set]
  split
  · obtain ⟨u, hu⟩ := h j hj
    have := (List.getElem?_eq_some_iff.1 hu).1
    rw [if_pos (by omega)]; exact ⟨_, rfl⟩
  · exact h j hj

theorem spoil_msgs (v : Value) (base n : Nat) (xs : List Value) (w : World) (hown : w.ownsRow base 41 2 v n xs) (hi : Mck xs n) (hn : n ≤ 65536) :
    Calls Try.prog 24 #[v] w fun e w' => e = .returned (.tuple #[]) ∧ w.grownBy w' v.ownBlock := by
  obtain ⟨A, c, hv, hc, _, _⟩ := Sl.own hown
  obtain ⟨xs, hxs⟩ : ∃ ys, ys = xs := ⟨_, rfl⟩
  subst hv
  have hob : ∀ g, A = some ⟨g, 0, none⟩ → (Value.slice A n c).ownBlock = some g := by rintro g rfl; rfl
  generalize hrow : (Value.slice A n c).ownBlock = row at *
  have HO := Lib.hid hob; clear hob hrow
  have hg : A = none ∨ ∃ g, A = some ⟨g, 0, none⟩ ∧ base ≤ g := by
    rcases hown.2 with ⟨h, _⟩ | ⟨g, cap, cur, h, hb, _⟩
    · left; simp at h; exact h.1
    · right; simp at h; exact ⟨g, h.1, hb⟩
  have hA0 : A = none → n = 0 := by
    intro e; subst e
    rcases hown.2 with ⟨_, h⟩ | ⟨g, cap, cur, h, hb, _⟩
    · exact h
    · simp at h
  go_enter Try.func24, Try.ntmps24
  go_wp2
  go_loopw [2] (fun i wr => ∃ (k : Nat) (ys : List Value), k ≤ n ∧ i = .int .i64 k ∧ wr.ownsRow base 41 2 (.slice A n c) n ys ∧ Mck ys n ∧ w.grownBy wr row) (fun i _ => n - (intOf i).toNat)
  case atStart => exact ⟨0, _, by omega, rfl, hown, hi, grefl _ _⟩
  case round =>
    obtain ⟨k, ys, hk, rfl, ho, hy, hbel⟩ := hrel
    by_cases hlt : k < n
    · rcases hg with rfl | ⟨g, rfl, hbg⟩
      · have := hA0 rfl; omega
      · obtain ⟨q, hq⟩ := hy k hlt
        have hcell := ho.cellAt (k * 2) (by omega)
        rw [hq] at hcell
        have hfz := ho.frozenAt (k * 2)
        clear hown hA0 hq
        go_wp2
        go_roundw
        case rel => exact ⟨k + 1, _, by omega, by go_num, (ho.stored _ _).1, hy.set _ _, gtrans hbel (by rw [HO.out g rfl]; exact (ho.stored _ _).2)⟩
        case measure => simp [intOf]; omega
    · go_wp2
      go_end0
      exact ⟨rfl, hbel⟩

end Go.Proofs.Ytfkdohnpfjdehaa
