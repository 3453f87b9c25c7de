/-
  Contracts: SameInts of two slices of ints that read as lists; SpoilInts of a row of the call's own.
-/
import Derived.Test.YtggdbiniklchoaaMem
import Derived.Test.YtggdbiniklchoaaChecked
namespace Go.Proofs.Ytggdbiniklchoaa
open Go.RowKit
set_option linter.unusedVariables false
set_option maxRecDepth 100000

theorem spoil_ints (v : Value) (base n : Nat) (xs : List Value) (w : World) (hown : w.ownsRow base 3 1 v n xs) (hi : AllInts xs) (hn : n ≤ 65536) :
    Calls Try.prog 13 #[v] w fun e w' => e = .returned (.tuple #[]) ∧ w.grownBy w' v.ownBlock := by
  obtain ⟨A, c, hv, hc, _, _⟩ := Sl.own hown
  obtain ⟨xs, hxs⟩ : ∃ ys, ys = xs := ⟨_, rfl⟩
  subst hv
  have hob : ∀ g, A = some ⟨g, 0, none⟩ → (Value.slice A n c).ownBlock = some g := by rintro g rfl; rfl
  generalize hrow : (Value.slice A n c).ownBlock = row at *
  have HO := Lib.hid hob; clear hob hrow
  have hg : A = none ∨ ∃ g, A = some ⟨g, 0, none⟩ ∧ base ≤ g := by
    rcases hown.2 with ⟨h, _⟩ | ⟨g, cap, cur, h, hb, _⟩
    · left; simp at h; exact h.1
    · right; simp at h; exact ⟨g, h.1, hb⟩
  have hA0 : A = none → n = 0 := by
    intro e; subst e
    rcases hown.2 with ⟨_, h⟩ | ⟨g, cap, cur, h, hb, _⟩
    · exact h
    · simp at h
  go_enter Try.func13, Try.ntmps13
  go_wp2
  go_loopw [2] (fun i wr => ∃ (k : Nat) (ys : List Value), k ≤ n ∧ i = .int .i64 k ∧ wr.ownsRow base 3 1 (.slice A n c) n ys ∧ AllInts ys ∧ w.grownBy wr row) (fun i _ => n - (intOf i).toNat)
  case atStart => exact ⟨0, _, by omega, rfl, hown, hi, grefl _ _⟩
  case round =>
    obtain ⟨k, ys, hk, rfl, ho, hy, hbel⟩ := hrel
    by_cases hlt : k < n
    · rcases hg with rfl | ⟨g, rfl, hbg⟩
      · have := hA0 rfl; omega
      · obtain ⟨q, hq⟩ := hy k (by rw [ho.1]; omega)
        have hcell := ho.cellAt k (by omega)
        rw [hq] at hcell
        have hfz := ho.frozenAt k
        clear hown hA0 hq
        go_wp2
        go_roundw
        case rel => exact ⟨k + 1, _, by omega, by go_num, (ho.stored _ _).1, hy.set _ _, gtrans hbel (by rw [HO.out g rfl]; exact (ho.stored _ _).2)⟩
        case measure => simp [intOf]; omega
    · go_wp2
      go_end0
      exact ⟨rfl, hbel⟩

end Go.Proofs.Ytggdbiniklchoaa
