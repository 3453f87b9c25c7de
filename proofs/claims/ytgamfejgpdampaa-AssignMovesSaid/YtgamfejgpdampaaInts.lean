/-
  Contracts: SameInts of two slices of ints that read as lists; SpoilInts of a row of the call's own.
-/
import Derived.Test.YtgamfejgpdampaaMem
import Derived.Test.YtgamfejgpdampaaChecked
namespace Go.Proofs.Ytgamfejgpdampaa
open Go.RowKit
set_option linter.unusedVariables false
set_option maxRecDepth 100000

theorem same_ints (x y : Value) (l : List Int) (w : World) (hx : Sl w x l.length 1 (ints l)) (hy : Sl w y l.length 1 (ints l)) (hl : l.length ≤ 65536) :
    Calls Try.prog 14 #[x, y] w fun e w' => e = .returned (.bool true) ∧ ∃ n, w.drewN n = w' := by
  obtain ⟨A, c, rfl, hc, _, hA⟩ := hx
  obtain ⟨B, d, rfl, hd, _, hB⟩ := hy
  generalize hn : l.length = n at *
  have HN := Lib.hid hn; clear hn
  go_enter Try.func14, Try.ntmps14
  go_wp2
  go_loopw [5] (fun i wr => ∃ k q : Nat, k ≤ n ∧ i = .int .i64 k ∧ wr = w.drewN q) (fun i _ => n - (intOf i).toNat)
  case atStart => exact ⟨0, 0, by omega, rfl, rfl⟩
  case round =>
    obtain ⟨k, q, hk, rfl, rfl⟩ := hrel
    by_cases hlt : k < n
    · obtain ⟨b, o, rfl, _, gA⟩ := hA (by omega)
      obtain ⟨b', o', rfl, _, gB⟩ := hB (by omega)
      clear hA hB
      have f := ints_get l k (by rw [HN.out]; exact hlt)
      generalize l.getD k 0 = p at f
      have a0 := gA _ _ f
      have b0 := gB _ _ f
      clear gA gB f
      go_wp2
      go_quiet (fail)
      go_wp2
      go_roundw
      case rel => exact ⟨k + 1, _, by omega, by go_num, rfl⟩
      case measure => simp [intOf]; omega
    · go_wp2
      go_ret
      exact ⟨rfl, _, rfl⟩

theorem spoil_ints (v : Value) (base n : Nat) (xs : List Value) (w : World) (hown : w.ownsRow base 3 1 v n xs) (hi : AllInts xs) (hn : n ≤ 65536) :
    Calls Try.prog 16 #[v] w fun e w' => e = .returned (.tuple #[]) ∧ w.grownBy w' v.ownBlock := by
  obtain ⟨A, c, hv, hc, _, _⟩ := Sl.own hown
  obtain ⟨xs, hxs⟩ : ∃ ys, ys = xs := ⟨_, rfl⟩
  subst hv
  have hob : ∀ g, A = some ⟨g, 0, none⟩ → (Value.slice A n c).ownBlock = some g := by rintro g rfl; rfl
  generalize hrow : (Value.slice A n c).ownBlock = row at *
  have HO := Lib.hid hob; clear hob hrow
  have hg : A = none ∨ ∃ g, A = some ⟨g, 0, none⟩ ∧ base ≤ g := by
    rcases hown.2 with ⟨h, _⟩ | ⟨g, cap, cur, h, hb, _⟩
    · left; simp at h; exact h.1
    · right; simp at h; exact ⟨g, h.1, hb⟩
  have hA0 : A = none → n = 0 := by
    intro e; subst e
    rcases hown.2 with ⟨_, h⟩ | ⟨g, cap, cur, h, hb, _⟩
    · exact h
    · simp at h
  go_enter Try.func16, Try.ntmps16
  go_wp2
  go_loopw [2] (fun i wr => ∃ (k : Nat) (ys : List Value), k ≤ n ∧ i = .int .i64 k ∧ wr.ownsRow base 3 1 (.slice A n c) n ys ∧ AllInts ys ∧ w.grownBy wr row) (fun i _ => n - (intOf i).toNat)
  case atStart => exact ⟨0, _, by omega, rfl, hown, hi, grefl _ _⟩
  case round =>
    obtain ⟨k, ys, hk, rfl, ho, hy, hbel⟩ := hrel
    by_cases hlt : k < n
    · rcases hg with rfl | ⟨g, rfl, hbg⟩
      · have := hA0 rfl; omega
      · obtain ⟨q, hq⟩ := hy k (by rw [ho.1]; omega)
        have hcell := ho.cellAt k (by omega)
        rw [hq] at hcell
        have hfz := ho.frozenAt k
        clear hown hA0 hq
        go_wp2
        go_roundw
        case rel => exact ⟨k + 1, _, by omega, by go_num, (ho.stored _ _).1, hy.set _ _, gtrans hbel (by rw [HO.out g rfl]; exact (ho.stored _ _).2)⟩
        case measure => simp [intOf]; omega
    · go_wp2
      go_end0
      exact ⟨rfl, hbel⟩

end Go.Proofs.Ytgamfejgpdampaa
