/-
  Windows lent: caissonlaw0.CopyWindows, LendWindows, SameWindows, KeptWindows.
-/
import Derived.Test.YtamhnnkmjhapmaaSch0
import Derived.Test.YtamhnnkmjhapmaaPlain2
import Derived.Test.YtamhnnkmjhapmaaChecked
import Derived.Laws.AppendOwnNone
import Derived.Lib.SliceRun
namespace Go.Proofs.Ytamhnnkmjhapmaa
open Go.RowKit
set_option linter.unusedVariables false
set_option linter.unusedSimpArgs false
set_option maxRecDepth 100000

theorem infoWin : (Try.prog.info? 58).map (fun i => (i.zero, i.size, i.bytes)) = some (some (.agg #[.int .i64 0, .int .i64 0, .int .i64 0, .int .i64 0]), 4, 32) := by kernel_rfl

theorem ints_one (fs : List Int) : ∀ u ∈ ints fs, u.oneCell' = true := by intro u hu; obtain ⟨x, _, rfl⟩ := List.mem_map.1 hu; rfl

/-- The marked room. -/
def room : List Int := [0, 0, 77777, 0, 0, 0, 77777, 0]

/-- A slice that was lent: n windows, the marked room behind them in its capacity. -/
def Lent (B : Nat) (w : World) (v : Value) (n : Nat) (l : List Win) : Prop :=
  ∃ g cap, v = .slice (some ⟨g, 0, none⟩) n cap ∧ n + 2 ≤ cap ∧ w.ownsRow B 58 4 (.slice (some ⟨g, 0, none⟩) (n + 2) cap) (n + 2) (ints (wins l ++ room))

theorem Lent.below {B : Nat} {w w' : World} {v : Value} {n : Nat} {l : List Win} (h : Lent B w v n l) (hb : Below w.heap.size w w') : Lent B w' v n l := by
  obtain ⟨g, cap, hv, hc, ho⟩ := h
  exact ⟨g, cap, hv, hc, own_below ho hb⟩
theorem Lent.sl {B : Nat} {w : World} {v : Value} {n : Nat} {l : List Win} (h : Lent B w v n l) (hl : l.length = n) : Sl w v n 4 (ints (wins l)) := by
  obtain ⟨g, cap, rfl, hc, ho⟩ := h
  obtain ⟨A, c, e, _, hxl, hA⟩ := Sl.own ho
  simp only [Value.slice.injEq] at e
  obtain ⟨rfl, _, rfl⟩ := e
  refine ⟨_, cap, rfl, by omega, by rw [ints_len, wins_len, hl], fun _ => ?_⟩
  obtain ⟨b, o, e, hb, hcell⟩ := hA (by omega)
  refine ⟨b, o, e, hb, fun j u hu => hcell j u ?_⟩
  rw [ints_append, List.getElem?_append_left (List.getElem?_eq_some_iff.1 hu).1]
  exact hu

theorem same_wins (x y : Value) (n : Nat) (l : List Win) (w : World) (hx : Sl w x n 4 (ints (wins l))) (hy : Sl w y n 4 (ints (wins l))) (hl : l.length = n) (hn : n ≤ maxLen) :
    Calls Try.prog 33 #[x, y] w fun e w' => e = .returned (.bool true) ∧ ∃ k, w' = w.drewN k := by
  obtain ⟨A, c, rfl, hc, _, _⟩ := id hx
  obtain ⟨B, d, rfl, hd, _, _⟩ := id hy
  have HX := Lib.hid hx; have HY := Lib.hid hy; have HL := Lib.hid hl
  unfold maxLen at hn
  clear hx hy hl
  go_enter Try.func33, Try.ntmps33
  go_wp2
  go_loopw [5] (fun i wr => ∃ k q : Nat, k ≤ n ∧ i = .int .i64 k ∧ wr = w.drewN q) (fun i _ => n - (intOf i).toNat)
  case atStart => exact ⟨0, 0, by omega, rfl, rfl⟩
  case round =>
    obtain ⟨k, q, hk, rfl, rfl⟩ := hrel
    by_cases hlt : k < n
    · have hkl : k < l.length := by rw [HL.out]; exact hlt
      obtain ⟨b, o, rfl, -, c0, c1, c2, c3⟩ := wd_at HX.out HL.out k hkl
      obtain ⟨b', o', rfl, -, d0, d1, d2, d3⟩ := wd_at HY.out HL.out k hkl
      generalize l[k] = x at *
      obtain ⟨xp, xs, xl, xd⟩ := x
      simp only at c0 c1 c2 c3 d0 d1 d2 d3
      go_wp2
      go_quiet (fail)
      go_wp2
      go_roundw
      case rel => exact ⟨k + 1, _, by omega, by go_num, rfl⟩
      case measure => simp [intOf]; omega
    · go_wp2
      go_ret
      exact ⟨rfl, _, rfl⟩

end Go.Proofs.Ytamhnnkmjhapmaa
