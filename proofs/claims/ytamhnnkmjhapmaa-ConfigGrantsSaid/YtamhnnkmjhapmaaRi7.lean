/-
  Numbers lent, a slice of any length: caissonlaw0.CopyInts, LendInts, SameInts, KeptInts. (Written by wip/genlend.py out of Sch6's form.)
-/
import Derived.Test.YtamhnnkmjhapmaaMem
import Derived.BigQuiet
import Derived.Test.YtamhnnkmjhapmaaPlain2
import Derived.Test.YtamhnnkmjhapmaaChecked
import Derived.Laws.AppendOwnNone
import Derived.Lib.SliceRun
namespace Go.Proofs.Ytamhnnkmjhapmaa
open Go.RowKit
set_option linter.unusedVariables false
set_option linter.unusedSimpArgs false
set_option maxRecDepth 100000

theorem infoIn : (Try.prog.info? 3).map (fun i => (i.zero, i.size, i.bytes)) = some (some (.int .i64 0), 1, 8) := by kernel_rfl
theorem ints_one1z (fs : List Int) : ∀ u ∈ ints fs, u.oneCell' = true := by intro u hu; obtain ⟨x, _, rfl⟩ := List.mem_map.1 hu; rfl

/-- The marked roomI. -/
def roomI : List Int := [-7777, -8888]

/-- A slice that was lent: n elements, the marked roomI behind them in its capacity. -/
def LentI (B : Nat) (w : World) (v : Value) (n : Nat) (l : List Int) : Prop :=
  ∃ g cap, v = .slice (some ⟨g, 0, none⟩) n cap ∧ n + 2 ≤ cap ∧ w.ownsRow B 3 1 (.slice (some ⟨g, 0, none⟩) (n + 2) cap) (n + 2) (ints (l ++ roomI))

theorem LentI.below {B : Nat} {w w' : World} {v : Value} {n : Nat} {l : List Int} (h : LentI B w v n l) (hb : Below w.heap.size w w') : LentI B w' v n l := by
  obtain ⟨g, cap, hv, hc, ho⟩ := h
  exact ⟨g, cap, hv, hc, own_below ho hb⟩
theorem LentI.sl {B : Nat} {w : World} {v : Value} {n : Nat} {l : List Int} (h : LentI B w v n l) (hl : l.length = n) : Sl w v n 1 (ints l) := by
  obtain ⟨g, cap, rfl, hc, ho⟩ := h
  obtain ⟨A, c, e, _, hxl, hA⟩ := Sl.own ho
  simp only [Value.slice.injEq] at e
  obtain ⟨rfl, _, rfl⟩ := e
  refine ⟨_, cap, rfl, by omega, by rw [ints_len, hl, Nat.mul_one], fun _ => ?_⟩
  obtain ⟨b, o, e, hb, hcell⟩ := hA (by omega)
  refine ⟨b, o, e, hb, fun j u hu => hcell j u ?_⟩
  rw [ints_append, List.getElem?_append_left (List.getElem?_eq_some_iff.1 hu).1]
  exact hu

theorem same_intz (x y : Value) (n : Nat) (l : List Int) (w : World) (hx : Sl w x n 1 (ints l)) (hy : Sl w y n 1 (ints l)) (hl : l.length = n) (hn : n ≤ maxLen) :
    Calls Try.prog 34 #[x, y] w fun e w' => e = .returned (.bool true) ∧ ∃ k, w' = w.drewN k := by
  obtain ⟨A, c, rfl, hc, _, hA⟩ := id hx
  obtain ⟨B, d, rfl, hd, _, hB⟩ := id hy
  have HL := Lib.hid hl
  unfold maxLen at hn
  clear hx hy hl
  go_enter Try.func34, Try.ntmps34
  go_wp2
  go_loopw [5] (fun i wr => ∃ k q : Nat, k ≤ n ∧ i = .int .i64 k ∧ wr = w.drewN q) (fun i _ => n - (intOf i).toNat)
  case atStart => exact ⟨0, 0, by omega, rfl, rfl⟩
  case round =>
    obtain ⟨k, q, hk, rfl, rfl⟩ := hrel
    by_cases hlt : k < n
    · have f := ints_get l k (by rw [HL.out]; exact hlt)
      obtain ⟨b, o, rfl, _, gA⟩ := hA (by omega)
      obtain ⟨b', o', rfl, _, gB⟩ := hB (by omega)
      clear hA hB
      generalize l.getD k 0 = p at f
      have a0 := gA _ _ f
      have b0 := gB _ _ f
      clear gA gB f
      go_wp2
      go_quiet (fail)
      go_wp2
      go_roundw
      case rel => exact ⟨k + 1, _, by omega, by go_num, rfl⟩
      case measure => simp [intOf]; omega
    · go_wp2
      go_ret
      exact ⟨rfl, _, rfl⟩

end Go.Proofs.Ytamhnnkmjhapmaa
