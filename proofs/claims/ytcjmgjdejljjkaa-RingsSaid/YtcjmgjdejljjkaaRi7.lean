/-
  Numbers lent, a slice of any length: caissonlaw0.CopyInts, LendInts, SameInts, KeptInts. (Written by wip/genlend.py out of Sch6's form.)
-/
import Derived.Test.YtcjmgjdejljjkaaMem
import Derived.BigQuiet
import Derived.Test.YtcjmgjdejljjkaaPlain2
import Derived.Test.YtcjmgjdejljjkaaChecked
import Derived.Laws.AppendOwnNone
import Derived.Lib.SliceRun
namespace Go.Proofs.Ytcjmgjdejljjkaa
open Go.RowKit
set_option linter.unusedVariables false
set_option linter.unusedSimpArgs false
set_option maxRecDepth 100000

theorem infoIn : (Try.prog.info? 3).map (fun i => (i.zero, i.size, i.bytes)) = some (some (.int .i64 0), 1, 8) := by kernel_rfl
theorem ints_one1z (fs : List Int) : ∀ u ∈ ints fs, u.oneCell' = true := by intro u hu; obtain ⟨x, _, rfl⟩ := List.mem_map.1 hu; rfl

theorem copy_intz (u : Value) (n : Nat) (l : List Int) (w : World) (h : Sl w u n 1 (ints l)) (hll : l.length = n) (hn : n * 8 ≤ 140737488351232) (hnil : ∀ m c, u = .slice none m c → c = 0) :
    Calls Try.prog 25 #[u] w fun e w' => ∃ u', e = .returned u' ∧ w'.ownsRow w.heap.size 3 1 u' n (ints l) ∧ Below w.heap.size w w' := by
  obtain ⟨A, cap, rfl, hc, hl, hA⟩ := h
  obtain ⟨i0, hi, hz0, hz1, hz2⟩ := info_parts infoIn
  have HI := Lib.hid hi; have HZ0 := Lib.hid hz0; have HZ1 := Lib.hid hz1; have HZ2 := Lib.hid hz2; have HA := Lib.hid hA
  clear hi hz0 hz1 hz2 hA
  have hmade : (w.alloc (.cells #[] 3)).ownsRow w.heap.size 3 1 (.slice (some ⟨w.heap.size, 0, none⟩) 0 0) 0 [] := World.ownsRow_made w #[] 0 (Nat.le_refl _) (Nat.zero_le _) rfl
  have HM := Lib.hid hmade; clear hmade
  have H1 := Lib.hid (ints_one1z l)
  have fin : ∀ (v' : Value) (w1 : World), (w.alloc (.cells #[] 3)).grownBy w1 (Value.slice (some ⟨w.heap.size, 0, none⟩) 0 0).ownBlock → Below w.heap.size w w1 := fun v' w1 hg => ((Below.refl _ w).alloc (Nat.le_refl _) _).grown hg (by simp) (by intro k hk; simp [Value.ownBlock] at hk; omega)
  have FIN := Lib.hid fin; clear fin
  by_cases h0 : 0 < n
  · obtain ⟨b, o, rfl, hb, hcell⟩ := HA.out h0
    have HC := Lib.hid hcell; clear hcell
    go_enter Try.func25, Try.ntmps25
    go_wp2_with (at_builtin; refine wpList_append_own _ rfl _ _ 23 rfl w.heap.size 3 i0 _ 1 8 Try.underlying23 HI.out HZ0.out HZ1.out HZ2.out rfl (by decide) _ 0 [] rfl HM.out ⟨b, o, none⟩ n cap (ints l) rfl hl ?q2 H1.out ?q4 ?q5 ?q6 ?_)
    case q2 =>
      intro j u hj
      rw [add_none]
      exact (Below.cell ((Below.refl _ w).alloc (Nat.le_refl _) _) (p := ⟨b, o + j, none⟩) hb).trans (HC.out j u hj)
    case q4 => unfold maxLen; omega
    case q5 => omega
    case q6 => simp
    intro v' w1 hown hgrow _
    go_wp2
    go_ret
    exact ⟨_, rfl, by simpa using hown, FIN.out v' w1 hgrow⟩
  · obtain rfl : n = 0 := by omega
    have hfs : ints l = [] := List.length_eq_zero_iff.1 (by simpa using hl)
    rw [hfs]
    cases A with
    | none =>
      have hc0 : cap = 0 := hnil 0 cap rfl
      subst hc0
      go_enter Try.func25, Try.ntmps25
      go_wp2_with (at_builtin; refine wpList_append_own_none rfl _ _ 23 rfl w.heap.size 3 i0 1 Try.underlying23 HI.out _ 0 [] rfl HM.out rfl ?_)
      go_wp2
      go_ret
      exact ⟨_, rfl, HM.out, (Below.refl _ w).alloc (Nat.le_refl _) _⟩
    | some ad =>
      go_enter Try.func25, Try.ntmps25
      go_wp2_with (at_builtin; refine wpList_append_own _ rfl _ _ 23 rfl w.heap.size 3 i0 _ 1 8 Try.underlying23 HI.out HZ0.out HZ1.out HZ2.out rfl (by decide) _ 0 [] rfl HM.out ad 0 cap [] rfl rfl (by intro j u hj; simp at hj) (by intro u hu; cases hu) (by unfold maxLen; omega) (by omega) (by simp) ?_)
      intro v' w1 hown hgrow _
      go_wp2
      go_ret
      exact ⟨_, rfl, by simpa using hown, FIN.out v' w1 hgrow⟩

/-- The marked roomI. -/
def roomI : List Int := [-7777, -8888]

/-- A slice that was lent: n elements, the marked roomI behind them in its capacity. -/
def LentI (B : Nat) (w : World) (v : Value) (n : Nat) (l : List Int) : Prop :=
  ∃ g cap, v = .slice (some ⟨g, 0, none⟩) n cap ∧ n + 2 ≤ cap ∧ w.ownsRow B 3 1 (.slice (some ⟨g, 0, none⟩) (n + 2) cap) (n + 2) (ints (l ++ roomI))

theorem LentI.below {B : Nat} {w w' : World} {v : Value} {n : Nat} {l : List Int} (h : LentI B w v n l) (hb : Below w.heap.size w w') : LentI B w' v n l := by
  obtain ⟨g, cap, hv, hc, ho⟩ := h
  exact ⟨g, cap, hv, hc, own_below ho hb⟩
theorem LentI.sl {B : Nat} {w : World} {v : Value} {n : Nat} {l : List Int} (h : LentI B w v n l) (hl : l.length = n) : Sl w v n 1 (ints l) := by
  obtain ⟨g, cap, rfl, hc, ho⟩ := h
  obtain ⟨A, c, e, _, hxl, hA⟩ := Sl.own ho
  simp only [Value.slice.injEq] at e
  obtain ⟨rfl, _, rfl⟩ := e
  refine ⟨_, cap, rfl, by omega, by rw [ints_len, hl, Nat.mul_one], fun _ => ?_⟩
  obtain ⟨b, o, e, hb, hcell⟩ := hA (by omega)
  refine ⟨b, o, e, hb, fun j u hu => hcell j u ?_⟩
  rw [ints_append, List.getElem?_append_left (List.getElem?_eq_some_iff.1 hu).1]
  exact hu

set_option maxHeartbeats 2000000 in
theorem lend_intz (u : Value) (n : Nat) (l : List Int) (w : World) (h : Sl w u n 1 (ints l)) (hll : l.length = n) (hn : n * 8 ≤ 140737488351232) (hnil : ∀ m c, u = .slice none m c → c = 0) :
    Calls Try.prog 11 #[u] w fun e w' => ∃ u', e = .returned u' ∧ LentI w.heap.size w' u' n l ∧ Below w.heap.size w w' := by
  have HC := Lib.hid (copy_intz u n l w h hll hn hnil)
  obtain ⟨A, cap, rfl, hc, hl, hA⟩ := h
  obtain ⟨i0, hi, hz0, hz1, hz2⟩ := info_parts infoIn
  have HI := Lib.hid hi; have HZ0 := Lib.hid hz0; have HZ1 := Lib.hid hz1; have HZ2 := Lib.hid hz2
  clear hi hz0 hz1 hz2 hA hnil hl
  go_enter Try.func11, Try.ntmps11
  go_wp2_with fail
  refine HC.out.mono ?_
  rintro e w1 ⟨u', rfl, ho, hb⟩
  have H1 := Lib.hid (ints_one1z roomI)
  have hs1 := hb.size
  go_wp2_with (at_builtin; refine wpList_append_own _ rfl _ _ 23 rfl w.heap.size 3 i0 _ 1 8 Try.underlying23 HI.out HZ0.out HZ1.out HZ2.out rfl (by decide) _ n (ints l) rfl (ho.alloc _) ⟨w1.heap.size, 0, none⟩ 2 2 (ints roomI) rfl rfl (by exact row_new w1 (ints roomI) _) H1.out (by unfold maxLen; omega) (by omega) (by simp; omega) ?_)
  intro v' w2 hown hgrow hnn
  have hb2 : Below w.heap.size w w2 := below_one _ ho hs1 hb hgrow
  rw [← ints_append] at hown
  obtain ⟨g, cap', cur, rfl, hcap⟩ : ∃ g cap' cur, v' = .slice (some ⟨g, 0, none⟩) (n + 2) cap' ∧ n + 2 ≤ cap' ∧ cur = 0 := by
    rcases hown.2 with ⟨_, h0⟩ | ⟨g, cap', cur, h1, _, _, h2, _⟩
    · omega
    · exact ⟨g, cap', 0, h1, h2, rfl⟩
  obtain ⟨hcap, rfl⟩ := hcap
  clear hgrow ho hb hnn HC
  have hc0 : (0 : Int) ≤ (n : Int) := by omega
  have hc1 : (n : Int) ≤ (cap' : Int) := by omega
  go_wp2_with fail
  go_ret
  exact ⟨_, rfl, ⟨g, cap', rfl, hcap, hown⟩, hb2⟩

theorem same_intz (x y : Value) (n : Nat) (l : List Int) (w : World) (hx : Sl w x n 1 (ints l)) (hy : Sl w y n 1 (ints l)) (hl : l.length = n) (hn : n ≤ maxLen) :
    Calls Try.prog 31 #[x, y] w fun e w' => e = .returned (.bool true) ∧ ∃ k, w' = w.drewN k := by
  obtain ⟨A, c, rfl, hc, _, hA⟩ := id hx
  obtain ⟨B, d, rfl, hd, _, hB⟩ := id hy
  have HL := Lib.hid hl
  unfold maxLen at hn
  clear hx hy hl
  go_enter Try.func31, Try.ntmps31
  go_wp2
  go_loopw [5] (fun i wr => ∃ k q : Nat, k ≤ n ∧ i = .int .i64 k ∧ wr = w.drewN q) (fun i _ => n - (intOf i).toNat)
  case atStart => exact ⟨0, 0, by omega, rfl, rfl⟩
  case round =>
    obtain ⟨k, q, hk, rfl, rfl⟩ := hrel
    by_cases hlt : k < n
    · have f := ints_get l k (by rw [HL.out]; exact hlt)
      obtain ⟨b, o, rfl, _, gA⟩ := hA (by omega)
      obtain ⟨b', o', rfl, _, gB⟩ := hB (by omega)
      clear hA hB
      generalize l.getD k 0 = p at f
      have a0 := gA _ _ f
      have b0 := gB _ _ f
      clear gA gB f
      go_wp2
      go_quiet (fail)
      go_wp2
      go_roundw
      case rel => exact ⟨k + 1, _, by omega, by go_num, rfl⟩
      case measure => simp [intOf]; omega
    · go_wp2
      go_ret
      exact ⟨rfl, _, rfl⟩

set_option maxHeartbeats 2000000 in
theorem kept_intz (B : Nat) (v u : Value) (n : Nat) (l : List Int) (w : World) (h : LentI B w v n l) (hu : Sl w u n 1 (ints l)) (hl : l.length = n) (hn : n * 8 ≤ 140737488351232) :
    Calls Try.prog 18 #[v, u] w fun e w' => e = .returned (.bool true) ∧ Below w.heap.size w w' := by
  have hs := h.sl hl
  have HSM := Lib.hid (same_intz v u n l w hs hu hl (by unfold maxLen; omega))
  obtain ⟨g, cap, rfl, hc, ho⟩ := h
  obtain ⟨A, d, rfl, hd, _, _⟩ := hu
  obtain ⟨A', c', e, _, hxl, hA⟩ := Sl.own ho
  simp only [Value.slice.injEq] at e
  obtain ⟨rfl, _, rfl⟩ := e
  obtain ⟨b, o, e, hb, hcell⟩ := hA (by omega)
  simp only [Option.some.injEq, Addr.mk.injEq] at e
  obtain ⟨rfl, rfl, _⟩ := e
  have key : ∀ j x, roomI[j]? = some x → w.cell? ⟨g, (n + j), none⟩ = some (.int .i64 x) := by
    intro j x hx
    have := hcell (n + j) (.int .i64 x) (by
      rw [ints_append, List.getElem?_append_right (by rw [ints_len, hl]; omega), ints_len, hl, show n + j - n = j by omega]
      simp [ints, hx])
    simpa using this
  have a0 := key 0 (-7777) rfl
  have b0 := key 1 (-8888) rfl
  rw [Nat.add_zero] at a0
  clear ho hcell hxl key hA hs
  have hc2 : (n : Int) + 2 ≤ (cap : Int) := by omega
  go_enter Try.func18, Try.ntmps18
  go_wp2_with fail
  refine HSM.out.mono ?_
  rintro e w1 ⟨rfl, k, rfl⟩
  have hbb : Below w.heap.size w (w.drewN k) := bdrewN (Below.refl _ _) k
  have q := fun p => show (w.drewN k).cell? p = w.cell? p from rfl
  rw [← q] at a0 b0
  clear q
  generalize w.drewN k = w2 at *
  have i1 : (n : Int) < ((n + 2 : Nat) : Int) := by omega
  have i2 : (n : Int) + 1 < ((n + 2 : Nat) : Int) := by omega
  go_wp2_with fail
  go_ret
  exact ⟨rfl, hbb⟩

end Go.Proofs.Ytcjmgjdejljjkaa
