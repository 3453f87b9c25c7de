/-
  Labels lent: caissonlaw0.CopyLabels, LendLabels, SameLabels, KeptLabels, SpoilLabels. (Written by wip/genlend.py out of Sch6's form.)
-/
import Derived.Test.YtfkdohnpfjdehaaLbs
import Derived.BigQuiet
import Derived.Test.YtfkdohnpfjdehaaPlain2
import Derived.Test.YtfkdohnpfjdehaaChecked
import Derived.Laws.AppendOwnNone
import Derived.Lib.SliceRun
namespace Go.Proofs.Ytfkdohnpfjdehaa
open Go.RowKit
set_option linter.unusedVariables false
set_option linter.unusedSimpArgs false
set_option maxRecDepth 100000

theorem infoLb : (Try.prog.info? 54).map (fun i => (i.zero, i.size, i.bytes)) = some (some (.agg #[.int .i64 0, .int .i64 0]), 2, 16) := by kernel_rfl
theorem ints_oneL (fs : List Int) : ∀ u ∈ ints fs, u.oneCell' = true := by intro u hu; obtain ⟨x, _, rfl⟩ := List.mem_map.1 hu; rfl

theorem copy_labels (u : Value) (n : Nat) (l : List (Int × Int)) (w : World) (h : Sl w u n 2 (ints (lbs l))) (hll : l.length = n) (hn : n * 16 ≤ 140737488351232) (hnil : ∀ m c, u = .slice none m c → c = 0) :
    Calls Try.prog 26 #[u] w fun e w' => ∃ u', e = .returned u' ∧ w'.ownsRow w.heap.size 54 2 u' n (ints (lbs l)) ∧ Below w.heap.size w w' := by
  obtain ⟨A, cap, rfl, hc, hl, hA⟩ := h
  obtain ⟨i0, hi, hz0, hz1, hz2⟩ := info_parts infoLb
  have HI := Lib.hid hi; have HZ0 := Lib.hid hz0; have HZ1 := Lib.hid hz1; have HZ2 := Lib.hid hz2; have HA := Lib.hid hA
  clear hi hz0 hz1 hz2 hA
  have hmade : (w.alloc (.cells #[] 54)).ownsRow w.heap.size 54 2 (.slice (some ⟨w.heap.size, 0, none⟩) 0 0) 0 [] := World.ownsRow_made w #[] 0 (Nat.le_refl _) (Nat.zero_le _) rfl
  have HM := Lib.hid hmade; clear hmade
  have H1 := Lib.hid (ints_oneL (lbs l))
  have fin : ∀ (v' : Value) (w1 : World), (w.alloc (.cells #[] 54)).grownBy w1 (Value.slice (some ⟨w.heap.size, 0, none⟩) 0 0).ownBlock → Below w.heap.size w w1 := fun v' w1 hg => ((Below.refl _ w).alloc (Nat.le_refl _) _).grown hg (by simp) (by intro k hk; simp [Value.ownBlock] at hk; omega)
  have FIN := Lib.hid fin; clear fin
  by_cases h0 : 0 < n
  · obtain ⟨b, o, rfl, hb, hcell⟩ := HA.out h0
    have HC := Lib.hid hcell; clear hcell
    go_enter Try.func26, Try.ntmps26
    go_wp2_with (at_builtin; refine wpList_append_own _ rfl _ _ 22 rfl w.heap.size 54 i0 _ 2 16 Try.underlying22 HI.out HZ0.out HZ1.out HZ2.out rfl (by decide) _ 0 [] rfl HM.out ⟨b, o, none⟩ n cap (ints (lbs l)) rfl hl ?q2 H1.out ?q4 ?q5 ?q6 ?_)
    case q2 =>
      intro j u hj
      rw [add_none]
      exact (Below.cell ((Below.refl _ w).alloc (Nat.le_refl _) _) (p := ⟨b, o + j, none⟩) hb).trans (HC.out j u hj)
    case q4 => unfold maxLen; omega
    case q5 => omega
    case q6 => simp
    intro v' w1 hown hgrow _
    go_wp2
    go_ret
    exact ⟨_, rfl, by simpa using hown, FIN.out v' w1 hgrow⟩
  · obtain rfl : n = 0 := by omega
    have hfs : ints (lbs l) = [] := List.length_eq_zero_iff.1 (by simpa using hl)
    rw [hfs]
    cases A with
    | none =>
      have hc0 : cap = 0 := hnil 0 cap rfl
      subst hc0
      go_enter Try.func26, Try.ntmps26
      go_wp2_with (at_builtin; refine wpList_append_own_none rfl _ _ 22 rfl w.heap.size 54 i0 2 Try.underlying22 HI.out _ 0 [] rfl HM.out rfl ?_)
      go_wp2
      go_ret
      exact ⟨_, rfl, HM.out, (Below.refl _ w).alloc (Nat.le_refl _) _⟩
    | some ad =>
      go_enter Try.func26, Try.ntmps26
      go_wp2_with (at_builtin; refine wpList_append_own _ rfl _ _ 22 rfl w.heap.size 54 i0 _ 2 16 Try.underlying22 HI.out HZ0.out HZ1.out HZ2.out rfl (by decide) _ 0 [] rfl HM.out ad 0 cap [] rfl rfl (by intro j u hj; simp at hj) (by intro u hu; cases hu) (by unfold maxLen; omega) (by omega) (by simp) ?_)
      intro v' w1 hown hgrow _
      go_wp2
      go_ret
      exact ⟨_, rfl, by simpa using hown, FIN.out v' w1 hgrow⟩

/-- The marked roomB. -/
def roomB : List Int := [0, 77777, 0, 77777]

/-- A slice that was lent: n elements, the marked roomB behind them in its capacity. -/
def LentB (B : Nat) (w : World) (v : Value) (n : Nat) (l : List (Int × Int)) : Prop :=
  ∃ g cap, v = .slice (some ⟨g, 0, none⟩) n cap ∧ n + 2 ≤ cap ∧ w.ownsRow B 54 2 (.slice (some ⟨g, 0, none⟩) (n + 2) cap) (n + 2) (ints (lbs l ++ roomB))

theorem LentB.below {B : Nat} {w w' : World} {v : Value} {n : Nat} {l : List (Int × Int)} (h : LentB B w v n l) (hb : Below w.heap.size w w') : LentB B w' v n l := by
  obtain ⟨g, cap, hv, hc, ho⟩ := h
  exact ⟨g, cap, hv, hc, own_below ho hb⟩
theorem LentB.sl {B : Nat} {w : World} {v : Value} {n : Nat} {l : List (Int × Int)} (h : LentB B w v n l) (hl : l.length = n) : Sl w v n 2 (ints (lbs l)) := by
  obtain ⟨g, cap, rfl, hc, ho⟩ := h
  obtain ⟨A, c, e, _, hxl, hA⟩ := Sl.own ho
  simp only [Value.slice.injEq] at e
  obtain ⟨rfl, _, rfl⟩ := e
  refine ⟨_, cap, rfl, by omega, by rw [ints_len, lbs_len, hl], fun _ => ?_⟩
  obtain ⟨b, o, e, hb, hcell⟩ := hA (by omega)
  refine ⟨b, o, e, hb, fun j u hu => hcell j u ?_⟩
  rw [ints_append, List.getElem?_append_left (List.getElem?_eq_some_iff.1 hu).1]
  exact hu

set_option maxHeartbeats 2000000 in
theorem lend_labels (u : Value) (n : Nat) (l : List (Int × Int)) (w : World) (h : Sl w u n 2 (ints (lbs l))) (hll : l.length = n) (hn : n * 16 ≤ 140737488351232) (hnil : ∀ m c, u = .slice none m c → c = 0) :
    Calls Try.prog 8 #[u] w fun e w' => ∃ u', e = .returned u' ∧ LentB w.heap.size w' u' n l ∧ Below w.heap.size w w' := by
  have HC := Lib.hid (copy_labels u n l w h hll hn hnil)
  obtain ⟨A, cap, rfl, hc, hl, hA⟩ := h
  obtain ⟨i0, hi, hz0, hz1, hz2⟩ := info_parts infoLb
  have HI := Lib.hid hi; have HZ0 := Lib.hid hz0; have HZ1 := Lib.hid hz1; have HZ2 := Lib.hid hz2
  clear hi hz0 hz1 hz2 hA hnil hl
  go_enter Try.func8, Try.ntmps8
  go_wp2_with fail
  refine HC.out.mono ?_
  rintro e w1 ⟨u', rfl, ho, hb⟩
  have H1 := Lib.hid (ints_oneL roomB)
  have hs1 := hb.size
  go_wp2_with (at_builtin; refine wpList_append_own _ rfl _ _ 22 rfl w.heap.size 54 i0 _ 2 16 Try.underlying22 HI.out HZ0.out HZ1.out HZ2.out rfl (by decide) _ n (ints (lbs l)) rfl (ho.alloc _) ⟨w1.heap.size, 0, none⟩ 2 2 (ints roomB) rfl rfl (by exact row_new w1 (ints roomB) _) H1.out (by unfold maxLen; omega) (by omega) (by simp; omega) ?_)
  intro v' w2 hown hgrow hnn
  have hb2 : Below w.heap.size w w2 := below_one _ ho hs1 hb hgrow
  rw [← ints_append] at hown
  obtain ⟨g, cap', cur, rfl, hcap⟩ : ∃ g cap' cur, v' = .slice (some ⟨g, 0, none⟩) (n + 2) cap' ∧ n + 2 ≤ cap' ∧ cur = 0 := by
    rcases hown.2 with ⟨_, h0⟩ | ⟨g, cap', cur, h1, _, _, h2, _⟩
    · omega
    · exact ⟨g, cap', 0, h1, h2, rfl⟩
  obtain ⟨hcap, rfl⟩ := hcap
  clear hgrow ho hb hnn HC
  have hc0 : (0 : Int) ≤ (n : Int) := by omega
  have hc1 : (n : Int) ≤ (cap' : Int) := by omega
  go_wp2_with fail
  go_ret
  exact ⟨_, rfl, ⟨g, cap', rfl, hcap, hown⟩, hb2⟩

theorem same_labels (x y : Value) (n : Nat) (l : List (Int × Int)) (w : World) (hx : Sl w x n 2 (ints (lbs l))) (hy : Sl w y n 2 (ints (lbs l))) (hl : l.length = n) (hn : n ≤ maxLen) :
    Calls Try.prog 29 #[x, y] w fun e w' => e = .returned (.bool true) ∧ ∃ k, w' = w.drewN k := by
  obtain ⟨A, c, rfl, hc, _, _⟩ := id hx
  obtain ⟨B, d, rfl, hd, _, _⟩ := id hy
  have HX := Lib.hid hx; have HY := Lib.hid hy; have HL := Lib.hid hl
  unfold maxLen at hn
  clear hx hy hl
  go_enter Try.func29, Try.ntmps29
  go_wp2
  go_loopw [5] (fun i wr => ∃ k q : Nat, k ≤ n ∧ i = .int .i64 k ∧ wr = w.drewN q) (fun i _ => n - (intOf i).toNat)
  case atStart => exact ⟨0, 0, by omega, rfl, rfl⟩
  case round =>
    obtain ⟨k, q, hk, rfl, rfl⟩ := hrel
    by_cases hlt : k < n
    · have hkl : k < l.length := by rw [HL.out]; exact hlt
      obtain ⟨b, o, rfl, -, c0, c1⟩ := lb_at HX.out HL.out k hkl
      obtain ⟨b', o', rfl, -, d0, d1⟩ := lb_at HY.out HL.out k hkl
      generalize l[k] = x at *
      obtain ⟨xo, xx⟩ := x
      simp only at c0 c1 d0 d1
      go_wp2
      go_quiet (fail)
      go_wp2
      go_roundw
      case rel => exact ⟨k + 1, _, by omega, by go_num, rfl⟩
      case measure => simp [intOf]; omega
    · go_wp2
      go_ret
      exact ⟨rfl, _, rfl⟩

set_option maxHeartbeats 2000000 in
theorem kept_labels (B : Nat) (v u : Value) (n : Nat) (l : List (Int × Int)) (w : World) (h : LentB B w v n l) (hu : Sl w u n 2 (ints (lbs l))) (hl : l.length = n) (hn : n * 16 ≤ 140737488351232) :
    Calls Try.prog 13 #[v, u] w fun e w' => e = .returned (.bool true) ∧ Below w.heap.size w w' := by
  have hs := h.sl hl
  have HSM := Lib.hid (same_labels v u n l w hs hu hl (by unfold maxLen; omega))
  obtain ⟨g, cap, rfl, hc, ho⟩ := h
  obtain ⟨A, d, rfl, hd, _, _⟩ := hu
  obtain ⟨A', c', e, _, hxl, hA⟩ := Sl.own ho
  simp only [Value.slice.injEq] at e
  obtain ⟨rfl, _, rfl⟩ := e
  obtain ⟨b, o, e, hb, hcell⟩ := hA (by omega)
  simp only [Option.some.injEq, Addr.mk.injEq] at e
  obtain ⟨rfl, rfl, _⟩ := e
  have key : ∀ j x, roomB[j]? = some x → w.cell? ⟨g, (n * 2 + j), none⟩ = some (.int .i64 x) := by
    intro j x hx
    have := hcell (n * 2 + j) (.int .i64 x) (by
      rw [ints_append, List.getElem?_append_right (by rw [ints_len, lbs_len, hl]; omega), ints_len, lbs_len, hl, show n * 2 + j - n * 2 = j by omega]
      simp [ints, hx])
    simpa using this
  have a0 := key 0 0 rfl; have a1 := key 1 77777 rfl
  have b0 := key 2 0 rfl; have b1 := key 3 77777 rfl
  rw [show n * 2 + 2 = (n + 1) * 2 by omega] at b0
  rw [show n * 2 + 3 = (n + 1) * 2 + 1 by omega] at b1
  rw [Nat.add_zero] at a0
  clear ho hcell hxl key hA hs
  have hc2 : (n : Int) + 2 ≤ (cap : Int) := by omega
  go_enter Try.func13, Try.ntmps13
  go_wp2_with fail
  refine HSM.out.mono ?_
  rintro e w1 ⟨rfl, k, rfl⟩
  have hbb : Below w.heap.size w (w.drewN k) := bdrewN (Below.refl _ _) k
  have q := fun p => show (w.drewN k).cell? p = w.cell? p from rfl
  rw [← q] at a0 a1 b0 b1
  clear q
  generalize w.drewN k = w2 at *
  have i1 : (n : Int) < ((n + 2 : Nat) : Int) := by omega
  have i2 : (n : Int) + 1 < ((n + 2 : Nat) : Int) := by omega
  go_wp2_with fail
  go_ret
  exact ⟨rfl, hbb⟩

/-- The last cell of each label is an int. -/
def Lck (xs : List Value) (n : Nat) : Prop := ∀ j, j < n → ∃ q : Int, xs[j * 2 + 1]? = some (.int .i64 q)
theorem Lck.lbs (l : List (Int × Int)) : Lck (ints (lbs l)) l.length := fun j hj => ⟨_, by have := (lbs_get l j hj).2; simp [ints, this]; rfl⟩
theorem Lck.set {xs : List Value} {n : Nat} (h : Lck xs n) (i : Nat) (q : Int) : Lck (xs.set i (.int .i64 q)) n := by
  intro j hj
  rw [List.getElem?_set]
  split
  · obtain ⟨u, hu⟩ := h j hj
    have := (List.getElem?_eq_some_iff.1 hu).1
    rw [if_pos (by omega)]; exact ⟨_, rfl⟩
  · exact h j hj

theorem spoil_labels (v : Value) (base n : Nat) (xs : List Value) (w : World) (hown : w.ownsRow base 54 2 v n xs) (hi : Lck xs n) (hn : n ≤ 65536) :
    Calls Try.prog 14 #[v] w fun e w' => e = .returned (.tuple #[]) ∧ w.grownBy w' v.ownBlock := by
  obtain ⟨A, c, hv, hc, _, _⟩ := Sl.own hown
  obtain ⟨xs, hxs⟩ : ∃ ys, ys = xs := ⟨_, rfl⟩
  subst hv
  have hob : ∀ g, A = some ⟨g, 0, none⟩ → (Value.slice A n c).ownBlock = some g := by rintro g rfl; rfl
  generalize hrow : (Value.slice A n c).ownBlock = row at *
  have HO := Lib.hid hob; clear hob hrow
  have hg : A = none ∨ ∃ g, A = some ⟨g, 0, none⟩ ∧ base ≤ g := by
    rcases hown.2 with ⟨h, _⟩ | ⟨g, cap, cur, h, hb, _⟩
    · left; simp at h; exact h.1
    · right; simp at h; exact ⟨g, h.1, hb⟩
  have hA0 : A = none → n = 0 := by
    intro e; subst e
    rcases hown.2 with ⟨_, h⟩ | ⟨g, cap, cur, h, hb, _⟩
    · exact h
    · simp at h
  go_enter Try.func14, Try.ntmps14
  go_wp2
  go_loopw [2] (fun i wr => ∃ (k : Nat) (ys : List Value), k ≤ n ∧ i = .int .i64 k ∧ wr.ownsRow base 54 2 (.slice A n c) n ys ∧ Lck ys n ∧ w.grownBy wr row) (fun i _ => n - (intOf i).toNat)
  case atStart => exact ⟨0, _, by omega, rfl, hown, hi, grefl _ _⟩
  case round =>
    obtain ⟨k, ys, hk, rfl, ho, hy, hbel⟩ := hrel
    by_cases hlt : k < n
    · rcases hg with rfl | ⟨g, rfl, hbg⟩
      · have := hA0 rfl; omega
      · obtain ⟨q, hq⟩ := hy k hlt
        have hcell := ho.cellAt (k * 2 + 1) (by omega)
        rw [hq] at hcell
        have hfz := ho.frozenAt (k * 2 + 1)
        clear hown hA0 hq
        go_wp2
        go_roundw
        case rel => exact ⟨k + 1, _, by omega, by go_num, (ho.stored _ _).1, hy.set _ _, gtrans hbel (by rw [HO.out g rfl]; exact (ho.stored _ _).2)⟩
        case measure => simp [intOf]; omega
    · go_wp2
      go_end0
      exact ⟨rfl, hbel⟩

end Go.Proofs.Ytfkdohnpfjdehaa
