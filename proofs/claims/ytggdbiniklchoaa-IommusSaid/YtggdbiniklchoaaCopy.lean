/-
  Copies of slices of ints: caissonlaw0.CopyInts, slices.Clone.
-/
import Derived.Test.YtggdbiniklchoaaMem
import Derived.Test.YtggdbiniklchoaaChecked
import Derived.Laws.AppendOwnNone
import Derived.Lib.SliceRun
namespace Go.Proofs.Ytggdbiniklchoaa
open Go.RowKit
set_option linter.unusedVariables false
set_option maxRecDepth 100000

theorem infoInt : (Try.prog.info? 3).map (fun i => (i.zero, i.size, i.bytes)) = some (some (.int .i64 0), 1, 8) := by kernel_rfl

theorem copy_ints (u : Value) (n : Nat) (fs : List Int) (w : World) (h : Sl w u n 1 (ints fs)) (hn : n ≤ 65536) (hnil : ∀ m c, u = .slice none m c → c = 0) :
    Calls Try.prog 10 #[u] w fun e w' => ∃ u', e = .returned u' ∧ w'.ownsRow w.heap.size 3 1 u' n (ints fs) ∧ Below w.heap.size w w' := by
  obtain ⟨A, cap, rfl, hc, hl, hA⟩ := h
  obtain ⟨i0, hi, hz0, hz1, hz2⟩ := info_parts infoInt
  have HI := Lib.hid hi; have HZ0 := Lib.hid hz0; have HZ1 := Lib.hid hz1; have HZ2 := Lib.hid hz2; have HA := Lib.hid hA
  clear hi hz0 hz1 hz2 hA
  have hmade : (w.alloc (.cells #[] 3)).ownsRow w.heap.size 3 1 (.slice (some ⟨w.heap.size, 0, none⟩) 0 0) 0 [] := World.ownsRow_made w #[] 0 (Nat.le_refl _) (Nat.zero_le _) rfl
  have HM := Lib.hid hmade; clear hmade
  have h1 : ∀ u ∈ ints fs, u.oneCell' = true := by intro u hu; obtain ⟨x, _, rfl⟩ := List.mem_map.1 hu; rfl
  have H1 := Lib.hid h1; clear h1
  have fin : ∀ (v' : Value) (w1 : World), (w.alloc (.cells #[] 3)).grownBy w1 (Value.slice (some ⟨w.heap.size, 0, none⟩) 0 0).ownBlock → Below w.heap.size w w1 := fun v' w1 hg => ((Below.refl _ w).alloc (Nat.le_refl _) _).grown hg (by simp) (by intro k hk; simp [Value.ownBlock] at hk; omega)
  have FIN := Lib.hid fin; clear fin
  by_cases h0 : 0 < n
  · obtain ⟨b, o, rfl, hb, hcell⟩ := HA.out h0
    have HC := Lib.hid hcell; clear hcell
    go_enter Try.func10, Try.ntmps10
    go_wp2_with (at_builtin; refine wpList_append_own _ rfl _ _ 35 rfl w.heap.size 3 i0 _ 1 8 Try.underlying35 HI.out HZ0.out HZ1.out HZ2.out rfl (by decide) _ 0 [] rfl HM.out ⟨b, o, none⟩ n cap (ints fs) rfl hl ?q2 H1.out ?q4 ?q5 ?q6 ?_)
    case q2 =>
      intro j u hj
      rw [add_none]
      exact (Below.cell ((Below.refl _ w).alloc (Nat.le_refl _) _) (p := ⟨b, o + j, none⟩) hb).trans (HC.out j u hj)
    case q4 => unfold maxLen; omega
    case q5 => omega
    case q6 => simp
    intro v' w1 hown hgrow _
    go_wp2
    go_ret
    exact ⟨_, rfl, by simpa using hown, FIN.out v' w1 hgrow⟩
  · obtain rfl : n = 0 := by omega
    have hfs : ints fs = [] := List.length_eq_zero_iff.1 hl
    rw [hfs]
    cases A with
    | none =>
      have hc0 : cap = 0 := hnil 0 cap rfl
      subst hc0
      go_enter Try.func10, Try.ntmps10
      go_wp2_with (at_builtin; refine wpList_append_own_none rfl _ _ 35 rfl w.heap.size 3 i0 1 Try.underlying35 HI.out _ 0 [] rfl HM.out rfl ?_)
      go_wp2
      go_ret
      exact ⟨_, rfl, HM.out, (Below.refl _ w).alloc (Nat.le_refl _) _⟩
    | some ad =>
      go_enter Try.func10, Try.ntmps10
      go_wp2_with (at_builtin; refine wpList_append_own _ rfl _ _ 35 rfl w.heap.size 3 i0 _ 1 8 Try.underlying35 HI.out HZ0.out HZ1.out HZ2.out rfl (by decide) _ 0 [] rfl HM.out ad 0 cap [] rfl rfl (by intro j u hj; simp at hj) (by intro u hu; cases hu) (by unfold maxLen; omega) (by omega) (by simp) ?_)
      intro v' w1 hown hgrow _
      go_wp2
      go_ret
      exact ⟨_, rfl, by simpa using hown, FIN.out v' w1 hgrow⟩

theorem clone_any (u : Value) (n : Nat) (fs : List Int) (w : World) (h : Sl w u n 1 (ints fs)) (hn : n ≤ 65536) (hnil : ∀ m c, u = .slice none m c → c = 0) :
    Calls Try.prog 26 #[u] w fun e w' => ∃ u', e = .returned u' ∧ w'.ownsRow w.heap.size 3 1 u' n (ints fs) ∧ Below w.heap.size w w' := by
  obtain ⟨A, cap, rfl, hc, hl, hA⟩ := h
  obtain ⟨i0, hi, hz0, hz1, hz2⟩ := info_parts infoInt
  have HI := Lib.hid hi; have HZ0 := Lib.hid hz0; have HZ1 := Lib.hid hz1; have HZ2 := Lib.hid hz2; have HA := Lib.hid hA
  clear hi hz0 hz1 hz2 hA
  have hmade : (w.alloc (.cells #[] 3)).ownsRow w.heap.size 3 1 (.slice (some ⟨w.heap.size, 0, none⟩) 0 0) 0 [] := World.ownsRow_made w #[] 0 (Nat.le_refl _) (Nat.zero_le _) rfl
  have HM := Lib.hid hmade; clear hmade
  have qnil : ∀ (w : World) (a : Option Addr) (n c n' c' : Nat), (binOp .eql 35 (.slice a n c) (.slice none n' c')).run Try.prog w = .ok (.bool a.isNone) w := fun w a n c n' c' => Lib.run_eql_slice_nil w _ _ a n c n' c' Try.underlying35
  have h1 : ∀ u ∈ ints fs, u.oneCell' = true := by intro u hu; obtain ⟨x, _, rfl⟩ := List.mem_map.1 hu; rfl
  have H1 := Lib.hid h1; clear h1
  have fin : ∀ (v' : Value) (w1 : World), (w.alloc (.cells #[] 3)).grownBy w1 (Value.slice (some ⟨w.heap.size, 0, none⟩) 0 0).ownBlock → Below w.heap.size w w1 := fun v' w1 hg => ((Below.refl _ w).alloc (Nat.le_refl _) _).grown hg (by simp) (by intro k hk; simp [Value.ownBlock] at hk; omega)
  have FIN := Lib.hid fin; clear fin
  by_cases h0 : 0 < n
  · obtain ⟨b, o, rfl, hb, hcell⟩ := HA.out h0
    have HC := Lib.hid hcell; clear hcell
    go_enter Try.func26, Try.ntmps26
    go_wp2_with (at_builtin; refine wpList_append_own _ rfl _ _ 35 rfl w.heap.size 3 i0 _ 1 8 Try.underlying35 HI.out HZ0.out HZ1.out HZ2.out rfl (by decide) _ 0 [] rfl HM.out ⟨b, o, none⟩ n cap (ints fs) rfl hl ?q2 H1.out ?q4 ?q5 ?q6 ?_)
    case q2 =>
      intro j u hj
      rw [add_none]
      exact (Below.cell ((Below.refl _ w).alloc (Nat.le_refl _) _) (p := ⟨b, o + j, none⟩) hb).trans (HC.out j u hj)
    case q4 => unfold maxLen; omega
    case q5 => omega
    case q6 => simp
    intro v' w1 hown hgrow _
    go_wp2
    go_ret
    exact ⟨_, rfl, by simpa using hown, FIN.out v' w1 hgrow⟩
  · obtain rfl : n = 0 := by omega
    have hfs : ints fs = [] := List.length_eq_zero_iff.1 hl
    rw [hfs]
    cases A with
    | none =>
      go_enter Try.func26, Try.ntmps26
      go_wp2
      go_ret
      exact ⟨_, rfl, World.ownsRow_nil _ _ _ _, Below.refl _ _⟩
    | some ad =>
      go_enter Try.func26, Try.ntmps26
      go_wp2_with (at_builtin; refine wpList_append_own _ rfl _ _ 35 rfl w.heap.size 3 i0 _ 1 8 Try.underlying35 HI.out HZ0.out HZ1.out HZ2.out rfl (by decide) _ 0 [] rfl HM.out ad 0 cap [] rfl rfl (by intro j u hj; simp at hj) (by intro u hu; cases hu) (by unfold maxLen; omega) (by omega) (by simp) ?_)
      intro v' w1 hown hgrow _
      go_wp2
      go_ret
      exact ⟨_, rfl, by simpa using hown, FIN.out v' w1 hgrow⟩

end Go.Proofs.Ytggdbiniklchoaa
