/-
  Layer 15, the program: Tick.
-/
import Derived.Test.YtgamfejgpdampaaAs2
import Derived.Maps.AppendAt
import Derived.Deep.AppendLies
namespace Go.Proofs.Ytgamfejgpdampaa
open Go.RowKit Go.ChangeMaps
set_option linter.unusedVariables false
set_option maxRecDepth 100000

/-- A slice of ints of one's own. -/
def obJ (v : Value) (l : List Int) : Ob := obR 3 1 v l.length (ints l)
theorem int1A (x : Int) : ∀ u ∈ [Value.int .i64 x], u.oneCell' = true := by
  intro u hu
  rw [List.mem_singleton.1 hu]
  rfl
theorem infoIntA : (Try.prog.info? 3).map (fun i => (i.zero, i.size, i.bytes)) = some (some (.int .i64 0), 1, 8) := by kernel_rfl

set_option maxHeartbeats 4000000 in
theorem atick_any {g q P D : Nat} {O : Nat → Int} {L : Nat → Nat} {S : Nat → Prop} (w : World) (hq : (obPA g q P D O L).Q S w) :
    Calls Try.prog 13 #[.pointer (some ⟨g, 0, none⟩)] w fun e w' => ∃ v, e = .returned v ∧ Tk S w [obJ v (atE L D), obPA g q P D O (atL L D)] w' := by
  obtain ⟨i0, hi, hz0, hz1, hz2⟩ := info_parts infoIntA
  have HI := Lib.hid hi; have HZ0 := Lib.hid hz0; have HZ1 := Lib.hid hz1; have HZ2 := Lib.hid hz2
  clear hi hz0 hz1 hz2
  obtain ⟨_, _, cD⟩ := hq.1.heads
  have hD := hq.1.d4
  have T0 : Hid (Tk S w [obJ (.slice none 0 0) (atE L 0), obPA g q P D O (atL L 0)] w) := Lib.hid (by
    rw [atL_zero]
    exact (Tk.start1 hq).addR (v := .slice none 0 0) (n := 0) (xs := []) (Below.refl _ _) (World.ownsRow_nil _ _ _ _))
  clear hq
  go_enter Try.func13, Try.ntmps13
  go_wp2_with fail
  go_loopw [3, 13] (fun v i wr => ∃ (k : Nat), k ≤ D ∧ i = .int .i64 k ∧ Hid (Tk S w [obJ v (atE L k), obPA g q P D O (atL L k)] wr)) (fun _ i _ => 4 - (intOf i).toNat)
  case atStart => exact ⟨0, by omega, rfl, T0⟩
  case round =>
    clear T0 cD
    obtain ⟨k, hkD, rfl, HT⟩ := hrel
    by_cases hlt : k < D
    · have hltI : (k : Int) < D := by omega
      have hk4 : (k : Int) < 4 := by omega
      have hp := HT.out.pa (i := 1) rfl
      obtain ⟨c0, c1, c2⟩ := hp.at_ k hlt
      rw [atL_here] at c0 c2
      have hl8 := hp.l8 k
      rw [atL_here] at hl8
      have hlen := atE_len L k
      clear hp
      rcases (show L k = 0 ∨ L k = 1 ∨ 2 ≤ L k by omega) with hl | hl | hl
      · as_aux_lemma =>
          have HE := Lib.hid (atE_no L k (by omega))
          have HU : Hid (uN (atL L k) k (L k) = atL L (k + 1)) := Lib.hid (by rw [← atL_step]; congr 1; omega)
          rw [show ph (L k) = 0 by unfold ph; rw [if_pos hl]] at c0
          have hMv := fun W => atk_0 (O k) (L k : Int) W
          have HPH := Lib.hid (show ph (L k) = 0 by unfold ph; rw [if_pos hl])
          have hl2 : L k ≤ 8 := by omega
          have HM := Lib.hid hMv
          clear hMv hl hl8
          go_wp2_with fail
          refine (HM.out _).mono ?_
          rintro e w1 ⟨rfl, b1⟩
          have t2 := (HT.out.next b1).alloc 51 [.int .i64 0, .int .i64 (O k), .int .i64 (L k : Int)]
          clear b1 c0 c1 c2
          go_wp2_with fail
          change Code.wp _ _ _ _ (w1.alloc (.cells #[.int .i64 0, .int .i64 (O k), .int .i64 (L k : Int)] 51))
          generalize w1.alloc (.cells #[.int .i64 0, .int .i64 (O k), .int .i64 (L k : Int)] 51) = w2 at *
          generalize w1.heap.size = n at *
          have td := t2.drewN 1
          have hdp : PA w2.drew g q P D O (atL L k) := td.pa (i := 2) rfl
          obtain ⟨k0, k1, k2, _, _, _⟩ := tri_at (t2.blk (i := 0) rfl)
          obtain ⟨c0, c1, c2⟩ := hdp.at_ k hlt
          have f0 := hdp.frozen (3 + k * 3)
          have f1 := hdp.frozen (3 + k * 3 + 1)
          have f2 := hdp.frozen (3 + k * 3 + 2)
          have hput := hdp.put k (O k) (L k) hl2
          rw [HPH.out, iF_same, HU.out] at hput
          skip
          have t3 := td.setPA (i := 2) rfl hput (set3A w2.drew g (3 + k * 3) (3 + k * 3 + 1) (3 + k * 3 + 2) (.int .i64 0) (.int .i64 (O k)) (.int .i64 (L k : Int)))
          have T3 := Lib.hid (show Tk S w [obJ u3 (atE L k), obPA g q P D O (atL L (k + 1))] _ from t3.tail)
          clear t2 t3 td hdp hput
          go_wp2_with fail
          go_still_tail 6, (by kernel_rfl)
          change wpList _ _ _ _ _ w2.drew
          clear k0 k1 k2
          generalize w2.drew = w3 at *
          go_wp2_with fail
          go_roundw
          case rel => exact ⟨k + 1, by omega, by go_num, Lib.hid (by rw [HE.out]; exact T3.out)⟩
          case measure => simp [intOf]; omega
      · as_aux_lemma =>
          have HE := Lib.hid (atE_yes L k hl)
          have HU : Hid (uN (atL L k) k (0) = atL L (k + 1)) := Lib.hid (by rw [← atL_step]; congr 1; omega)
          rw [show ph (L k) = 1 by unfold ph; rw [if_neg (by omega)]] at c0
          have hMv := fun W => atk_1 (O k) (L k : Int) W (by omega)
          have HPH := Lib.hid (show ph (0) = 0 by unfold ph; rw [if_pos rfl])
          have hl2 : 0 ≤ 8 := by omega
          have HM := Lib.hid hMv
          clear hMv hl hl8
          go_wp2_with fail
          refine (HM.out _).mono ?_
          rintro e w1 ⟨rfl, b1⟩
          have t2 := (HT.out.next b1).alloc 51 [.int .i64 0, .int .i64 (O k), .int .i64 0]
          clear b1 c0 c1 c2
          go_wp2_with fail
          change Code.wp _ _ _ _ (w1.alloc (.cells #[.int .i64 0, .int .i64 (O k), .int .i64 0] 51))
          generalize w1.alloc (.cells #[.int .i64 0, .int .i64 (O k), .int .i64 0] 51) = w2 at *
          generalize w1.heap.size = n at *
          have td := t2.drewN 1
          have hdp : PA w2.drew g q P D O (atL L k) := td.pa (i := 2) rfl
          obtain ⟨k0, k1, k2, _, _, _⟩ := tri_at (t2.blk (i := 0) rfl)
          obtain ⟨c0, c1, c2⟩ := hdp.at_ k hlt
          have f0 := hdp.frozen (3 + k * 3)
          have f1 := hdp.frozen (3 + k * 3 + 1)
          have f2 := hdp.frozen (3 + k * 3 + 2)
          have hput := hdp.put k (O k) (0) hl2
          rw [HPH.out, iF_same, HU.out] at hput
          rw [show ((0 : Nat) : Int) = 0 from rfl] at hput
          have t3 := td.setPA (i := 2) rfl hput (set3A w2.drew g (3 + k * 3) (3 + k * 3 + 1) (3 + k * 3 + 2) (.int .i64 0) (.int .i64 (O k)) (.int .i64 0))
          have T3 := Lib.hid (show Tk S w [obJ u3 (atE L k), obPA g q P D O (atL L (k + 1))] _ from t3.tail)
          clear t2 t3 td hdp hput
          go_wp2_with fail
          go_still_tail 6, (by kernel_rfl)
          change wpList _ _ _ _ _ w2.drew
          clear k0 k1 k2
          generalize w2.drew = w3 at *
          go_upto_region 10 with fail
          generalize ((w3.setCell _ _).setCell _ _).setCell _ _ = w4 at *
          have hbl : Below w4.heap.size w4 (w4.alloc (.cells #[.int .i64 (k : Int)] 3)) := (Below.refl _ _).alloc (Nat.le_refl _) _
          have BL := Lib.hid hbl
          clear hbl f0 f1 f2 c0 c1 c2
          go_wp2_with (at_builtin; refine wpList_append_lies _ rfl _ _ 22 rfl 0 3 i0 _ 1 8 Try.underlying22 HI.out HZ0.out HZ1.out HZ2.out rfl (by decide) u3 (atE L k).length (ints (atE L k)) rfl (own_below (T3.out.row (i := 0) rfl) BL.out) ⟨w4.heap.size, 0, none⟩ 1 1 [.int .i64 (k : Int)] rfl rfl (row_new w4 [.int .i64 (k : Int)] 3) (int1A (k : Int)) (by omega) (by unfold maxLen; omega) (by omega) (by omega) _ rfl ?_)
          intro gg cap6 w6 own6 gr6 hat6 hlt6
          have t5 := T3.out.next BL.out
          have t6 : Tk S w [obJ (.slice (some ⟨gg, 0, none⟩) ((atE L k).length + 1) cap6) (atE L (k + 1)), obPA g q P D O (atL L (k + 1))] w6 := by
            refine t5.turnR (i := 0) rfl gr6 (by rw [HE.out, ints_append, List.length_append]; exact own6) (fun x hx => ?_)
            have e : gg = x := by simpa [Value.ownBlock] using hx
            subst e
            rcases hat6 with h | h
            · exact .inl h
            · exact .inr (by simp at h ⊢; omega)
          have T6 := Lib.hid t6
          clear own6 gr6 hat6 hlt6 t5 t6
          go_wp2_with fail
          go_roundw
          case rel => exact ⟨k + 1, by omega, by go_num, T6⟩
          case measure => simp [intOf]; omega
      · as_aux_lemma =>
          have HE := Lib.hid (atE_no L k (by omega))
          have HU : Hid (uN (atL L k) k (L k - 1) = atL L (k + 1)) := Lib.hid (by rw [← atL_step])
          rw [show ph (L k) = 1 by unfold ph; rw [if_neg (by omega)]] at c0
          have hMv := fun W => atk_2 (O k) (L k : Int) W (by omega) (by omega)
          have HPH := Lib.hid (show ph (L k - 1) = 1 by unfold ph; rw [if_neg (by omega)])
          have hl2 : L k - 1 ≤ 8 := by omega
          rw [show ((L k : Int) - 1) = ((L k - 1 : Nat) : Int) by omega] at hMv
          have HM := Lib.hid hMv
          clear hMv hl hl8
          generalize L k - 1 = l2 at *
          go_wp2_with fail
          refine (HM.out _).mono ?_
          rintro e w1 ⟨rfl, b1⟩
          have t2 := (HT.out.next b1).alloc 51 [.int .i64 1, .int .i64 (O k), .int .i64 l2]
          clear b1 c0 c1 c2
          go_wp2_with fail
          change Code.wp _ _ _ _ (w1.alloc (.cells #[.int .i64 1, .int .i64 (O k), .int .i64 l2] 51))
          generalize w1.alloc (.cells #[.int .i64 1, .int .i64 (O k), .int .i64 l2] 51) = w2 at *
          generalize w1.heap.size = n at *
          have td := t2.drewN 1
          have hdp : PA w2.drew g q P D O (atL L k) := td.pa (i := 2) rfl
          obtain ⟨k0, k1, k2, _, _, _⟩ := tri_at (t2.blk (i := 0) rfl)
          obtain ⟨c0, c1, c2⟩ := hdp.at_ k hlt
          have f0 := hdp.frozen (3 + k * 3)
          have f1 := hdp.frozen (3 + k * 3 + 1)
          have f2 := hdp.frozen (3 + k * 3 + 2)
          have hput := hdp.put k (O k) (l2) hl2
          rw [HPH.out, iF_same, HU.out] at hput
          skip
          have t3 := td.setPA (i := 2) rfl hput (set3A w2.drew g (3 + k * 3) (3 + k * 3 + 1) (3 + k * 3 + 2) (.int .i64 1) (.int .i64 (O k)) (.int .i64 l2))
          have T3 := Lib.hid (show Tk S w [obJ u3 (atE L k), obPA g q P D O (atL L (k + 1))] _ from t3.tail)
          clear t2 t3 td hdp hput
          go_wp2_with fail
          go_still_tail 6, (by kernel_rfl)
          change wpList _ _ _ _ _ w2.drew
          clear k0 k1 k2
          generalize w2.drew = w3 at *
          go_wp2_with fail
          go_roundw
          case rel => exact ⟨k + 1, by omega, by go_num, Lib.hid (by rw [HE.out]; exact T3.out)⟩
          case measure => simp [intOf]; omega
    · have e : k = D := by omega
      subst e
      clear hlt
      go_wp2_with fail
      go_ret
      exact ⟨_, rfl, HT.out⟩
end Go.Proofs.Ytgamfejgpdampaa
