/-
  Contracts of the document's ExtentsMay and To.
-/
import Derived.Test.YtamhnnkmjhapmaaEx1
namespace Go.Proofs.Ytamhnnkmjhapmaa
open Go.RowKit
set_option linter.unusedVariables false
set_option linter.unusedSimpArgs false
set_option maxRecDepth 100000

theorem zSs_runR (w : World) : Sem.run Try.prog (zeroValue 66) w = .ok (.agg zSs) w := by
  have hi : (Try.prog.info? 66).map (fun i => i.zero) = some (some (.agg zSs)) := by kernel_rfl
  cases h : Try.prog.info? 66 with
  | none => rw [h] at hi; cases hi
  | some i =>
    rw [h] at hi
    simp only [Option.map_some, Option.some.injEq] at hi
    simp [zeroValue, typeInfo, h, hi]

set_option maxHeartbeats 2000000 in
theorem rextmay_any (v : Value) (ps : List (Int × Int)) (s : Int) (w : World) (h : PtS w v ps) :
    Calls Try.prog 26 #[v, .int .i64 s] w fun e w' => e = .returned (.bool (extB ps s)) ∧ Below w.heap.size w w' := by
  obtain ⟨A, cap, rfl, hn, hA⟩ := h
  obtain ⟨n, hl⟩ : ∃ n, ps.length = n := ⟨_, rfl⟩
  have HL := Lib.hid hl
  rw [hl] at hn hA ⊢
  unfold maxLen at hn
  have HA := Lib.hid hA; clear hA
  by_cases hok : (1 ≤ n ∧ n ≤ 4) ∧ (0 ≤ s ∧ s ≤ 64)
  · obtain ⟨⟨n1, n4⟩, s0, s64⟩ := hok
    have hR : extB ps s = goB (ps.drop 0) s noB := by unfold extB; rw [hl, decide_eq_true ⟨n1, n4⟩, decide_eq_true ⟨s0, s64⟩, List.drop_zero]; rfl
    obtain ⟨R, hR2⟩ : ∃ R, goB (ps.drop 0) s noB = R := ⟨_, rfl⟩
    rw [hR, hR2]
    have HR := Lib.hid hR2
    clear hR hR2 hl
    have hz := zSs_runR w
    have hne := zSs_ne
    have c0 : Blk (w.alloc (.cells zSs 66)) w.heap.size 66 (bitc noB 64) := Blk.new w _ (bitc noB 64)
    have b0 : Below w.heap.size w (w.alloc (.cells zSs 66)) := (Below.refl _ _).alloc (Nat.le_refl _) _
    have C0 := Lib.hid c0; have B0 := Lib.hid b0
    clear c0 b0
    go_enter Try.func26, Try.ntmps26
    go_wp2_with fail
    clear hz hne
    go_loopw [6] (fun i wr => ∃ (k : Nat) (F : Nat → Bool), k ≤ n ∧ i = .int .i64 k ∧ Hid (goB (ps.drop k) s F = R ∧ Blk wr w.heap.size 66 (bitc F 64) ∧ Below w.heap.size w wr)) (fun i _ => n - (intOf i).toNat)
    case atStart => exact ⟨0, noB, by omega, rfl, Lib.hid ⟨HR.out, C0.out, B0.out⟩⟩
    case round =>
      obtain ⟨k, F, hk, rfl, H⟩ := hrel
      by_cases hlt : k < n
      · obtain ⟨b, o, rfl, hb, hcell⟩ := HA.out (by omega)
        obtain ⟨l, c, A2, n2, c2, q0, q1, q2, q3, q4⟩ := hcell k hlt
        have hst := goB_step ps s F k (by rw [HL.out]; exact hlt)
        rw [H.out.1] at hst
        obtain ⟨fi, hfi⟩ : ∃ x, (ps.getD k (0, 0)).1 = x := ⟨_, rfl⟩
        obtain ⟨co, hco⟩ : ∃ x, (ps.getD k (0, 0)).2 = x := ⟨_, rfl⟩
        rw [hfi, hco] at hst
        rw [hfi] at q3
        rw [hco] at q4
        have HQ : Hid (∀ W, Below w.heap.size w W → W.cell? ⟨b, o + k * 5 + 3, none⟩ = some (.int .i64 fi) ∧ W.cell? ⟨b, o + k * 5 + 4, none⟩ = some (.int .i64 co)) :=
          Lib.hid fun W hW => ⟨(hW.cell (p := ⟨b, _, none⟩) hb).trans q3, (hW.cell (p := ⟨b, _, none⟩) hb).trans q4⟩
        have HF := Lib.hid H.out.2.1
        have HB := Lib.hid H.out.2.2
        obtain ⟨p3, p4⟩ := HQ.out _ HB.out
        clear hcell hfi hco H q0 q1 q2 q3 q4
        by_cases hr : 0 ≤ fi ∧ 0 ≤ co ∧ fi ≤ s ∧ co ≤ s - fi
        · have hrt : runB fi co s = true := decide_eq_true hr
          obtain ⟨r0, r1, r2, r3⟩ := hr
          rw [hrt, Bool.true_and] at hst
          obtain ⟨a, rfl⟩ := Int.eq_ofNat_of_zero_le r0
          obtain ⟨m, rfl⟩ := Int.eq_ofNat_of_zero_le r1
          simp only [Int.toNat_natCast] at hst
          have HST := Lib.hid hst
          clear hst hrt
          go_wp2_with fail
          go_quiet ((go_at_call 47; first | exact quiet_ (fun W => rmay_yes _ _ _ W r0 r1 r2 r3 (by omega)) | exact quiet_a (fun W => rmay_yes _ _ _ W r0 r1 r2 r3 (by omega))))
          go_wp2_with fail
          clear p3 p4
          go_loopw [7] (fun j wi => ∃ q : Nat, q ≤ m ∧ j = .int .i64 ((a + q : Nat) : Int) ∧ Hid (Blk wi w.heap.size 66 (bitc (addF F a q) 64) ∧ Below w.heap.size w wi ∧ freeB F a m = freeB F (a + q) (m - q))) (fun j _ => a + m - (intOf j).toNat)
          case atStart => exact ⟨0, by omega, by rw [Nat.add_zero], Lib.hid ⟨by rw [addF_zero]; exact HF.out, bdrewN HB.out _, rfl⟩⟩
          case round =>
            obtain ⟨q, hq, rfl, H⟩ := hrel
            obtain ⟨p3, p4⟩ := HQ.out _ H.out.2.1
            by_cases hqm : q < m
            · have hc := H.out.1.cell (a + q)
              rw [bitc_get _ _ _ (by omega), addF_at] at hc
              have hfz := H.out.1.frozen (a + q)
              have hstep := freeB_step F a m q hqm
              rw [← H.out.2.2] at hstep
              have HS : Hid (∀ W, Blk W w.heap.size 66 (bitc (addF F a q) 64) → Blk (W.setCell ⟨w.heap.size, a + q, none⟩ (.bool true)) w.heap.size 66 (bitc (addF F a (q + 1)) 64)) := Lib.hid fun W hW => by
                have := hW.set (a + q) (.bool true)
                rw [bitc_set, addF_step] at this
                exact this
              have hlt64 : a + q < 64 := by omega
              cases hF : F (a + q)
              · rw [hF] at hc hstep
                have hstep' : freeB F a m = freeB F (a + (q + 1)) (m - (q + 1)) := by rw [hstep]; rfl
                have HE := Lib.hid hstep'
                clear hF hstep hstep'
                have H1 := Lib.hid H.out.1
                have H2 := Lib.hid H.out.2.1
                clear H
                go_wp2_with fail
                go_quiet (fail)
                go_wp2_with fail
                go_roundw
                case rel => exact ⟨q + 1, by omega, by go_num, Lib.hid ⟨HS.out _ H1.out, (bdrewN H2.out _).setCell (p := ⟨w.heap.size, a + q, none⟩) (Nat.le_refl _) _, HE.out⟩⟩
                case measure => simp [intOf]; omega
              · rw [hF] at hc hstep
                have hRf : R = false := by rw [HST.out, hstep]; rfl
                have HRF := Lib.hid hRf
                have H2 := Lib.hid H.out.2.1
                clear hF hstep hRf H
                go_wp2_with fail
                go_quiet (fail)
                go_wp2_with fail
                go_ret
                exact ⟨by rw [HRF.out]; rfl, bdrewN H2.out _⟩
            · obtain rfl : q = m := by omega
              have hend : freeB F a q = true := by rw [H.out.2.2, Nat.sub_self]; rfl
              have hRt : goB (ps.drop (k + 1)) s (addF F a q) = R := by rw [HST.out, hend]; rfl
              have HRT := Lib.hid hRt
              have H1 := Lib.hid H.out.1
              have H2 := Lib.hid H.out.2.1
              clear hend hRt H
              go_wp2_with fail
              go_quiet (fail)
              go_wp2_with fail
              go_roundw
              case rel => exact ⟨k + 1, _, by omega, by go_num, Lib.hid ⟨HRT.out, H1.out, bdrewN H2.out _⟩⟩
              case measure => simp [intOf]; omega
        · have hrf : runB fi co s = false := decide_eq_false hr
          have hRf : R = false := by rw [hst, hrf]; rfl
          have HRF := Lib.hid hRf
          have HR2 := Lib.hid hr
          clear hRf hst hrf hr
          go_wp2_with fail
          go_quiet ((go_at_call 47; first | exact quiet_ (fun W => rmay_no _ _ _ W HR2.out (by omega)) | exact quiet_a (fun W => rmay_no _ _ _ W HR2.out (by omega))))
          go_wp2_with fail
          go_ret
          exact ⟨by rw [HRF.out]; rfl, bdrewN HB.out _⟩
      · go_wp2_with fail
        go_ret
        exact ⟨by rw [← H.out.1, goB_end _ _ _ _ (by rw [HL.out]; omega)]; rfl, H.out.2.2⟩
  · have hR : extB ps s = false := by
      unfold extB; rw [hl]
      by_cases h1 : 1 ≤ n ∧ n ≤ 4
      · rw [decide_eq_false (show ¬ (0 ≤ s ∧ s ≤ 64) from fun h => hok ⟨h1, h⟩)]; simp
      · rw [decide_eq_false h1]; simp
    rw [hR]
    have hw : n < 1 ∨ (1 ≤ n ∧ 4 < n) ∨ (1 ≤ n ∧ n ≤ 4 ∧ s < 0) ∨ (1 ≤ n ∧ n ≤ 4 ∧ 0 ≤ s ∧ 64 < s) := by omega
    clear hR hok hl
    rcases hw with h1 | ⟨h1, h2⟩ | ⟨h1, h2, h3⟩ | ⟨h1, h2, h3, h4⟩
    all_goals
      go_enter Try.func26, Try.ntmps26
      go_wp2_with fail
      go_ret
      exact ⟨rfl, Below.refl _ _⟩

end Go.Proofs.Ytamhnnkmjhapmaa
