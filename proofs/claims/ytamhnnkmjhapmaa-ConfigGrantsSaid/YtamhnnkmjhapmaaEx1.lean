/-
  Contracts of package extent: add, May, To.
-/
import Derived.Test.YtamhnnkmjhapmaaEx0
import Derived.Test.YtamhnnkmjhapmaaMay
import Derived.Test.YtamhnnkmjhapmaaFo
import Derived.Test.YtamhnnkmjhapmaaChecked
namespace Go.Proofs.Ytamhnnkmjhapmaa
open Go.RowKit
set_option linter.unusedVariables false
set_option linter.unusedSimpArgs false
set_option maxRecDepth 100000

def zSs : Array Value := (bitc noB 64).toArray
theorem zSs_ne : ¬ (zSs = #[]) := by simp [zSs, bitc]
theorem zSs_run (w : World) : Sem.run Try.prog (zeroValue 108) w = .ok (.agg zSs) w := by
  have hi : (Try.prog.info? 108).map (fun i => i.zero) = some (some (.agg zSs)) := by kernel_rfl
  cases h : Try.prog.info? 108 with
  | none => rw [h] at hi; cases hi
  | some i =>
    rw [h] at hi
    simp only [Option.map_some, Option.some.injEq] at hi
    simp [zeroValue, typeInfo, h, hi]

/-- What add answers and leaves. -/
def AddS (g a c : Nat) (F : Nat → Bool) (w : World) (e : Ending) (w' : World) : Prop :=
  e = .returned (.bool (freeB F a c)) ∧ (freeB F a c = true → Blk w' g 108 (bitc (addF F a c) 64)) ∧ w.grownBy w' (some g)

theorem add_any (g a c : Nat) (F : Nat → Bool) (w : World) (h : Blk w g 108 (bitc F 64)) (hac : a + c ≤ 64) :
    Calls Try.prog 86 #[.pointer (some ⟨g, 0, none⟩), .int .i64 a, .int .i64 c] w (AddS g a c F w) := by
  have H0 := Lib.hid h
  clear h
  go_enter Try.func86, Try.ntmps86
  go_wp2_with fail
  go_loopw [9] (fun i wr => ∃ k : Nat, k ≤ c ∧ i = .int .i64 k ∧ Hid (Blk wr g 108 (bitc (addF F a k) 64) ∧ w.grownBy wr (some g) ∧ freeB F a c = freeB F (a + k) (c - k))) (fun i _ => c - (intOf i).toNat)
  case atStart => exact ⟨0, by omega, rfl, Lib.hid ⟨by rw [addF_zero]; exact H0.out, grefl _ _, rfl⟩⟩
  case round =>
    obtain ⟨k, hk, rfl, H⟩ := hrel
    by_cases hlt : k < c
    · have hc := H.out.1.cell (a + k)
      rw [bitc_get _ _ _ (by omega), addF_at] at hc
      have hfz := H.out.1.frozen (a + k)
      have hstep := freeB_step F a c k hlt
      rw [← H.out.2.2] at hstep
      have hS := H.out.1.set (a + k) (.bool true)
      rw [bitc_set, addF_step] at hS
      have HS := Lib.hid hS
      have HG := Lib.hid (gset H.out.2.1 (p := ⟨g, a + k, none⟩) (.inl rfl) (.bool true))
      have hlt64 : a + k < 64 := by omega
      cases hF : F (a + k)
      · rw [hF] at hc hstep
        have hstep' : freeB F a c = freeB F (a + (k + 1)) (c - (k + 1)) := by rw [hstep]; rfl
        have HE := Lib.hid hstep'
        clear hF hstep hstep' hS H
        go_wp2_with fail
        go_roundw
        case rel => exact ⟨k + 1, by omega, by go_num, Lib.hid ⟨HS.out, HG.out, HE.out⟩⟩
        case measure => simp [intOf]; omega
      · rw [hF] at hc hstep
        have hstep' : freeB F a c = false := by rw [hstep]; rfl
        have HE := Lib.hid hstep'
        have HG := Lib.hid H.out.2.1
        clear hF hstep hstep' hS H
        go_wp2_with fail
        go_ret
        exact ⟨by rw [HE.out]; rfl, (fun h => by rw [HE.out] at h; cases h), HG.out⟩
    · obtain rfl : k = c := by omega
      have hend : freeB F a k = true := by rw [H.out.2.2, Nat.sub_self]; rfl
      have HE := Lib.hid hend
      clear hend
      go_wp2_with fail
      go_ret
      exact ⟨by rw [HE.out]; rfl, fun _ => H.out.1, H.out.2.1⟩

set_option maxHeartbeats 2000000 in
theorem extmay_any (v : Value) (ps : List (Int × Int)) (s : Int) (w : World) (h : PtS w v ps) :
    Calls Try.prog 69 #[v, .int .i64 s] w fun e w' => e = .returned (.bool (extB ps s)) ∧ Below w.heap.size w w' := by
  obtain ⟨A, cap, rfl, hn, hA⟩ := h
  obtain ⟨n, hl⟩ : ∃ n, ps.length = n := ⟨_, rfl⟩
  have HL := Lib.hid hl
  rw [hl] at hn hA ⊢
  unfold maxLen at hn
  have HA := Lib.hid hA; clear hA
  by_cases hok : (1 ≤ n ∧ n ≤ 4) ∧ (0 ≤ s ∧ s ≤ 64)
  · obtain ⟨⟨n1, n4⟩, s0, s64⟩ := hok
    have hR : extB ps s = goB (ps.drop 0) s noB := by unfold extB; rw [hl, decide_eq_true ⟨n1, n4⟩, decide_eq_true ⟨s0, s64⟩, List.drop_zero]; rfl
    obtain ⟨R, hR2⟩ : ∃ R, goB (ps.drop 0) s noB = R := ⟨_, rfl⟩
    rw [hR, hR2]
    have HR := Lib.hid hR2
    clear hR hR2 hl
    have hz := zSs_run w
    have hne := zSs_ne
    have c0 : Blk (w.alloc (.cells zSs 108)) w.heap.size 108 (bitc noB 64) := Blk.new w _ (bitc noB 64)
    have b0 : Below w.heap.size w (w.alloc (.cells zSs 108)) := (Below.refl _ _).alloc (Nat.le_refl _) _
    have C0 := Lib.hid c0; have B0 := Lib.hid b0
    clear c0 b0
    go_enter Try.func69, Try.ntmps69
    go_wp2_with fail
    clear hz hne
    go_loopw [26] (fun i wr => ∃ (k : Nat) (F : Nat → Bool), k ≤ n ∧ i = .int .i64 k ∧ Hid (goB (ps.drop k) s F = R ∧ Blk wr w.heap.size 108 (bitc F 64) ∧ Below w.heap.size w wr)) (fun i _ => n - (intOf i).toNat)
    case atStart => exact ⟨0, noB, by omega, rfl, Lib.hid ⟨HR.out, C0.out, B0.out⟩⟩
    case round =>
      obtain ⟨k, F, hk, rfl, H⟩ := hrel
      by_cases hlt : k < n
      · obtain ⟨b, o, rfl, hb, hcell⟩ := HA.out (by omega)
        obtain ⟨l, c, A2, n2, c2, q0, q1, q2, q3, q4⟩ := hcell k hlt
        have g := fun x => H.out.2.2.cell (p := ⟨b, x, none⟩) hb
        rw [← g] at q0 q1 q2 q3 q4
        have hst := goB_step ps s F k (by rw [HL.out]; exact hlt)
        rw [H.out.1] at hst
        obtain ⟨fi, hfi⟩ : ∃ x, (ps.getD k (0, 0)).1 = x := ⟨_, rfl⟩
        obtain ⟨co, hco⟩ : ∃ x, (ps.getD k (0, 0)).2 = x := ⟨_, rfl⟩
        rw [hfi, hco] at hst
        rw [hfi] at q3
        rw [hco] at q4
        have HF := H.out.2.1
        have HB := H.out.2.2
        have hws := HB.size
        clear g hcell hfi hco H
        have HA := Lib.hid (fun O => HB.alloc hws O)
        have HFA := Lib.hid (fun O => HF.alloc O)
        clear HB HF
        by_cases hr : 0 ≤ fi ∧ 0 ≤ co ∧ fi ≤ s ∧ co ≤ s - fi
        · have hrt : runB fi co s = true := decide_eq_true hr
          obtain ⟨r0, r1, r2, r3⟩ := hr
          rw [hrt, Bool.true_and] at hst
          obtain ⟨a, rfl⟩ := Int.eq_ofNat_of_zero_le r0
          obtain ⟨m, rfl⟩ := Int.eq_ofNat_of_zero_le r1
          simp only [Int.toNat_natCast] at hst
          have HST := Lib.hid hst
          clear hst hrt
          go_wp2_with fail
          refine (may_yes _ _ _ _ r0 r1 r2 r3 (by omega)).mono ?_
          rintro e w' ⟨rfl, rfl⟩
          go_wp2_with fail
          refine (add_any w.heap.size a m F _ (HFA.out _) (by omega)).mono ?_
          rintro e w1 ⟨rfl, hB, hg⟩
          have HB1 := Lib.hid ((HA.out _).grown hg (HA.out _).size (fun k hk => by injection hk with hk; omega))
          clear hg
          cases hfree : freeB F a m
          · rw [hfree] at hB
            have hRf : R = false := by rw [HST.out, hfree]; rfl
            have HRF := Lib.hid hRf
            clear hRf hB hfree
            go_wp2_with fail
            go_ret
            exact ⟨by rw [HRF.out]; rfl, HB1.out⟩
          · have HBB := Lib.hid (hB hfree)
            have hRt : goB (ps.drop (k + 1)) s (addF F a m) = R := by rw [HST.out, hfree]; rfl
            have HRT := Lib.hid hRt
            clear hRt hB hfree
            go_wp2_with fail
            go_roundw
            case rel => exact ⟨k + 1, _, by omega, by go_num, Lib.hid ⟨HRT.out, HBB.out, HB1.out⟩⟩
            case measure => simp [intOf]; omega
        · have hrf : runB fi co s = false := decide_eq_false hr
          have hRf : R = false := by rw [hst, hrf]; rfl
          have HRF := Lib.hid hRf
          have HR2 := Lib.hid hr
          clear hRf hst hrf hr
          go_wp2_with fail
          refine (may_no _ _ _ _ HR2.out (by omega)).mono ?_
          rintro e w' ⟨rfl, rfl⟩
          go_wp2_with fail
          go_ret
          exact ⟨by rw [HRF.out]; rfl, HA.out _⟩
      · go_wp2_with fail
        go_ret
        exact ⟨by rw [← H.out.1, goB_end _ _ _ _ (by rw [HL.out]; omega)]; rfl, H.out.2.2⟩
  · have hR : extB ps s = false := by
      unfold extB; rw [hl]
      by_cases h1 : 1 ≤ n ∧ n ≤ 4
      · rw [decide_eq_false (show ¬ (0 ≤ s ∧ s ≤ 64) from fun h => hok ⟨h1, h⟩)]; simp
      · rw [decide_eq_false h1]; simp
    rw [hR]
    have hw : n < 1 ∨ (1 ≤ n ∧ 4 < n) ∨ (1 ≤ n ∧ n ≤ 4 ∧ s < 0) ∨ (1 ≤ n ∧ n ≤ 4 ∧ 0 ≤ s ∧ 64 < s) := by omega
    clear hR hok hl
    rcases hw with h1 | ⟨h1, h2⟩ | ⟨h1, h2, h3⟩ | ⟨h1, h2, h3, h4⟩
    all_goals
      go_enter Try.func69, Try.ntmps69
      go_wp2_with fail
      go_ret
      exact ⟨rfl, Below.refl _ _⟩

theorem toC_form {ps : List (Int × Int)} {part lba n : Int} (h : extB ps 64 = false ∨ ¬ (0 ≤ part ∧ part < (ps.length : Nat))) : toC ps part lba n = (0, 1800) := by
  unfold toC
  rw [if_neg]
  intro h2
  simp only [Bool.and_eq_true, decide_eq_true_eq] at h2
  rcases h with h | h
  · rw [h] at h2; cases h2.1
  · exact h h2.2
theorem toC_at {ps : List (Int × Int)} {p : Nat} {lba n : Int} (h : extB ps 64 = true) (hp : p < ps.length) : toC ps p lba n = if runB lba n (ps.getD p (0, 0)).2 = true then ((ps.getD p (0, 0)).1 + lba, 0) else (0, 1801) := by
  unfold toC
  rw [h, decide_eq_true (show 0 ≤ (p : Int) ∧ (p : Int) < (ps.length : Nat) by omega), Int.toNat_natCast]; rfl

end Go.Proofs.Ytamhnnkmjhapmaa
