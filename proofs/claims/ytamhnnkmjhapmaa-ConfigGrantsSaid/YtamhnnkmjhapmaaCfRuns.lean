/-
  Layer 21's law ConfigRuns.
-/
import Derived.Test.YtamhnnkmjhapmaaChAll
import Derived.Test.YtamhnnkmjhapmaaPlain2
namespace Go.Proofs.Ytamhnnkmjhapmaa
open Go.RowKit
set_option linter.unusedVariables false
set_option linter.unusedSimpArgs false
set_option maxRecDepth 100000

theorem spl_in (n : Nat) : ∀ a j, (∃ p ∈ spl a n, p.1 = j) ↔ (j * 64 < a + n ∧ a < (j + 1) * 64 ∧ 0 < n) := by
  induction n using Nat.strongRecOn with
  | ind n ih =>
    intro a j
    rcases Nat.eq_zero_or_pos n with h | h
    · subst h; simp [spl_zero]
    · have hs := spl_step a n h
      obtain ⟨k, hk⟩ : ∃ k, min n (64 - a % 64) = k := ⟨_, rfl⟩
      rw [hk] at hs
      rw [hs]
      have k1 : 0 < k := by omega
      have k2 : k ≤ n := by omega
      have k3 : k ≤ 64 - a % 64 := by omega
      have k4 : k = n ∨ k = 64 - a % 64 := by omega
      clear hk hs
      have := ih (n - k) (by omega) (a + k) j
      constructor
      · rintro ⟨p, hp, rfl⟩
        rcases List.mem_cons.1 hp with rfl | hp
        · clear this ih; simp only; omega
        · obtain ⟨h2, h3, h4⟩ := this.1 ⟨p, hp, rfl⟩
          clear this ih
          generalize p.1 = f at *
          clear hp
          omega
      · intro h2
        by_cases e : a / 64 = j
        · exact ⟨_, List.mem_cons_self, e⟩
        · have pre : j * 64 < a + k + (n - k) ∧ a + k < (j + 1) * 64 ∧ 0 < n - k := by clear this ih; omega
          obtain ⟨p, hp, e2⟩ := this.2 pre
          exact ⟨p, List.mem_cons_of_mem _ hp, e2⟩

theorem may_facts {c : Cf} (h : cfMay c = true) : (1 ≤ c.fr ∧ c.fr ≤ 64) ∧ 1 ≤ c.ps.length ∧ c.ps.length ≤ 4 ∧ unB c = true := by
  unfold cfMay at h
  simp only [Bool.and_eq_true] at h
  have h2 := h.2.1
  unfold psB at h2
  rw [Bool.and_eq_true] at h2
  have h3 := btw_iff.1 h2.1
  exact ⟨btw_iff.1 h.1, by omega, by omega, h.2.2.2.1⟩

/-- One byte. -/
theorem al_one {c : Cf} {b p : Nat} (hm : cfMay c = true) (hb : c.fr * 64 = (b : Nat)) (hp : p < c.ps.length) (x : Nat) (wr : Bool) : alB c p (x : Nat) 1 wr = (decide (x + 1 ≤ b) && rcB c p ((x / 64 : Nat) : Int) wr) := by
  unfold alB
  rw [hm, inP_at hp, hb, Bool.true_and, Bool.true_and]
  have e1 : spl x 1 = [(x / 64, x % 64, min 1 (64 - x % 64))] := by
    rw [spl_step x 1 (by omega)]
    have : 1 - min 1 (64 - x % 64) = 0 := by omega
    rw [this, spl_zero]
  have e2 : fitB (x : Int) 1 (b : Nat) = decide (x + 1 ≤ b) := by
    unfold fitB
    exact decide_eq_decide.2 (by omega)
  rw [e2]
  have e3 : (spl (x : Int).toNat (1 : Int).toNat) = [(x / 64, x % 64, min 1 (64 - x % 64))] := e1
  rw [e3]
  simp
theorem al_run {c : Cf} {b p : Nat} (hm : cfMay c = true) (hb : c.fr * 64 = (b : Nat)) (hp : p < c.ps.length) (a m : Nat) (ha : a < b) (wr : Bool) : alB c p (a : Nat) (m : Nat) wr = (List.range m).all (fun i => alB c p ((a + i : Nat) : Int) 1 wr) := by
  rw [Bool.eq_iff_iff, range_all_iff]
  have hL : alB c p (a : Nat) (m : Nat) wr = true ↔ a + m ≤ b ∧ ∀ x ∈ spl a m, rcB c p (x.1 : Nat) wr = true := by
    unfold alB
    rw [hm, inP_at hp, hb, Bool.true_and, Bool.true_and, Bool.and_eq_true, List.all_eq_true]
    unfold fitB
    rw [decide_eq_true_eq, Int.toNat_natCast, Int.toNat_natCast]
    constructor
    · rintro ⟨h1, h2⟩; exact ⟨by omega, h2⟩
    · rintro ⟨h1, h2⟩; exact ⟨by omega, h2⟩
  rw [hL]
  constructor
  · rintro ⟨h1, h2⟩ i hi
    rw [al_one hm hb hp, Bool.and_eq_true, decide_eq_true_eq]
    refine ⟨by omega, ?_⟩
    obtain ⟨x, hx, hxe⟩ := (spl_in m a ((a + i) / 64)).2 ⟨by omega, by omega, by omega⟩
    have := h2 x hx
    rw [hxe] at this
    exact this
  · intro h
    have h' : ∀ i, i < m → a + i + 1 ≤ b ∧ rcB c p (((a + i) / 64 : Nat) : Int) wr = true := by
      intro i hi
      have := h i hi
      rw [al_one hm hb hp, Bool.and_eq_true, decide_eq_true_eq] at this
      exact this
    refine ⟨?_, fun x hx => ?_⟩
    · by_cases h0 : m = 0
      · omega
      · have := (h' (m - 1) (by omega)).1; omega
    · obtain ⟨h1, h2, h3⟩ := (spl_in m a x.1).1 ⟨x, hx, rfl⟩
      have h4 := (h' (max a (x.1 * 64) - a) (by omega)).2
      have e : (a + (max a (x.1 * 64) - a)) / 64 = x.1 := by omega
      rw [e] at h4
      exact h4

set_option maxHeartbeats 4000000 in
theorem law_ConfigRuns (c : Cf) (vp vd vw vg : Value) (a1 a2 a3 : Int) (w : World) (h : CfAt w vp vd vw vg c) :
    Calls Try.prog 6 #[.agg #[.int .i64 c.fr, vp, vd, .int .i64 c.mj, vw, vg, .int .i64 c.se, .int .i64 c.qu, .int .i64 c.qt], .int .i64 a1, .int .i64 a2, .int .i64 a3] w fun e w' => e = .returned (.bool true) ∧ Below w.heap.size w w' := by
  obtain ⟨hb, hB⟩ := cf_box w c vp vd vw vg
  obtain ⟨Ap, capp, hvp, -⟩ := h.ps
  subst hvp
  have hpz := h.pz.1
  have HB := Lib.hid hB; have HV := Lib.hid hb; have H1 := Lib.hid (h.below hB)
  have hlt1 : w.heap.size < (w.alloc (.cells #[.int .i64 c.fr, .slice Ap c.ps.length capp, vd, .int .i64 c.mj, vw, vg, .int .i64 c.se, .int .i64 c.qu, .int .i64 c.qt] 27)).heap.size := by simp
  clear h hb hB
  generalize hn : c.ps.length = n at *
  have HN := Lib.hid hn
  clear hn
  cases hm : cfMay c with
  | false =>
    have HM := Lib.hid hm
    clear hm
    go_enter Try.func6, Try.ntmps6
    go_wp2_with fail
    generalize w.alloc (.cells #[.int .i64 c.fr, .slice Ap n capp, vd, .int .i64 c.mj, vw, vg, .int .i64 c.se, .int .i64 c.qu, .int .i64 c.qt] 27) = w1 at *
    refine (cawake_any _).mono ?_
    rintro e w2 ⟨rfl, b2⟩
    obtain ⟨f0, f1, f2, f3, f4, f5, f6, f7, f8⟩ := cf_at (HV.out.below b2 hlt1)
    go_wp2_with fail
    refine (may_is (H1.out.below b2) false HM.out).mono ?_
    rintro e w3 ⟨rfl, b3⟩
    have b3' := Below.down b2 b3 b2.size
    clear f0 f1 f2 f3 f4 f5 f6 f7 f8 b3 b2
    obtain ⟨f0, f1, f2, f3, f4, f5, f6, f7, f8⟩ := cf_at (HV.out.below b3' hlt1)
    go_wp2_with fail
    refine (reads_is (H1.out.below b3') _ _ _ false (alB_no HM.out _ _ _ _)).mono ?_
    rintro e w4 ⟨rfl, b4⟩
    go_wp2_with fail
    go_ret
    exact ⟨rfl, Below.down HB.out (Below.down b3' b4 b3'.size) HB.out.size⟩
  | true =>
    obtain ⟨⟨F1, F2⟩, n1, n4, -⟩ := may_facts hm
    rw [HN.out] at n1 n4
    obtain ⟨F, hFe⟩ : ∃ F : Nat, c.fr = F := ⟨c.fr.toNat, by omega⟩
    have HM := Lib.hid hm
    have HFe := Lib.hid hFe
    rw [hFe] at HB HV H1 hlt1 F1 F2 ⊢
    have hA := u64b a1
    have hA2 := u64b a2
    generalize hA' : IntKind.u64.wrap a1 = A at hA
    generalize hB' : IntKind.u64.wrap a2 = B at hA2
    obtain ⟨hA0, hA1⟩ := hA
    obtain ⟨hB0, hB1⟩ := hA2
    have hP0 : 0 ≤ A % (n : Int) := Int.emod_nonneg _ (by omega)
    have hP1 : A % (n : Int) < n := Int.emod_lt_of_pos _ (by omega)
    generalize hP' : A % (n : Int) = P at hP0 hP1
    have hX0 : 0 ≤ B % ((F : Int) * 64) := Int.emod_nonneg _ (by omega)
    have hX1 : B % ((F : Int) * 64) < (F : Int) * 64 := Int.emod_lt_of_pos _ (by omega)
    generalize hX' : B % ((F : Int) * 64) = X at hX0 hX1
    have hM := band a3 127 (by omega) (by omega)
    generalize hM' : bits BinOp.and IntKind.i64 a3 127 = M at hM
    obtain ⟨hM0, hM1⟩ := hM
    clear hm hFe
    go_enter Try.func6, Try.ntmps6
    go_wp2_with fail
    generalize w.alloc (.cells #[.int .i64 (F : Int), .slice Ap n capp, vd, .int .i64 c.mj, vw, vg, .int .i64 c.se, .int .i64 c.qu, .int .i64 c.qt] 27) = w1 at *
    refine (cawake_any _).mono ?_
    rintro e w2 ⟨rfl, b2⟩
    have HV1 : Hid (∀ W, Below w1.heap.size w1 W → W.cell? ⟨w.heap.size, 0, none⟩ = some (.int .i64 (F : Int)) ∧ W.cell? ⟨w.heap.size, 1, none⟩ = some (.slice Ap n capp) ∧ W.cell? ⟨w.heap.size, 2, none⟩ = some vd ∧ W.cell? ⟨w.heap.size, 3, none⟩ = some (.int .i64 c.mj) ∧ W.cell? ⟨w.heap.size, 4, none⟩ = some vw ∧ W.cell? ⟨w.heap.size, 5, none⟩ = some vg ∧ W.cell? ⟨w.heap.size, 6, none⟩ = some (.int .i64 c.se) ∧ W.cell? ⟨w.heap.size, 7, none⟩ = some (.int .i64 c.qu) ∧ W.cell? ⟨w.heap.size, 8, none⟩ = some (.int .i64 c.qt)) := Lib.hid (fun W hW => by
      have := cf_at (HV.out.below hW hlt1)
      rw [HFe.out] at this
      exact this)
    have HMY := Lib.hid (fun (W : World) (hW : Below w1.heap.size w1 W) => may_is (H1.out.below hW) true HM.out)
    have HRD := Lib.hid (fun (W : World) (hW : Below w1.heap.size w1 W) (p a n : Int) => creads_any (H1.out.below hW) p a n)
    have HWR := Lib.hid (fun (W : World) (hW : Below w1.heap.size w1 W) (p a n : Int) => cwrites_any (H1.out.below hW) p a n)
    rw [HFe.out] at HMY HRD HWR
    obtain ⟨f0, f1, f2, f3, f4, f5, f6, f7, f8⟩ := HV1.out _ b2
    go_wp2_with fail
    refine (HMY.out _ b2).mono ?_
    rintro e w3 ⟨rfl, b3⟩
    have b3' := Below.down b2 b3 b2.size
    clear f0 f1 f2 f3 f4 f5 f6 f7 f8 b3 b2
    obtain ⟨f0, f1, f2, f3, f4, f5, f6, f7, f8⟩ := HV1.out _ b3'
    go_wp2_with fail
    clear hA' hB' hP' hX' hM' hA0 hA1 hB0 hB1 f0 f1 f2 f3 f4 f5 f6 f7 f8
    obtain ⟨p, rfl⟩ := Int.eq_ofNat_of_zero_le hP0
    obtain ⟨a, rfl⟩ := Int.eq_ofNat_of_zero_le hX0
    obtain ⟨m, rfl⟩ := Int.eq_ofNat_of_zero_le hM0
    have hpn : p < n := by omega
    have HRUN := Lib.hid (fun wr => al_run (c := c) (b := F * 64) (p := p) HM.out (by rw [HFe.out]; omega) (by rw [HN.out]; exact hpn) a m (by omega) wr)
    have HB3 := Lib.hid b3'
    clear b3'
    go_loopw [12, 13, 14] (fun r q i wr => ∃ (k : Nat) (R Q : Bool), k ≤ m ∧ r = .bool R ∧ q = .bool Q ∧ i = .int .i64 ((a + k : Nat) : Int) ∧ Hid ((List.range k).all (fun i => alB c p ((a + i : Nat) : Int) 1 false) = R ∧ (List.range k).all (fun i => alB c p ((a + i : Nat) : Int) 1 true) = Q ∧ Below w1.heap.size w1 wr)) (fun _ _ i _ => a + m - (intOf i).toNat)
    case atStart => exact ⟨0, true, true, by omega, rfl, rfl, by simp, Lib.hid ⟨rfl, rfl, HB3.out⟩⟩
    case round =>
      obtain ⟨k, R, Q, hk, rfl, rfl, rfl, H⟩ := hrel
      obtain ⟨hR, hQ, hbel⟩ := H.out
      obtain ⟨f0, f1, f2, f3, f4, f5, f6, f7, f8⟩ := HV1.out _ hbel
      by_cases hlt : k < m
      · have hakm : a + k < a + m := by omega
        have HRS : Hid ((List.range (k + 1)).all (fun i => alB c p ((a + i : Nat) : Int) 1 false) = (R && alB c p ((a + k : Nat) : Int) 1 false)) := Lib.hid (by rw [List.range_succ, List.all_append, hR]; simp)
        have HQS : Hid ((List.range (k + 1)).all (fun i => alB c p ((a + i : Nat) : Int) 1 true) = (Q && alB c p ((a + k : Nat) : Int) 1 true)) := Lib.hid (by rw [List.range_succ, List.all_append, hQ]; simp)
        have HBE := Lib.hid hbel
        clear hR hQ hbel H
        generalize hak : a + k = x at *
        have HAK := Lib.hid hak
        clear hak
        cases R with
        | true =>
          go_wp2_with fail
          refine (HRD.out _ HBE.out _ _ _).mono ?_
          rintro e w4 ⟨rfl, b4⟩
          have HB4 := Lib.hid (Below.down HBE.out b4 HBE.out.size)
          clear f0 f1 f2 f3 f4 f5 f6 f7 f8 b4
          obtain ⟨f0, f1, f2, f3, f4, f5, f6, f7, f8⟩ := HV1.out _ HB4.out
          cases Q with
          | true =>
            go_wp2_with fail
            refine (HWR.out _ HB4.out _ _ _).mono ?_
            rintro e w5 ⟨rfl, b5⟩
            have HB5 := Lib.hid (Below.down HB4.out b5 HB4.out.size)
            clear b5
            go_wp2_with fail
            go_roundw
            case rel => exact ⟨k + 1, _, _, by omega, rfl, rfl, by have e := HAK.out; subst e; go_num, Lib.hid ⟨HRS.out, HQS.out, HB5.out⟩⟩
            case measure => have e := HAK.out; simp [intOf]; omega
          | false =>
            go_wp2_with fail
            go_roundw
            case rel => exact ⟨k + 1, _, false, by omega, rfl, rfl, by have e := HAK.out; subst e; go_num, Lib.hid ⟨HRS.out, HQS.out, HB4.out⟩⟩
            case measure => have e := HAK.out; simp [intOf]; omega
        | false =>
          cases Q with
          | true =>
            go_wp2_with fail
            refine (HWR.out _ HBE.out _ _ _).mono ?_
            rintro e w5 ⟨rfl, b5⟩
            have HB5 := Lib.hid (Below.down HBE.out b5 HBE.out.size)
            clear b5
            go_wp2_with fail
            go_roundw
            case rel => exact ⟨k + 1, false, _, by omega, rfl, rfl, by have e := HAK.out; subst e; go_num, Lib.hid ⟨HRS.out, HQS.out, HB5.out⟩⟩
            case measure => have e := HAK.out; simp [intOf]; omega
          | false =>
            go_wp2_with fail
            go_roundw
            case rel => exact ⟨k + 1, false, false, by omega, rfl, rfl, by have e := HAK.out; subst e; go_num, Lib.hid ⟨HRS.out, HQS.out, HBE.out⟩⟩
            case measure => have e := HAK.out; simp [intOf]; omega
      · obtain rfl : k = m := by omega
        have eR : R = alB c p (a : Nat) (k : Nat) false := by rw [← hR, HRUN.out]
        have eQ : Q = alB c p (a : Nat) (k : Nat) true := by rw [← hQ, HRUN.out]
        subst eR eQ
        have HBE := Lib.hid hbel
        clear hR hQ hbel H
        go_wp2_with fail
        refine (HRD.out _ HBE.out _ _ _).mono ?_
        rintro e w4 ⟨rfl, b4⟩
        have HB4 := Lib.hid (Below.down HBE.out b4 HBE.out.size)
        clear f0 f1 f2 f3 f4 f5 f6 f7 f8 b4
        obtain ⟨f0, f1, f2, f3, f4, f5, f6, f7, f8⟩ := HV1.out _ HB4.out
        go_wp2_with fail
        refine (HWR.out _ HB4.out _ _ _).mono ?_
        rintro e w5 ⟨rfl, b5⟩
        have HB5 := Lib.hid (Below.down HB4.out b5 HB4.out.size)
        clear b5
        go_wp2_with fail
        go_ret
        exact ⟨rfl, Below.down HB.out HB5.out HB.out.size⟩

end Go.Proofs.Ytamhnnkmjhapmaa
