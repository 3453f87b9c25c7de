/-
  Layer 21's law ConfigApart.
-/
import Derived.Test.YtamhnnkmjhapmaaCfLaw
import Derived.Test.YtamhnnkmjhapmaaCfRuns
namespace Go.Proofs.Ytamhnnkmjhapmaa
open Go.RowKit
set_option linter.unusedVariables false
set_option linter.unusedSimpArgs false
set_option maxRecDepth 100000

/-- How many of the first k partitions a number is. -/
def mny (o : Int) (k : Nat) : Int := if 0 ≤ o ∧ o < (k : Int) then 1 else 0
theorem mny_yes {o : Int} {k : Nat} (h : o = (k : Int)) : mny o (k + 1) = mny o k + 1 := by
  unfold mny
  rw [if_pos (by omega), if_neg (by omega)]; rfl
theorem mny_no {o : Int} {k : Nat} (h : o ≠ (k : Int)) : mny o (k + 1) = mny o k := by
  unfold mny
  by_cases hk : 0 ≤ o ∧ o < (k : Int)
  · rw [if_pos (by omega), if_pos hk]
  · rw [if_neg (by omega), if_neg hk]
theorem mny_le (o : Int) (k : Nat) : 0 ≤ mny o k ∧ mny o k ≤ 1 := by unfold mny; split <;> omega

/-- A config without its grants. -/
def ngC (c : Cf) : Cf := { c with gs := [] }
theorem ng_may {c : Cf} (h : cfMay c = true) : cfMay (ngC c) = true := by
  unfold cfMay at h ⊢
  simp only [Bool.and_eq_true] at h ⊢
  exact ⟨h.1, h.2.1, h.2.2.1, h.2.2.2.1, h.2.2.2.2.1, rfl, h.2.2.2.2.2.2⟩
theorem ng_cf {w : World} {vp vd vw vg : Value} {c : Cf} (h : CfAt w vp vd vw vg c) : CfAt w vp vd vw (.slice none 0 0) (ngC c) :=
  ⟨h.ps, h.pz, h.ds, h.dz, h.ws, h.wz, h.wn, Gs.nil w, by simp [ngC], none_nil⟩
theorem rc_own {c : Cf} {p f : Int} (wr : Bool) (h : ownF c f = p) : rcB c p f wr = true := by unfold rcB; rw [decide_eq_true h]; rfl
theorem rc_wr {c : Cf} {p f : Int} (h : rcB c p f true = true) : rcB c p f false = true := by
  unfold rcB at h ⊢
  rw [Bool.or_eq_true] at h ⊢
  rcases h with h | h
  · exact .inl h
  · right
    rw [List.any_eq_true] at h ⊢
    obtain ⟨g, hg, hb⟩ := h
    refine ⟨g, hg, ?_⟩
    rw [Bool.and_eq_true] at hb ⊢
    exact ⟨hb.1, by simp⟩
theorem rc_ng (c : Cf) (p f : Int) (wr : Bool) : rcB (ngC c) p f wr = decide (ownF c f = p) := by
  unfold rcB
  show (decide (ownF c f = p) || [].any _) = _
  simp

set_option maxHeartbeats 8000000 in
theorem law_ConfigApart (c : Cf) (vp vd vw vg : Value) (a1 a2 : Int) (w : World) (h : CfAt w vp vd vw vg c) :
    Calls Try.prog 4 #[.agg #[.int .i64 c.fr, vp, vd, .int .i64 c.mj, vw, vg, .int .i64 c.se, .int .i64 c.qu, .int .i64 c.qt], .int .i64 a1, .int .i64 a2] w fun e w' => e = .returned (.bool true) ∧ Below w.heap.size w w' := by
  obtain ⟨hb, hB⟩ := cf_box w c vp vd vw vg
  obtain ⟨A1, n, k1, A2, n2, k2, A3, n3, k3, A4, n4, k4, ep, ed, ew, eg⟩ := h.forms
  have hnn : n = c.ps.length := by
    obtain ⟨A, k, e, _⟩ := h.ps
    rw [ep] at e
    simp only [Value.slice.injEq] at e
    exact e.2.1
  have hpz := h.pz.1
  subst ep ed ew eg
  rw [← hnn] at hpz
  have HB := Lib.hid hB; have HV := Lib.hid hb; have H1 := Lib.hid (h.below hB)
  have hlt1 : w.heap.size < (w.alloc (.cells #[.int .i64 c.fr, .slice A1 n k1, .slice A2 n2 k2, .int .i64 c.mj, .slice A3 n3 k3, .slice A4 n4 k4, .int .i64 c.se, .int .i64 c.qu, .int .i64 c.qt] 27)).heap.size := by simp
  clear h hb hB
  have HN := Lib.hid hnn.symm
  clear hnn
  cases hm : cfMay c with
  | false =>
    have HM := Lib.hid hm
    clear hm
    go_enter Try.func4, Try.ntmps4
    go_wp2_with fail
    generalize w.alloc (.cells #[.int .i64 c.fr, .slice A1 n k1, .slice A2 n2 k2, .int .i64 c.mj, .slice A3 n3 k3, .slice A4 n4 k4, .int .i64 c.se, .int .i64 c.qu, .int .i64 c.qt] 27) = w1 at *
    refine (cawake_any _).mono ?_
    rintro e w2 ⟨rfl, b2⟩
    obtain ⟨f0, f1, f2, f3, f4, f5, f6, f7, f8⟩ := cf_at (HV.out.below b2 hlt1)
    go_wp2_with fail
    refine (may_is (H1.out.below b2) false HM.out).mono ?_
    rintro e w3 ⟨rfl, b3⟩
    have b3' := Below.down b2 b3 b2.size
    clear f0 f1 f2 f3 f4 f5 f6 f7 f8 b3 b2
    obtain ⟨f0, f1, f2, f3, f4, f5, f6, f7, f8⟩ := cf_at (HV.out.below b3' hlt1)
    go_wp2_with fail
    refine (reads_is (H1.out.below b3') _ _ _ false (alB_no HM.out _ _ _ _)).mono ?_
    rintro e w4 ⟨rfl, b4⟩
    have b4' := Below.down b3' b4 b3'.size
    clear f0 f1 f2 f3 f4 f5 f6 f7 f8 b3' b4
    obtain ⟨f0, f1, f2, f3, f4, f5, f6, f7, f8⟩ := cf_at (HV.out.below b4' hlt1)
    go_wp2_with fail
    refine (writes_is (H1.out.below b4') _ _ _ false (alB_no HM.out _ _ _ _)).mono ?_
    rintro e w5 ⟨rfl, b5⟩
    go_wp2_with fail
    go_ret
    exact ⟨rfl, Below.down HB.out (Below.down b4' b5 b4'.size) HB.out.size⟩
  | true =>
    obtain ⟨⟨F1, F2⟩, hn1, hn4, -⟩ := may_facts hm
    rw [HN.out] at hn1 hn4
    have HM := Lib.hid hm
    have hA := u64b a1
    generalize hA' : IntKind.u64.wrap a1 = A at hA
    obtain ⟨hA0, hA1⟩ := hA
    have hX0 : 0 ≤ A % (c.fr * 64) := Int.emod_nonneg _ (by omega)
    have hX1 : A % (c.fr * 64) < c.fr * 64 := Int.emod_lt_of_pos _ (by omega)
    generalize hX' : A % (c.fr * 64) = X at hX0 hX1
    have hM := band a2 7 (by omega) (by omega)
    generalize hM' : bits BinOp.and IntKind.i64 a2 7 = M at hM
    obtain ⟨hM0, hM1⟩ := hM
    clear hm
    go_enter Try.func4, Try.ntmps4
    go_wp2_with fail
    generalize w.alloc (.cells #[.int .i64 c.fr, .slice A1 n k1, .slice A2 n2 k2, .int .i64 c.mj, .slice A3 n3 k3, .slice A4 n4 k4, .int .i64 c.se, .int .i64 c.qu, .int .i64 c.qt] 27) = w1 at *
    refine (cawake_any _).mono ?_
    rintro e w2 ⟨rfl, b2⟩
    obtain ⟨f0, f1, f2, f3, f4, f5, f6, f7, f8⟩ := cf_at (HV.out.below b2 hlt1)
    go_wp2_with fail
    refine (may_is (H1.out.below b2) true HM.out).mono ?_
    rintro e w3 ⟨rfl, b3⟩
    have b3' := Below.down b2 b3 b2.size
    clear f0 f1 f2 f3 f4 f5 f6 f7 f8 b3 b2
    have hV3 := HV.out.below b3' hlt1
    obtain ⟨f0, f1, f2, f3, f4, f5, f6, f7, f8⟩ := cf_at hV3
    have hA4 : Below w3.heap.size w3 (w3.alloc (.cells #[.int .i64 c.fr, .slice A1 n k1, .slice A2 n2 k2, .int .i64 c.mj, .slice A3 n3 k3, .slice none 0 0, .int .i64 c.se, .int .i64 c.qu, .int .i64 c.qt] 27)) := (Below.refl _ _).alloc (Nat.le_refl _) _
    have hS4 : CgS (w3.alloc (.cells #[.int .i64 c.fr, .slice A1 n k1, .slice A2 n2 k2, .int .i64 c.mj, .slice A3 n3 k3, .slice none 0 0, .int .i64 c.se, .int .i64 c.qu, .int .i64 c.qt] 27)) c (.slice A1 n k1) (.slice A2 n2 k2) (.slice A3 n3 k3) (.slice A4 n4 k4) (.slice A1 n k1) (.slice A2 n2 k2) (.slice A3 n3 k3) (.slice none 0 0) w.heap.size w3.heap.size (w3.alloc (.cells #[.int .i64 c.fr, .slice A1 n k1, .slice A2 n2 k2, .int .i64 c.mj, .slice A3 n3 k3, .slice none 0 0, .int .i64 c.se, .int .i64 c.qu, .int .i64 c.qt] 27)) :=
      ⟨hV3.alloc _, Blk.new w3 _ (cfc c (.slice A1 n k1) (.slice A2 n2 k2) (.slice A3 n3 k3) (.slice none 0 0)), Below.refl _ _⟩
    have HCF := Lib.hid ((H1.out.below b3').below hA4)
    have HB4 := Lib.hid (Below.down (Below.down HB.out b3' HB.out.size) hA4 (by have := HB.out.size; have := b3'.size; omega))
    have HS4 := Lib.hid hS4
    obtain ⟨⟨y0, y1, y2, y3, y4, y5, y6, y7, y8⟩, -, -⟩ := hS4.all
    clear b3' hV3 hA4 hS4
    go_wp2_with fail
    generalize w3.alloc (.cells #[.int .i64 c.fr, .slice A1 n k1, .slice A2 n2 k2, .int .i64 c.mj, .slice A3 n3 k3, .slice none 0 0, .int .i64 c.se, .int .i64 c.qu, .int .i64 c.qt] 27) = w4 at *
    generalize w3.heap.size = g2 at *
    clear f0 f1 f2 f3 f4 f5 f6 f7 f8 y0 y1 y2 y3 y4 y5 y6 y7 y8 hA' hX' hA0 hA1
    obtain ⟨a, rfl⟩ := Int.eq_ofNat_of_zero_le hX0
    obtain ⟨b, hbF⟩ : ∃ b : Nat, c.fr * 64 = b := ⟨(c.fr * 64).toNat, by omega⟩
    have hab : a < b := by omega
    have HAL := Lib.hid (fun (p : Nat) (hp : p < n) (wr : Bool) => (show alB c (p : Nat) (a : Nat) 1 wr = rcB c p ((a / 64 : Nat) : Int) wr from by
      rw [al_one HM.out hbF (by rw [HN.out]; exact hp), decide_eq_true (show a + 1 ≤ b by omega), Bool.true_and]))
    have HAN := Lib.hid (fun (p : Nat) (hp : p < n) (wr : Bool) => (show alB (ngC c) (p : Nat) (a : Nat) 1 wr = decide (ownF c ((a / 64 : Nat) : Int) = (p : Int)) from by
      rw [al_one (c := ngC c) (ng_may HM.out) hbF (by show p < c.ps.length; rw [HN.out]; exact hp), decide_eq_true (show a + 1 ≤ b by omega), Bool.true_and, rc_ng]))
    have HWC := Lib.hid (fun (W : World) (hW : Below w4.heap.size w4 W) (p : Int) => cwrites_any (HCF.out.below hW) p (a : Int) 1)
    have HRC := Lib.hid (fun (W : World) (hW : Below w4.heap.size w4 W) (p : Int) => creads_any (HCF.out.below hW) p (a : Int) 1)
    have HRD : Hid (∀ (W : World), Below w4.heap.size w4 W → ∀ p : Int, Calls Try.prog 11 #[.agg #[.int .i64 c.fr, .slice A1 n k1, .slice A2 n2 k2, .int .i64 c.mj, .slice A3 n3 k3, .slice none 0 0, .int .i64 c.se, .int .i64 c.qu, .int .i64 c.qt], .int .i64 p, .int .i64 (a : Int), .int .i64 1] W fun e w' => e = .returned (.bool (alB (ngC c) p (a : Int) 1 false)) ∧ Below W.heap.size W w') := Lib.hid (fun W hW p => creads_any (ng_cf (HCF.out.below hW)) p (a : Int) 1)
    have HWD : Hid (∀ (W : World), Below w4.heap.size w4 W → ∀ p : Int, Calls Try.prog 13 #[.agg #[.int .i64 c.fr, .slice A1 n k1, .slice A2 n2 k2, .int .i64 c.mj, .slice A3 n3 k3, .slice none 0 0, .int .i64 c.se, .int .i64 c.qu, .int .i64 c.qt], .int .i64 p, .int .i64 (a : Int), .int .i64 1] W fun e w' => e = .returned (.bool (alB (ngC c) p (a : Int) 1 true)) ∧ Below W.heap.size W w') := Lib.hid (fun W hW p => cwrites_any (ng_cf (HCF.out.below hW)) p (a : Int) 1)
    have HMD : Hid (∀ (W : World), Below w4.heap.size w4 W → Calls Try.prog 9 #[.agg #[.int .i64 c.fr, .slice A1 n k1, .slice A2 n2 k2, .int .i64 c.mj, .slice A3 n3 k3, .slice none 0 0, .int .i64 c.se, .int .i64 c.qu, .int .i64 c.qt]] W fun e w' => e = .returned (.bool true) ∧ Below W.heap.size W w') := Lib.hid (fun W hW => may_is (ng_cf (HCF.out.below hW)) true (ng_may HM.out))
    obtain ⟨g1, hg1⟩ : ∃ g1, w.heap.size = g1 := ⟨_, rfl⟩
    have HG1 := Lib.hid hg1
    rw [hg1] at HS4 ⊢
    clear hg1 hlt1 hX0 hX1 hbF hab
    have hM2 : M ≤ 7 := hM1
    go_loopw [9, 10] (fun m i wr => ∃ (k : Nat) (q : Int), k ≤ n ∧ m = .int .i64 q ∧ i = .int .i64 k ∧ Hid (q = mny (ownF c ((a / 64 : Nat) : Int)) k ∧ CgS w4 c (.slice A1 n k1) (.slice A2 n2 k2) (.slice A3 n3 k3) (.slice A4 n4 k4) (.slice A1 n k1) (.slice A2 n2 k2) (.slice A3 n3 k3) (.slice none 0 0) g1 g2 wr)) (fun _ i _ => n - (intOf i).toNat)
    case atStart => exact ⟨0, 0, by omega, rfl, rfl, Lib.hid ⟨by unfold mny; rw [if_neg (by omega)], HS4.out⟩⟩
    case round =>
      obtain ⟨k, q, hk, rfl, rfl, H⟩ := hrel
      obtain ⟨hq, hS⟩ := H.out
      obtain ⟨⟨f0, f1, f2, f3, f4, f5, f6, f7, f8⟩, ⟨x0, x1, x2, x3, x4, x5, x6, x7, x8⟩, hS'⟩ := hS.all
      have HQ := Lib.hid hq
      have hq1 := mny_le (ownF c ((a / 64 : Nat) : Int)) k
      rw [← hq] at hq1
      obtain ⟨hq0, hq2⟩ := hq1
      have HS := Lib.hid hS
      clear hq H hS
      by_cases hlt : k < n
      · have EAL := fun wr => HAL.out k hlt wr
        have EAN := fun wr => HAN.out k hlt wr
        by_cases hoo : ownF c ((a / 64 : Nat) : Int) = (k : Int)
        · have HOO := Lib.hid hoo
          have EWC : Hid (alB c (k : Int) (a : Int) 1 true = true) := Lib.hid (by rw [EAL, rc_own true hoo])
          have ERC : Hid (alB c (k : Int) (a : Int) 1 false = true) := Lib.hid (by rw [EAL, rc_own false hoo])
          have ERD : Hid (alB (ngC c) (k : Int) (a : Int) 1 false = true) := Lib.hid (by rw [EAN, decide_eq_true hoo])
          have EWD : Hid (alB (ngC c) (k : Int) (a : Int) 1 true = true) := Lib.hid (by rw [EAN, decide_eq_true hoo])
          clear EAL EAN hoo
          go_wp2_with fail
          refine wp_region_held_drew (S := (fun w' => (w'.cell? ⟨g1, 0, none⟩ = some (.int .i64 c.fr) ∧ w'.cell? ⟨g1, 1, none⟩ = some (.slice A1 n k1) ∧ w'.cell? ⟨g1, 2, none⟩ = some (.slice A2 n2 k2) ∧ w'.cell? ⟨g1, 3, none⟩ = some (.int .i64 c.mj) ∧ w'.cell? ⟨g1, 4, none⟩ = some (.slice A3 n3 k3) ∧ w'.cell? ⟨g1, 5, none⟩ = some (.slice A4 n4 k4) ∧ w'.cell? ⟨g1, 6, none⟩ = some (.int .i64 c.se) ∧ w'.cell? ⟨g1, 7, none⟩ = some (.int .i64 c.qu) ∧ w'.cell? ⟨g1, 8, none⟩ = some (.int .i64 c.qt)) ∧ (w'.cell? ⟨g2, 0, none⟩ = some (.int .i64 c.fr) ∧ w'.cell? ⟨g2, 1, none⟩ = some (.slice A1 n k1) ∧ w'.cell? ⟨g2, 2, none⟩ = some (.slice A2 n2 k2) ∧ w'.cell? ⟨g2, 3, none⟩ = some (.int .i64 c.mj) ∧ w'.cell? ⟨g2, 4, none⟩ = some (.slice A3 n3 k3) ∧ w'.cell? ⟨g2, 5, none⟩ = some (.slice none 0 0) ∧ w'.cell? ⟨g2, 6, none⟩ = some (.int .i64 c.se) ∧ w'.cell? ⟨g2, 7, none⟩ = some (.int .i64 c.qu) ∧ w'.cell? ⟨g2, 8, none⟩ = some (.int .i64 c.qt)) ∧ CgS w4 c (.slice A1 n k1) (.slice A2 n2 k2) (.slice A3 n3 k3) (.slice A4 n4 k4) (.slice A1 n k1) (.slice A2 n2 k2) (.slice A3 n3 k3) (.slice none 0 0) g1 g2 w')) (by kernel_rfl) ?_ (fun hHeld => ?_)
          · try dsimp only
            (go_split_ands; refine CgS.all ?_; (first | assumption | (exact CgS.drew (by assumption)) | (exact CgS.next (by assumption) (by assumption))))
          refine wpAnyH_take (i := 0) (v := ?v0zT) rfl (by kernel_rfl) (by kernel_rfl) (by kernel_rfl) (fun _ _ _ h => h) (Or.inl ⟨by rfl, ?hy0zT⟩) (by assumption) ?rest0zT
          case hy0zT => intro w hSw; (try dsimp only at hSw); first | (go_simp; done) | (go_simp; with_reducible rfl)
          try simp only [Act.put, List.getElem_toArray, List.getElem_cons_succ, List.getElem_cons_zero, List.setIfInBounds_toArray, List.set_cons_zero, List.set_cons_succ]
          refine wpAnyH_take (i := 1) (v := ?v1zT) rfl (by kernel_rfl) (by kernel_rfl) (by kernel_rfl) (fun _ _ _ h => h) (Or.inl ⟨by rfl, ?hy1zT⟩) (by assumption) ?rest1zT
          case hy1zT => intro w hSw; (try dsimp only at hSw); first | (go_simp; done) | (go_simp; with_reducible rfl)
          try simp only [Act.put, List.getElem_toArray, List.getElem_cons_succ, List.getElem_cons_zero, List.setIfInBounds_toArray, List.set_cons_zero, List.set_cons_succ]
          refine wpAnyH_take (i := 2) (v := ?v2zT) rfl (by kernel_rfl) (by kernel_rfl) (by kernel_rfl) (fun _ _ _ h => h) (Or.inl ⟨by rfl, ?hy2zT⟩) (by assumption) ?rest2zT
          case hy2zT => intro w hSw; (try dsimp only at hSw); first | (go_simp; done) | (go_simp; with_reducible rfl)
          try simp only [Act.put, List.getElem_toArray, List.getElem_cons_succ, List.getElem_cons_zero, List.setIfInBounds_toArray, List.set_cons_zero, List.set_cons_succ]
          refine wpAnyH_ready (rs := [3]) (by kernel_rfl) (by simp) ?_
          refine AllReadyH.cons rfl (fun K hK => ?_) AllReadyH.nil
          go_simp
          refine (HWC.out _ hHeld.2.2.below (k : Int)).mono ?_
          rintro e wk ⟨rfl, hbk⟩
          rw [EWC.out]
          go_wp2_with fail
          refine hK.out _ _ ?_ (fun hHeld2 => ?_)
          · try dsimp only
            (go_split_ands; refine CgS.all ?_; (first | assumption | (exact CgS.drew (by assumption)) | (exact CgS.next (by assumption) (by assumption))))
          clear hK K hHeld
          have hHeld := hHeld2; clear hHeld2
          try simp only [Act.put, List.getElem_toArray, List.getElem_cons_succ, List.getElem_cons_zero, List.setIfInBounds_toArray, List.set_cons_zero, List.set_cons_succ]
          refine wpAnyH_take (i := 4) (v := ?v4zT) rfl (by kernel_rfl) (by kernel_rfl) (by kernel_rfl) (fun _ _ _ h => h) (Or.inl ⟨by rfl, ?hy4zT⟩) (by assumption) ?rest4zT
          case hy4zT => intro w hSw; (try dsimp only at hSw); first | (go_simp; done) | (go_simp; with_reducible rfl)
          try simp only [Act.put, List.getElem_toArray, List.getElem_cons_succ, List.getElem_cons_zero, List.setIfInBounds_toArray, List.set_cons_zero, List.set_cons_succ]
          refine wpAnyH_take (i := 5) (v := ?v5zT) rfl (by kernel_rfl) (by kernel_rfl) (by kernel_rfl) (fun _ _ _ h => h) (Or.inl ⟨by rfl, ?hy5zT⟩) (by assumption) ?rest5zT
          case hy5zT => intro w hSw; (try dsimp only at hSw); first | (go_simp; done) | (go_simp; with_reducible rfl)
          try simp only [Act.put, List.getElem_toArray, List.getElem_cons_succ, List.getElem_cons_zero, List.setIfInBounds_toArray, List.set_cons_zero, List.set_cons_succ]
          refine wpAnyH_take (i := 6) (v := ?v6zT) rfl (by kernel_rfl) (by kernel_rfl) (by kernel_rfl) (fun _ _ _ h => h) (Or.inl ⟨by rfl, ?hy6zT⟩) (by assumption) ?rest6zT
          case hy6zT => intro w hSw; (try dsimp only at hSw); first | (go_simp; done) | (go_simp; with_reducible rfl)
          try simp only [Act.put, List.getElem_toArray, List.getElem_cons_succ, List.getElem_cons_zero, List.setIfInBounds_toArray, List.set_cons_zero, List.set_cons_succ]
          refine wpAnyH_take (i := 7) (v := ?v7zT) rfl (by kernel_rfl) (by kernel_rfl) (by kernel_rfl) (fun _ _ _ h => h) (Or.inl ⟨by rfl, ?hy7zT⟩) (by assumption) ?rest7zT
          case hy7zT => intro w hSw; (try dsimp only at hSw); first | (go_simp; done) | (go_simp; with_reducible rfl)
          try simp only [Act.put, List.getElem_toArray, List.getElem_cons_succ, List.getElem_cons_zero, List.setIfInBounds_toArray, List.set_cons_zero, List.set_cons_succ]
          refine wpAnyH_ready (rs := [8]) (by kernel_rfl) (by simp) ?_
          refine AllReadyH.cons rfl (fun K hK => ?_) AllReadyH.nil
          go_simp
          refine (HRC.out _ hHeld.2.2.below (k : Int)).mono ?_
          rintro e wk ⟨rfl, hbk⟩
          rw [ERC.out]
          go_wp2_with fail
          refine hK.out _ _ ?_ (fun hHeld2 => ?_)
          · try dsimp only
            (go_split_ands; refine CgS.all ?_; (first | assumption | (exact CgS.drew (by assumption)) | (exact CgS.next (by assumption) (by assumption))))
          clear hK K hHeld
          have hHeld := hHeld2; clear hHeld2
          try simp only [Act.put, List.getElem_toArray, List.getElem_cons_succ, List.getElem_cons_zero, List.setIfInBounds_toArray, List.set_cons_zero, List.set_cons_succ]
          refine wpAnyH_take (i := 9) (v := ?v9zT) rfl (by kernel_rfl) (by kernel_rfl) (by kernel_rfl) (fun _ _ _ h => h) (Or.inl ⟨by rfl, ?hy9zT⟩) (by assumption) ?rest9zT
          case hy9zT => intro w hSw; (try dsimp only at hSw); first | (go_simp; done) | (go_simp; with_reducible rfl)
          try simp only [Act.put, List.getElem_toArray, List.getElem_cons_succ, List.getElem_cons_zero, List.setIfInBounds_toArray, List.set_cons_zero, List.set_cons_succ]
          refine wpAnyH_take (i := 10) (v := ?v10zT) rfl (by kernel_rfl) (by kernel_rfl) (by kernel_rfl) (fun _ _ _ h => h) (Or.inl ⟨by rfl, ?hy10zT⟩) (by assumption) ?rest10zT
          case hy10zT => intro w hSw; (try dsimp only at hSw); first | (go_simp; done) | (go_simp; with_reducible rfl)
          try simp only [Act.put, List.getElem_toArray, List.getElem_cons_succ, List.getElem_cons_zero, List.setIfInBounds_toArray, List.set_cons_zero, List.set_cons_succ]
          refine wpAnyH_take (i := 11) (v := ?v11zT) rfl (by kernel_rfl) (by kernel_rfl) (by kernel_rfl) (fun _ _ _ h => h) (Or.inl ⟨by rfl, ?hy11zT⟩) (by assumption) ?rest11zT
          case hy11zT => intro w hSw; (try dsimp only at hSw); first | (go_simp; done) | (go_simp; with_reducible rfl)
          try simp only [Act.put, List.getElem_toArray, List.getElem_cons_succ, List.getElem_cons_zero, List.setIfInBounds_toArray, List.set_cons_zero, List.set_cons_succ]
          refine wpAnyH_take (i := 12) (v := ?v12zT) rfl (by kernel_rfl) (by kernel_rfl) (by kernel_rfl) (fun _ _ _ h => h) (Or.inl ⟨by rfl, ?hy12zT⟩) (by assumption) ?rest12zT
          case hy12zT => intro w hSw; (try dsimp only at hSw); first | (go_simp; done) | (go_simp; with_reducible rfl)
          try simp only [Act.put, List.getElem_toArray, List.getElem_cons_succ, List.getElem_cons_zero, List.setIfInBounds_toArray, List.set_cons_zero, List.set_cons_succ]
          refine wpAnyH_take (i := 13) (v := ?v13zT) rfl (by kernel_rfl) (by kernel_rfl) (by kernel_rfl) (fun _ _ _ h => h) (Or.inl ⟨by rfl, ?hy13zT⟩) (by assumption) ?rest13zT
          case hy13zT => intro w hSw; (try dsimp only at hSw); first | (go_simp; done) | (go_simp; with_reducible rfl)
          try simp only [Act.put, List.getElem_toArray, List.getElem_cons_succ, List.getElem_cons_zero, List.setIfInBounds_toArray, List.set_cons_zero, List.set_cons_succ]
          refine wpAnyH_take (i := 14) (v := ?v14zT) rfl (by kernel_rfl) (by kernel_rfl) (by kernel_rfl) (fun _ _ _ h => h) (Or.inl ⟨by rfl, ?hy14zT⟩) (by assumption) ?rest14zT
          case hy14zT => intro w hSw; (try dsimp only at hSw); first | (go_simp; done) | (go_simp; with_reducible rfl)
          try simp only [Act.put, List.getElem_toArray, List.getElem_cons_succ, List.getElem_cons_zero, List.setIfInBounds_toArray, List.set_cons_zero, List.set_cons_succ]
          refine wpAnyH_take (i := 16) (v := ?v16zT) rfl (by kernel_rfl) (by kernel_rfl) (by kernel_rfl) (fun _ _ _ h => h) (Or.inl ⟨by rfl, ?hy16zT⟩) (by assumption) ?rest16zT
          case hy16zT => intro w hSw; (try dsimp only at hSw); first | (go_simp; done) | (go_simp; with_reducible rfl)
          try simp only [Act.put, List.getElem_toArray, List.getElem_cons_succ, List.getElem_cons_zero, List.setIfInBounds_toArray, List.set_cons_zero, List.set_cons_succ]
          refine wpAnyH_take (i := 17) (v := ?v17zT) rfl (by kernel_rfl) (by kernel_rfl) (by kernel_rfl) (fun _ _ _ h => h) (Or.inl ⟨by rfl, ?hy17zT⟩) (by assumption) ?rest17zT
          case hy17zT => intro w hSw; (try dsimp only at hSw); first | (go_simp; done) | (go_simp; with_reducible rfl)
          try simp only [Act.put, List.getElem_toArray, List.getElem_cons_succ, List.getElem_cons_zero, List.setIfInBounds_toArray, List.set_cons_zero, List.set_cons_succ]
          refine wpAnyH_take (i := 18) (v := ?v18zT) rfl (by kernel_rfl) (by kernel_rfl) (by kernel_rfl) (fun _ _ _ h => h) (Or.inl ⟨by rfl, ?hy18zT⟩) (by assumption) ?rest18zT
          case hy18zT => intro w hSw; (try dsimp only at hSw); first | (go_simp; done) | (go_simp; with_reducible rfl)
          try simp only [Act.put, List.getElem_toArray, List.getElem_cons_succ, List.getElem_cons_zero, List.setIfInBounds_toArray, List.set_cons_zero, List.set_cons_succ]
          refine wpAnyH_ready (rs := [15]) (by kernel_rfl) (by simp) ?_
          refine AllReadyH.cons rfl (fun K hK => ?_) AllReadyH.nil
          go_simp
          refine (HRD.out _ hHeld.2.2.below (k : Int)).mono ?_
          rintro e wk ⟨rfl, hbk⟩
          rw [ERD.out]
          go_wp2_with fail
          refine hK.out _ _ ?_ (fun hHeld2 => ?_)
          · try dsimp only
            (go_split_ands; refine CgS.all ?_; (first | assumption | (exact CgS.drew (by assumption)) | (exact CgS.next (by assumption) (by assumption))))
          clear hK K hHeld
          have hHeld := hHeld2; clear hHeld2
          try simp only [Act.put, List.getElem_toArray, List.getElem_cons_succ, List.getElem_cons_zero, List.setIfInBounds_toArray, List.set_cons_zero, List.set_cons_succ]
          refine wpAnyH_ready (rs := [19]) (by kernel_rfl) (by simp) ?_
          refine AllReadyH.cons rfl (fun K hK => ?_) AllReadyH.nil
          go_simp
          refine (HWD.out _ hHeld.2.2.below (k : Int)).mono ?_
          rintro e wk ⟨rfl, hbk⟩
          rw [EWD.out]
          go_wp2_with fail
          refine hK.out _ _ ?_ (fun hHeld2 => ?_)
          · try dsimp only
            (go_split_ands; refine CgS.all ?_; (first | assumption | (exact CgS.drew (by assumption)) | (exact CgS.next (by assumption) (by assumption))))
          clear hK K hHeld
          have hHeld := hHeld2; clear hHeld2
          try simp only [Act.put, List.getElem_toArray, List.getElem_cons_succ, List.getElem_cons_zero, List.setIfInBounds_toArray, List.set_cons_zero, List.set_cons_succ]
          refine wpAnyH_take (i := 20) (v := ?v20zT) rfl (by kernel_rfl) (by kernel_rfl) (by kernel_rfl) (fun _ _ _ h => h) (Or.inl ⟨by rfl, ?hy20zT⟩) (by assumption) ?rest20zT
          case hy20zT => intro w hSw; (try dsimp only at hSw); first | (go_simp; done) | (go_simp; with_reducible rfl)
          try simp only [Act.put, List.getElem_toArray, List.getElem_cons_succ, List.getElem_cons_zero, List.setIfInBounds_toArray, List.set_cons_zero, List.set_cons_succ]
          refine wpAnyH_take (i := 21) (v := ?v21zT) rfl (by kernel_rfl) (by kernel_rfl) (by kernel_rfl) (fun _ _ _ h => h) (Or.inl ⟨by rfl, ?hy21zT⟩) (by assumption) ?rest21zT
          case hy21zT => intro w hSw; (try dsimp only at hSw); first | (go_simp; done) | (go_simp; with_reducible rfl)
          try simp only [Act.put, List.getElem_toArray, List.getElem_cons_succ, List.getElem_cons_zero, List.setIfInBounds_toArray, List.set_cons_zero, List.set_cons_succ]
          refine wpAnyH_take (i := 22) (v := ?v22zT) rfl (by kernel_rfl) (by kernel_rfl) (by kernel_rfl) (fun _ _ _ h => h) (Or.inl ⟨by rfl, ?hy22zT⟩) (by assumption) ?rest22zT
          case hy22zT => intro w hSw; (try dsimp only at hSw); first | (go_simp; done) | (go_simp; with_reducible rfl)
          try simp only [Act.put, List.getElem_toArray, List.getElem_cons_succ, List.getElem_cons_zero, List.setIfInBounds_toArray, List.set_cons_zero, List.set_cons_succ]
          refine wpAnyH_take (i := 23) (v := ?v23zT) rfl (by kernel_rfl) (by kernel_rfl) (by kernel_rfl) (fun _ _ _ h => h) (Or.inl ⟨by rfl, ?hy23zT⟩) (by assumption) ?rest23zT
          case hy23zT => intro w hSw; (try dsimp only at hSw); first | (go_simp; done) | (go_simp; with_reducible rfl)
          try simp only [Act.put, List.getElem_toArray, List.getElem_cons_succ, List.getElem_cons_zero, List.setIfInBounds_toArray, List.set_cons_zero, List.set_cons_succ]
          refine wpAnyH_take (i := 24) (v := ?v24zT) rfl (by kernel_rfl) (by kernel_rfl) (by kernel_rfl) (fun _ _ _ h => h) (Or.inl ⟨by rfl, ?hy24zT⟩) (by assumption) ?rest24zT
          case hy24zT => intro w hSw; (try dsimp only at hSw); first | (go_simp; done) | (go_simp; with_reducible rfl)
          try simp only [Act.put, List.getElem_toArray, List.getElem_cons_succ, List.getElem_cons_zero, List.setIfInBounds_toArray, List.set_cons_zero, List.set_cons_succ]
          refine wpAnyH_take (i := 25) (v := ?v25zT) rfl (by kernel_rfl) (by kernel_rfl) (by kernel_rfl) (fun _ _ _ h => h) (Or.inl ⟨by rfl, ?hy25zT⟩) (by assumption) ?rest25zT
          case hy25zT => intro w hSw; (try dsimp only at hSw); first | (go_simp; done) | (go_simp; with_reducible rfl)
          try simp only [Act.put, List.getElem_toArray, List.getElem_cons_succ, List.getElem_cons_zero, List.setIfInBounds_toArray, List.set_cons_zero, List.set_cons_succ]
          refine wpAnyH_ready (rs := [26]) (by kernel_rfl) (by simp) ?_
          refine AllReadyH.cons rfl (fun K hK => ?_) AllReadyH.nil
          go_simp
          refine (HRD.out _ hHeld.2.2.below (k : Int)).mono ?_
          rintro e wk ⟨rfl, hbk⟩
          rw [ERD.out]
          go_wp2_with fail
          refine hK.out _ _ ?_ (fun hHeld2 => ?_)
          · try dsimp only
            (go_split_ands; refine CgS.all ?_; (first | assumption | (exact CgS.drew (by assumption)) | (exact CgS.next (by assumption) (by assumption))))
          clear hK K hHeld
          have hHeld := hHeld2; clear hHeld2
          try simp only [Act.put, List.getElem_toArray, List.getElem_cons_succ, List.getElem_cons_zero, List.setIfInBounds_toArray, List.set_cons_zero, List.set_cons_succ]
          refine wpAnyH_take (i := 27) (v := ?v27zT) rfl (by kernel_rfl) (by kernel_rfl) (by kernel_rfl) (fun _ _ _ h => h) (Or.inl ⟨by rfl, ?hy27zT⟩) (by assumption) ?rest27zT
          case hy27zT => intro w hSw; (try dsimp only at hSw); first | (go_simp; done) | (go_simp; with_reducible rfl)
          try simp only [Act.put, List.getElem_toArray, List.getElem_cons_succ, List.getElem_cons_zero, List.setIfInBounds_toArray, List.set_cons_zero, List.set_cons_succ]
          refine wpAnyH_take (i := 28) (v := ?v28zT) rfl (by kernel_rfl) (by kernel_rfl) (by kernel_rfl) (fun _ _ _ h => h) (Or.inl ⟨by rfl, ?hy28zT⟩) (by assumption) ?rest28zT
          case hy28zT => intro w hSw; (try dsimp only at hSw); first | (go_simp; done) | (go_simp; with_reducible rfl)
          try simp only [Act.put, List.getElem_toArray, List.getElem_cons_succ, List.getElem_cons_zero, List.setIfInBounds_toArray, List.set_cons_zero, List.set_cons_succ]
          refine wpAnyH_take (i := 29) (v := ?v29zT) rfl (by kernel_rfl) (by kernel_rfl) (by kernel_rfl) (fun _ _ _ h => h) (Or.inl ⟨by rfl, ?hy29zT⟩) (by assumption) ?rest29zT
          case hy29zT => intro w hSw; (try dsimp only at hSw); first | (go_simp; done) | (go_simp; with_reducible rfl)
          try simp only [Act.put, List.getElem_toArray, List.getElem_cons_succ, List.getElem_cons_zero, List.setIfInBounds_toArray, List.set_cons_zero, List.set_cons_succ]
          refine wpAnyH_take (i := 30) (v := ?v30zT) rfl (by kernel_rfl) (by kernel_rfl) (by kernel_rfl) (fun _ _ _ h => h) (Or.inl ⟨by rfl, ?hy30zT⟩) (by assumption) ?rest30zT
          case hy30zT => intro w hSw; (try dsimp only at hSw); first | (go_simp; done) | (go_simp; with_reducible rfl)
          try simp only [Act.put, List.getElem_toArray, List.getElem_cons_succ, List.getElem_cons_zero, List.setIfInBounds_toArray, List.set_cons_zero, List.set_cons_succ]
          refine wpAnyH_ready (rs := [31]) (by kernel_rfl) (by simp) ?_
          refine AllReadyH.cons rfl (fun K hK => ?_) AllReadyH.nil
          go_simp
          refine (HWC.out _ hHeld.2.2.below (k : Int)).mono ?_
          rintro e wk ⟨rfl, hbk⟩
          rw [EWC.out]
          go_wp2_with fail
          refine hK.out _ _ ?_ (fun hHeld2 => ?_)
          · try dsimp only
            (go_split_ands; refine CgS.all ?_; (first | assumption | (exact CgS.drew (by assumption)) | (exact CgS.next (by assumption) (by assumption))))
          clear hK K hHeld
          have hHeld := hHeld2; clear hHeld2
          try simp only [Act.put, List.getElem_toArray, List.getElem_cons_succ, List.getElem_cons_zero, List.setIfInBounds_toArray, List.set_cons_zero, List.set_cons_succ]
          refine wpAnyH_take (i := 32) (v := ?v32zT) rfl (by kernel_rfl) (by kernel_rfl) (by kernel_rfl) (fun _ _ _ h => h) (Or.inl ⟨by rfl, ?hy32zT⟩) (by assumption) ?rest32zT
          case hy32zT => intro w hSw; (try dsimp only at hSw); first | (go_simp; done) | (go_simp; with_reducible rfl)
          try simp only [Act.put, List.getElem_toArray, List.getElem_cons_succ, List.getElem_cons_zero, List.setIfInBounds_toArray, List.set_cons_zero, List.set_cons_succ]
          refine wpAnyH_take (i := 33) (v := ?v33zT) rfl (by kernel_rfl) (by kernel_rfl) (by kernel_rfl) (fun _ _ _ h => h) (Or.inl ⟨by rfl, ?hy33zT⟩) (by assumption) ?rest33zT
          case hy33zT => intro w hSw; (try dsimp only at hSw); first | (go_simp; done) | (go_simp; with_reducible rfl)
          try simp only [Act.put, List.getElem_toArray, List.getElem_cons_succ, List.getElem_cons_zero, List.setIfInBounds_toArray, List.set_cons_zero, List.set_cons_succ]
          refine wpAnyH_take (i := 34) (v := ?v34zT) rfl (by kernel_rfl) (by kernel_rfl) (by kernel_rfl) (fun _ _ _ h => h) (Or.inl ⟨by rfl, ?hy34zT⟩) (by assumption) ?rest34zT
          case hy34zT => intro w hSw; (try dsimp only at hSw); first | (go_simp; done) | (go_simp; with_reducible rfl)
          try simp only [Act.put, List.getElem_toArray, List.getElem_cons_succ, List.getElem_cons_zero, List.setIfInBounds_toArray, List.set_cons_zero, List.set_cons_succ]
          refine wpAnyH_done (by kernel_rfl) ?_ _
          all_goals
            have hS6 := hHeld.2.2
            have HS6 := Lib.hid hS6
            clear hHeld hS6
            obtain ⟨⟨f0, f1, f2, f3, f4, f5, f6, f7, f8⟩, ⟨x0, x1, x2, x3, x4, x5, x6, x7, x8⟩, -⟩ := HS6.out.all
            go_wp2_with fail
            refine (HRD.out _ HS6.out.below (k : Int)).mono ?_
            rintro e wl ⟨rfl, hbl⟩
            rw [ERD.out]
            have HS7 := Lib.hid (HS6.out.next hbl)
            clear hbl f0 f1 f2 f3 f4 f5 f6 f7 f8 x0 x1 x2 x3 x4 x5 x6 x7 x8
            go_wp2_with fail
            go_roundw
            case rel => exact ⟨k + 1, q + 1, by omega, by first | rfl | go_num, by go_num, Lib.hid ⟨by have e := HQ.out; have e2 := HOO.out; rw [mny_yes e2, ← e], HS7.out⟩⟩
            case measure => simp [intOf]; omega
        · have HOO := Lib.hid hoo
          have ERD : Hid (alB (ngC c) (k : Int) (a : Int) 1 false = false) := Lib.hid (by rw [EAN, decide_eq_false hoo])
          have EWD : Hid (alB (ngC c) (k : Int) (a : Int) 1 true = false) := Lib.hid (by rw [EAN, decide_eq_false hoo])
          cases hw : rcB c (k : Int) ((a / 64 : Nat) : Int) true with
          | true =>
            have EWC : Hid (alB c (k : Int) (a : Int) 1 true = true) := Lib.hid (by rw [EAL, hw])
            have ERC : Hid (alB c (k : Int) (a : Int) 1 false = true) := Lib.hid (by rw [EAL, rc_wr hw])
            clear EAL EAN hoo hw
            go_wp2_with fail
            refine wp_region_held_drew (S := (fun w' => (w'.cell? ⟨g1, 0, none⟩ = some (.int .i64 c.fr) ∧ w'.cell? ⟨g1, 1, none⟩ = some (.slice A1 n k1) ∧ w'.cell? ⟨g1, 2, none⟩ = some (.slice A2 n2 k2) ∧ w'.cell? ⟨g1, 3, none⟩ = some (.int .i64 c.mj) ∧ w'.cell? ⟨g1, 4, none⟩ = some (.slice A3 n3 k3) ∧ w'.cell? ⟨g1, 5, none⟩ = some (.slice A4 n4 k4) ∧ w'.cell? ⟨g1, 6, none⟩ = some (.int .i64 c.se) ∧ w'.cell? ⟨g1, 7, none⟩ = some (.int .i64 c.qu) ∧ w'.cell? ⟨g1, 8, none⟩ = some (.int .i64 c.qt)) ∧ (w'.cell? ⟨g2, 0, none⟩ = some (.int .i64 c.fr) ∧ w'.cell? ⟨g2, 1, none⟩ = some (.slice A1 n k1) ∧ w'.cell? ⟨g2, 2, none⟩ = some (.slice A2 n2 k2) ∧ w'.cell? ⟨g2, 3, none⟩ = some (.int .i64 c.mj) ∧ w'.cell? ⟨g2, 4, none⟩ = some (.slice A3 n3 k3) ∧ w'.cell? ⟨g2, 5, none⟩ = some (.slice none 0 0) ∧ w'.cell? ⟨g2, 6, none⟩ = some (.int .i64 c.se) ∧ w'.cell? ⟨g2, 7, none⟩ = some (.int .i64 c.qu) ∧ w'.cell? ⟨g2, 8, none⟩ = some (.int .i64 c.qt)) ∧ CgS w4 c (.slice A1 n k1) (.slice A2 n2 k2) (.slice A3 n3 k3) (.slice A4 n4 k4) (.slice A1 n k1) (.slice A2 n2 k2) (.slice A3 n3 k3) (.slice none 0 0) g1 g2 w')) (by kernel_rfl) ?_ (fun hHeld => ?_)
            · try dsimp only
              (go_split_ands; refine CgS.all ?_; (first | assumption | (exact CgS.drew (by assumption)) | (exact CgS.next (by assumption) (by assumption))))
            refine wpAnyH_take (i := 0) (v := ?v0zG) rfl (by kernel_rfl) (by kernel_rfl) (by kernel_rfl) (fun _ _ _ h => h) (Or.inl ⟨by rfl, ?hy0zG⟩) (by assumption) ?rest0zG
            case hy0zG => intro w hSw; (try dsimp only at hSw); first | (go_simp; done) | (go_simp; with_reducible rfl)
            try simp only [Act.put, List.getElem_toArray, List.getElem_cons_succ, List.getElem_cons_zero, List.setIfInBounds_toArray, List.set_cons_zero, List.set_cons_succ]
            refine wpAnyH_take (i := 1) (v := ?v1zG) rfl (by kernel_rfl) (by kernel_rfl) (by kernel_rfl) (fun _ _ _ h => h) (Or.inl ⟨by rfl, ?hy1zG⟩) (by assumption) ?rest1zG
            case hy1zG => intro w hSw; (try dsimp only at hSw); first | (go_simp; done) | (go_simp; with_reducible rfl)
            try simp only [Act.put, List.getElem_toArray, List.getElem_cons_succ, List.getElem_cons_zero, List.setIfInBounds_toArray, List.set_cons_zero, List.set_cons_succ]
            refine wpAnyH_take (i := 2) (v := ?v2zG) rfl (by kernel_rfl) (by kernel_rfl) (by kernel_rfl) (fun _ _ _ h => h) (Or.inl ⟨by rfl, ?hy2zG⟩) (by assumption) ?rest2zG
            case hy2zG => intro w hSw; (try dsimp only at hSw); first | (go_simp; done) | (go_simp; with_reducible rfl)
            try simp only [Act.put, List.getElem_toArray, List.getElem_cons_succ, List.getElem_cons_zero, List.setIfInBounds_toArray, List.set_cons_zero, List.set_cons_succ]
            refine wpAnyH_ready (rs := [3]) (by kernel_rfl) (by simp) ?_
            refine AllReadyH.cons rfl (fun K hK => ?_) AllReadyH.nil
            go_simp
            refine (HWC.out _ hHeld.2.2.below (k : Int)).mono ?_
            rintro e wk ⟨rfl, hbk⟩
            rw [EWC.out]
            go_wp2_with fail
            refine hK.out _ _ ?_ (fun hHeld2 => ?_)
            · try dsimp only
              (go_split_ands; refine CgS.all ?_; (first | assumption | (exact CgS.drew (by assumption)) | (exact CgS.next (by assumption) (by assumption))))
            clear hK K hHeld
            have hHeld := hHeld2; clear hHeld2
            try simp only [Act.put, List.getElem_toArray, List.getElem_cons_succ, List.getElem_cons_zero, List.setIfInBounds_toArray, List.set_cons_zero, List.set_cons_succ]
            refine wpAnyH_take (i := 4) (v := ?v4zG) rfl (by kernel_rfl) (by kernel_rfl) (by kernel_rfl) (fun _ _ _ h => h) (Or.inl ⟨by rfl, ?hy4zG⟩) (by assumption) ?rest4zG
            case hy4zG => intro w hSw; (try dsimp only at hSw); first | (go_simp; done) | (go_simp; with_reducible rfl)
            try simp only [Act.put, List.getElem_toArray, List.getElem_cons_succ, List.getElem_cons_zero, List.setIfInBounds_toArray, List.set_cons_zero, List.set_cons_succ]
            refine wpAnyH_take (i := 5) (v := ?v5zG) rfl (by kernel_rfl) (by kernel_rfl) (by kernel_rfl) (fun _ _ _ h => h) (Or.inl ⟨by rfl, ?hy5zG⟩) (by assumption) ?rest5zG
            case hy5zG => intro w hSw; (try dsimp only at hSw); first | (go_simp; done) | (go_simp; with_reducible rfl)
            try simp only [Act.put, List.getElem_toArray, List.getElem_cons_succ, List.getElem_cons_zero, List.setIfInBounds_toArray, List.set_cons_zero, List.set_cons_succ]
            refine wpAnyH_take (i := 6) (v := ?v6zG) rfl (by kernel_rfl) (by kernel_rfl) (by kernel_rfl) (fun _ _ _ h => h) (Or.inl ⟨by rfl, ?hy6zG⟩) (by assumption) ?rest6zG
            case hy6zG => intro w hSw; (try dsimp only at hSw); first | (go_simp; done) | (go_simp; with_reducible rfl)
            try simp only [Act.put, List.getElem_toArray, List.getElem_cons_succ, List.getElem_cons_zero, List.setIfInBounds_toArray, List.set_cons_zero, List.set_cons_succ]
            refine wpAnyH_take (i := 7) (v := ?v7zG) rfl (by kernel_rfl) (by kernel_rfl) (by kernel_rfl) (fun _ _ _ h => h) (Or.inl ⟨by rfl, ?hy7zG⟩) (by assumption) ?rest7zG
            case hy7zG => intro w hSw; (try dsimp only at hSw); first | (go_simp; done) | (go_simp; with_reducible rfl)
            try simp only [Act.put, List.getElem_toArray, List.getElem_cons_succ, List.getElem_cons_zero, List.setIfInBounds_toArray, List.set_cons_zero, List.set_cons_succ]
            refine wpAnyH_ready (rs := [8]) (by kernel_rfl) (by simp) ?_
            refine AllReadyH.cons rfl (fun K hK => ?_) AllReadyH.nil
            go_simp
            refine (HRC.out _ hHeld.2.2.below (k : Int)).mono ?_
            rintro e wk ⟨rfl, hbk⟩
            rw [ERC.out]
            go_wp2_with fail
            refine hK.out _ _ ?_ (fun hHeld2 => ?_)
            · try dsimp only
              (go_split_ands; refine CgS.all ?_; (first | assumption | (exact CgS.drew (by assumption)) | (exact CgS.next (by assumption) (by assumption))))
            clear hK K hHeld
            have hHeld := hHeld2; clear hHeld2
            try simp only [Act.put, List.getElem_toArray, List.getElem_cons_succ, List.getElem_cons_zero, List.setIfInBounds_toArray, List.set_cons_zero, List.set_cons_succ]
            refine wpAnyH_take (i := 9) (v := ?v9zG) rfl (by kernel_rfl) (by kernel_rfl) (by kernel_rfl) (fun _ _ _ h => h) (Or.inl ⟨by rfl, ?hy9zG⟩) (by assumption) ?rest9zG
            case hy9zG => intro w hSw; (try dsimp only at hSw); first | (go_simp; done) | (go_simp; with_reducible rfl)
            try simp only [Act.put, List.getElem_toArray, List.getElem_cons_succ, List.getElem_cons_zero, List.setIfInBounds_toArray, List.set_cons_zero, List.set_cons_succ]
            refine wpAnyH_take (i := 10) (v := ?v10zG) rfl (by kernel_rfl) (by kernel_rfl) (by kernel_rfl) (fun _ _ _ h => h) (Or.inl ⟨by rfl, ?hy10zG⟩) (by assumption) ?rest10zG
            case hy10zG => intro w hSw; (try dsimp only at hSw); first | (go_simp; done) | (go_simp; with_reducible rfl)
            try simp only [Act.put, List.getElem_toArray, List.getElem_cons_succ, List.getElem_cons_zero, List.setIfInBounds_toArray, List.set_cons_zero, List.set_cons_succ]
            refine wpAnyH_take (i := 11) (v := ?v11zG) rfl (by kernel_rfl) (by kernel_rfl) (by kernel_rfl) (fun _ _ _ h => h) (Or.inl ⟨by rfl, ?hy11zG⟩) (by assumption) ?rest11zG
            case hy11zG => intro w hSw; (try dsimp only at hSw); first | (go_simp; done) | (go_simp; with_reducible rfl)
            try simp only [Act.put, List.getElem_toArray, List.getElem_cons_succ, List.getElem_cons_zero, List.setIfInBounds_toArray, List.set_cons_zero, List.set_cons_succ]
            refine wpAnyH_take (i := 12) (v := ?v12zG) rfl (by kernel_rfl) (by kernel_rfl) (by kernel_rfl) (fun _ _ _ h => h) (Or.inl ⟨by rfl, ?hy12zG⟩) (by assumption) ?rest12zG
            case hy12zG => intro w hSw; (try dsimp only at hSw); first | (go_simp; done) | (go_simp; with_reducible rfl)
            try simp only [Act.put, List.getElem_toArray, List.getElem_cons_succ, List.getElem_cons_zero, List.setIfInBounds_toArray, List.set_cons_zero, List.set_cons_succ]
            refine wpAnyH_take (i := 13) (v := ?v13zG) rfl (by kernel_rfl) (by kernel_rfl) (by kernel_rfl) (fun _ _ _ h => h) (Or.inl ⟨by rfl, ?hy13zG⟩) (by assumption) ?rest13zG
            case hy13zG => intro w hSw; (try dsimp only at hSw); first | (go_simp; done) | (go_simp; with_reducible rfl)
            try simp only [Act.put, List.getElem_toArray, List.getElem_cons_succ, List.getElem_cons_zero, List.setIfInBounds_toArray, List.set_cons_zero, List.set_cons_succ]
            refine wpAnyH_take (i := 14) (v := ?v14zG) rfl (by kernel_rfl) (by kernel_rfl) (by kernel_rfl) (fun _ _ _ h => h) (Or.inl ⟨by rfl, ?hy14zG⟩) (by assumption) ?rest14zG
            case hy14zG => intro w hSw; (try dsimp only at hSw); first | (go_simp; done) | (go_simp; with_reducible rfl)
            try simp only [Act.put, List.getElem_toArray, List.getElem_cons_succ, List.getElem_cons_zero, List.setIfInBounds_toArray, List.set_cons_zero, List.set_cons_succ]
            refine wpAnyH_take (i := 16) (v := ?v16zG) rfl (by kernel_rfl) (by kernel_rfl) (by kernel_rfl) (fun _ _ _ h => h) (Or.inl ⟨by rfl, ?hy16zG⟩) (by assumption) ?rest16zG
            case hy16zG => intro w hSw; (try dsimp only at hSw); first | (go_simp; done) | (go_simp; with_reducible rfl)
            try simp only [Act.put, List.getElem_toArray, List.getElem_cons_succ, List.getElem_cons_zero, List.setIfInBounds_toArray, List.set_cons_zero, List.set_cons_succ]
            refine wpAnyH_take (i := 17) (v := ?v17zG) rfl (by kernel_rfl) (by kernel_rfl) (by kernel_rfl) (fun _ _ _ h => h) (Or.inl ⟨by rfl, ?hy17zG⟩) (by assumption) ?rest17zG
            case hy17zG => intro w hSw; (try dsimp only at hSw); first | (go_simp; done) | (go_simp; with_reducible rfl)
            try simp only [Act.put, List.getElem_toArray, List.getElem_cons_succ, List.getElem_cons_zero, List.setIfInBounds_toArray, List.set_cons_zero, List.set_cons_succ]
            refine wpAnyH_take (i := 18) (v := ?v18zG) rfl (by kernel_rfl) (by kernel_rfl) (by kernel_rfl) (fun _ _ _ h => h) (Or.inl ⟨by rfl, ?hy18zG⟩) (by assumption) ?rest18zG
            case hy18zG => intro w hSw; (try dsimp only at hSw); first | (go_simp; done) | (go_simp; with_reducible rfl)
            try simp only [Act.put, List.getElem_toArray, List.getElem_cons_succ, List.getElem_cons_zero, List.setIfInBounds_toArray, List.set_cons_zero, List.set_cons_succ]
            refine wpAnyH_ready (rs := [15]) (by kernel_rfl) (by simp) ?_
            refine AllReadyH.cons rfl (fun K hK => ?_) AllReadyH.nil
            go_simp
            refine (HRD.out _ hHeld.2.2.below (k : Int)).mono ?_
            rintro e wk ⟨rfl, hbk⟩
            rw [ERD.out]
            go_wp2_with fail
            refine hK.out _ _ ?_ (fun hHeld2 => ?_)
            · try dsimp only
              (go_split_ands; refine CgS.all ?_; (first | assumption | (exact CgS.drew (by assumption)) | (exact CgS.next (by assumption) (by assumption))))
            clear hK K hHeld
            have hHeld := hHeld2; clear hHeld2
            try simp only [Act.put, List.getElem_toArray, List.getElem_cons_succ, List.getElem_cons_zero, List.setIfInBounds_toArray, List.set_cons_zero, List.set_cons_succ]
            refine wpAnyH_ready (rs := [19]) (by kernel_rfl) (by simp) ?_
            refine AllReadyH.cons rfl (fun K hK => ?_) AllReadyH.nil
            go_simp
            refine (HWD.out _ hHeld.2.2.below (k : Int)).mono ?_
            rintro e wk ⟨rfl, hbk⟩
            rw [EWD.out]
            go_wp2_with fail
            refine hK.out _ _ ?_ (fun hHeld2 => ?_)
            · try dsimp only
              (go_split_ands; refine CgS.all ?_; (first | assumption | (exact CgS.drew (by assumption)) | (exact CgS.next (by assumption) (by assumption))))
            clear hK K hHeld
            have hHeld := hHeld2; clear hHeld2
            try simp only [Act.put, List.getElem_toArray, List.getElem_cons_succ, List.getElem_cons_zero, List.setIfInBounds_toArray, List.set_cons_zero, List.set_cons_succ]
            refine wpAnyH_take (i := 20) (v := ?v20zG) rfl (by kernel_rfl) (by kernel_rfl) (by kernel_rfl) (fun _ _ _ h => h) (Or.inl ⟨by rfl, ?hy20zG⟩) (by assumption) ?rest20zG
            case hy20zG => intro w hSw; (try dsimp only at hSw); first | (go_simp; done) | (go_simp; with_reducible rfl)
            try simp only [Act.put, List.getElem_toArray, List.getElem_cons_succ, List.getElem_cons_zero, List.setIfInBounds_toArray, List.set_cons_zero, List.set_cons_succ]
            refine wpAnyH_take (i := 21) (v := ?v21zG) rfl (by kernel_rfl) (by kernel_rfl) (by kernel_rfl) (fun _ _ _ h => h) (Or.inl ⟨by rfl, ?hy21zG⟩) (by assumption) ?rest21zG
            case hy21zG => intro w hSw; (try dsimp only at hSw); first | (go_simp; done) | (go_simp; with_reducible rfl)
            try simp only [Act.put, List.getElem_toArray, List.getElem_cons_succ, List.getElem_cons_zero, List.setIfInBounds_toArray, List.set_cons_zero, List.set_cons_succ]
            refine wpAnyH_take (i := 22) (v := ?v22zG) rfl (by kernel_rfl) (by kernel_rfl) (by kernel_rfl) (fun _ _ _ h => h) (Or.inl ⟨by rfl, ?hy22zG⟩) (by assumption) ?rest22zG
            case hy22zG => intro w hSw; (try dsimp only at hSw); first | (go_simp; done) | (go_simp; with_reducible rfl)
            try simp only [Act.put, List.getElem_toArray, List.getElem_cons_succ, List.getElem_cons_zero, List.setIfInBounds_toArray, List.set_cons_zero, List.set_cons_succ]
            refine wpAnyH_take (i := 23) (v := ?v23zG) rfl (by kernel_rfl) (by kernel_rfl) (by kernel_rfl) (fun _ _ _ h => h) (Or.inl ⟨by rfl, ?hy23zG⟩) (by assumption) ?rest23zG
            case hy23zG => intro w hSw; (try dsimp only at hSw); first | (go_simp; done) | (go_simp; with_reducible rfl)
            try simp only [Act.put, List.getElem_toArray, List.getElem_cons_succ, List.getElem_cons_zero, List.setIfInBounds_toArray, List.set_cons_zero, List.set_cons_succ]
            refine wpAnyH_take (i := 24) (v := ?v24zG) rfl (by kernel_rfl) (by kernel_rfl) (by kernel_rfl) (fun _ _ _ h => h) (Or.inl ⟨by rfl, ?hy24zG⟩) (by assumption) ?rest24zG
            case hy24zG => intro w hSw; (try dsimp only at hSw); first | (go_simp; done) | (go_simp; with_reducible rfl)
            try simp only [Act.put, List.getElem_toArray, List.getElem_cons_succ, List.getElem_cons_zero, List.setIfInBounds_toArray, List.set_cons_zero, List.set_cons_succ]
            refine wpAnyH_take (i := 25) (v := ?v25zG) rfl (by kernel_rfl) (by kernel_rfl) (by kernel_rfl) (fun _ _ _ h => h) (Or.inl ⟨by rfl, ?hy25zG⟩) (by assumption) ?rest25zG
            case hy25zG => intro w hSw; (try dsimp only at hSw); first | (go_simp; done) | (go_simp; with_reducible rfl)
            try simp only [Act.put, List.getElem_toArray, List.getElem_cons_succ, List.getElem_cons_zero, List.setIfInBounds_toArray, List.set_cons_zero, List.set_cons_succ]
            refine wpAnyH_ready (rs := [26]) (by kernel_rfl) (by simp) ?_
            refine AllReadyH.cons rfl (fun K hK => ?_) AllReadyH.nil
            go_simp
            refine (HRD.out _ hHeld.2.2.below (k : Int)).mono ?_
            rintro e wk ⟨rfl, hbk⟩
            rw [ERD.out]
            go_wp2_with fail
            refine hK.out _ _ ?_ (fun hHeld2 => ?_)
            · try dsimp only
              (go_split_ands; refine CgS.all ?_; (first | assumption | (exact CgS.drew (by assumption)) | (exact CgS.next (by assumption) (by assumption))))
            clear hK K hHeld
            have hHeld := hHeld2; clear hHeld2
            try simp only [Act.put, List.getElem_toArray, List.getElem_cons_succ, List.getElem_cons_zero, List.setIfInBounds_toArray, List.set_cons_zero, List.set_cons_succ]
            refine wpAnyH_take (i := 27) (v := ?v27zG) rfl (by kernel_rfl) (by kernel_rfl) (by kernel_rfl) (fun _ _ _ h => h) (Or.inl ⟨by rfl, ?hy27zG⟩) (by assumption) ?rest27zG
            case hy27zG => intro w hSw; (try dsimp only at hSw); first | (go_simp; done) | (go_simp; with_reducible rfl)
            try simp only [Act.put, List.getElem_toArray, List.getElem_cons_succ, List.getElem_cons_zero, List.setIfInBounds_toArray, List.set_cons_zero, List.set_cons_succ]
            refine wpAnyH_take (i := 28) (v := undef) rfl (by kernel_rfl) (by kernel_rfl) (by kernel_rfl) (fun _ _ _ h => h) (Or.inr ⟨by rfl, rfl⟩) (by assumption) ?rest28zG
            try simp only [Act.put, List.getElem_toArray, List.getElem_cons_succ, List.getElem_cons_zero, List.setIfInBounds_toArray, List.set_cons_zero, List.set_cons_succ]
            refine wpAnyH_take (i := 29) (v := undef) rfl (by kernel_rfl) (by kernel_rfl) (by kernel_rfl) (fun _ _ _ h => h) (Or.inr ⟨by rfl, rfl⟩) (by assumption) ?rest29zG
            try simp only [Act.put, List.getElem_toArray, List.getElem_cons_succ, List.getElem_cons_zero, List.setIfInBounds_toArray, List.set_cons_zero, List.set_cons_succ]
            refine wpAnyH_take (i := 30) (v := undef) rfl (by kernel_rfl) (by kernel_rfl) (by kernel_rfl) (fun _ _ _ h => h) (Or.inr ⟨by rfl, rfl⟩) (by assumption) ?rest30zG
            try simp only [Act.put, List.getElem_toArray, List.getElem_cons_succ, List.getElem_cons_zero, List.setIfInBounds_toArray, List.set_cons_zero, List.set_cons_succ]
            refine wpAnyH_take (i := 31) (v := undef) rfl (by kernel_rfl) (by kernel_rfl) (by kernel_rfl) (fun _ _ _ h => h) (Or.inr ⟨by rfl, rfl⟩) (by assumption) ?rest31zG
            try simp only [Act.put, List.getElem_toArray, List.getElem_cons_succ, List.getElem_cons_zero, List.setIfInBounds_toArray, List.set_cons_zero, List.set_cons_succ]
            refine wpAnyH_take (i := 32) (v := undef) rfl (by kernel_rfl) (by kernel_rfl) (by kernel_rfl) (fun _ _ _ h => h) (Or.inr ⟨by rfl, rfl⟩) (by assumption) ?rest32zG
            try simp only [Act.put, List.getElem_toArray, List.getElem_cons_succ, List.getElem_cons_zero, List.setIfInBounds_toArray, List.set_cons_zero, List.set_cons_succ]
            refine wpAnyH_take (i := 33) (v := ?v33zG) rfl (by kernel_rfl) (by kernel_rfl) (by kernel_rfl) (fun _ _ _ h => h) (Or.inl ⟨by rfl, ?hy33zG⟩) (by assumption) ?rest33zG
            case hy33zG => intro w hSw; (try dsimp only at hSw); first | (go_simp; done) | (go_simp; with_reducible rfl)
            try simp only [Act.put, List.getElem_toArray, List.getElem_cons_succ, List.getElem_cons_zero, List.setIfInBounds_toArray, List.set_cons_zero, List.set_cons_succ]
            refine wpAnyH_take (i := 34) (v := ?v34zG) rfl (by kernel_rfl) (by kernel_rfl) (by kernel_rfl) (fun _ _ _ h => h) (Or.inl ⟨by rfl, ?hy34zG⟩) (by assumption) ?rest34zG
            case hy34zG => intro w hSw; (try dsimp only at hSw); first | (go_simp; done) | (go_simp; with_reducible rfl)
            try simp only [Act.put, List.getElem_toArray, List.getElem_cons_succ, List.getElem_cons_zero, List.setIfInBounds_toArray, List.set_cons_zero, List.set_cons_succ]
            refine wpAnyH_done (by kernel_rfl) ?_ _
            all_goals
              have hS6 := hHeld.2.2
              have HS6 := Lib.hid hS6
              clear hHeld hS6
              obtain ⟨⟨f0, f1, f2, f3, f4, f5, f6, f7, f8⟩, ⟨x0, x1, x2, x3, x4, x5, x6, x7, x8⟩, -⟩ := HS6.out.all
              go_wp2_with fail
              refine (HRD.out _ HS6.out.below (k : Int)).mono ?_
              rintro e wl ⟨rfl, hbl⟩
              rw [ERD.out]
              have HS7 := Lib.hid (HS6.out.next hbl)
              clear hbl f0 f1 f2 f3 f4 f5 f6 f7 f8 x0 x1 x2 x3 x4 x5 x6 x7 x8
              go_wp2_with fail
              go_roundw
              case rel => exact ⟨k + 1, q, by omega, by first | rfl | go_num, by go_num, Lib.hid ⟨by have e := HQ.out; have e2 := HOO.out; rw [mny_no e2, ← e], HS7.out⟩⟩
              case measure => simp [intOf]; omega
          | false =>
            have EWC : Hid (alB c (k : Int) (a : Int) 1 true = false) := Lib.hid (by rw [EAL, hw])
            clear EAL EAN hoo hw
            go_wp2_with fail
            refine wp_region_held_drew (S := (fun w' => (w'.cell? ⟨g1, 0, none⟩ = some (.int .i64 c.fr) ∧ w'.cell? ⟨g1, 1, none⟩ = some (.slice A1 n k1) ∧ w'.cell? ⟨g1, 2, none⟩ = some (.slice A2 n2 k2) ∧ w'.cell? ⟨g1, 3, none⟩ = some (.int .i64 c.mj) ∧ w'.cell? ⟨g1, 4, none⟩ = some (.slice A3 n3 k3) ∧ w'.cell? ⟨g1, 5, none⟩ = some (.slice A4 n4 k4) ∧ w'.cell? ⟨g1, 6, none⟩ = some (.int .i64 c.se) ∧ w'.cell? ⟨g1, 7, none⟩ = some (.int .i64 c.qu) ∧ w'.cell? ⟨g1, 8, none⟩ = some (.int .i64 c.qt)) ∧ (w'.cell? ⟨g2, 0, none⟩ = some (.int .i64 c.fr) ∧ w'.cell? ⟨g2, 1, none⟩ = some (.slice A1 n k1) ∧ w'.cell? ⟨g2, 2, none⟩ = some (.slice A2 n2 k2) ∧ w'.cell? ⟨g2, 3, none⟩ = some (.int .i64 c.mj) ∧ w'.cell? ⟨g2, 4, none⟩ = some (.slice A3 n3 k3) ∧ w'.cell? ⟨g2, 5, none⟩ = some (.slice none 0 0) ∧ w'.cell? ⟨g2, 6, none⟩ = some (.int .i64 c.se) ∧ w'.cell? ⟨g2, 7, none⟩ = some (.int .i64 c.qu) ∧ w'.cell? ⟨g2, 8, none⟩ = some (.int .i64 c.qt)) ∧ CgS w4 c (.slice A1 n k1) (.slice A2 n2 k2) (.slice A3 n3 k3) (.slice A4 n4 k4) (.slice A1 n k1) (.slice A2 n2 k2) (.slice A3 n3 k3) (.slice none 0 0) g1 g2 w')) (by kernel_rfl) ?_ (fun hHeld => ?_)
            · try dsimp only
              (go_split_ands; refine CgS.all ?_; (first | assumption | (exact CgS.drew (by assumption)) | (exact CgS.next (by assumption) (by assumption))))
            refine wpAnyH_take (i := 0) (v := ?v0zF) rfl (by kernel_rfl) (by kernel_rfl) (by kernel_rfl) (fun _ _ _ h => h) (Or.inl ⟨by rfl, ?hy0zF⟩) (by assumption) ?rest0zF
            case hy0zF => intro w hSw; (try dsimp only at hSw); first | (go_simp; done) | (go_simp; with_reducible rfl)
            try simp only [Act.put, List.getElem_toArray, List.getElem_cons_succ, List.getElem_cons_zero, List.setIfInBounds_toArray, List.set_cons_zero, List.set_cons_succ]
            refine wpAnyH_take (i := 1) (v := ?v1zF) rfl (by kernel_rfl) (by kernel_rfl) (by kernel_rfl) (fun _ _ _ h => h) (Or.inl ⟨by rfl, ?hy1zF⟩) (by assumption) ?rest1zF
            case hy1zF => intro w hSw; (try dsimp only at hSw); first | (go_simp; done) | (go_simp; with_reducible rfl)
            try simp only [Act.put, List.getElem_toArray, List.getElem_cons_succ, List.getElem_cons_zero, List.setIfInBounds_toArray, List.set_cons_zero, List.set_cons_succ]
            refine wpAnyH_take (i := 2) (v := ?v2zF) rfl (by kernel_rfl) (by kernel_rfl) (by kernel_rfl) (fun _ _ _ h => h) (Or.inl ⟨by rfl, ?hy2zF⟩) (by assumption) ?rest2zF
            case hy2zF => intro w hSw; (try dsimp only at hSw); first | (go_simp; done) | (go_simp; with_reducible rfl)
            try simp only [Act.put, List.getElem_toArray, List.getElem_cons_succ, List.getElem_cons_zero, List.setIfInBounds_toArray, List.set_cons_zero, List.set_cons_succ]
            refine wpAnyH_ready (rs := [3]) (by kernel_rfl) (by simp) ?_
            refine AllReadyH.cons rfl (fun K hK => ?_) AllReadyH.nil
            go_simp
            refine (HWC.out _ hHeld.2.2.below (k : Int)).mono ?_
            rintro e wk ⟨rfl, hbk⟩
            rw [EWC.out]
            go_wp2_with fail
            refine hK.out _ _ ?_ (fun hHeld2 => ?_)
            · try dsimp only
              (go_split_ands; refine CgS.all ?_; (first | assumption | (exact CgS.drew (by assumption)) | (exact CgS.next (by assumption) (by assumption))))
            clear hK K hHeld
            have hHeld := hHeld2; clear hHeld2
            try simp only [Act.put, List.getElem_toArray, List.getElem_cons_succ, List.getElem_cons_zero, List.setIfInBounds_toArray, List.set_cons_zero, List.set_cons_succ]
            refine wpAnyH_take (i := 4) (v := ?v4zF) rfl (by kernel_rfl) (by kernel_rfl) (by kernel_rfl) (fun _ _ _ h => h) (Or.inl ⟨by rfl, ?hy4zF⟩) (by assumption) ?rest4zF
            case hy4zF => intro w hSw; (try dsimp only at hSw); first | (go_simp; done) | (go_simp; with_reducible rfl)
            try simp only [Act.put, List.getElem_toArray, List.getElem_cons_succ, List.getElem_cons_zero, List.setIfInBounds_toArray, List.set_cons_zero, List.set_cons_succ]
            refine wpAnyH_take (i := 5) (v := undef) rfl (by kernel_rfl) (by kernel_rfl) (by kernel_rfl) (fun _ _ _ h => h) (Or.inr ⟨by rfl, rfl⟩) (by assumption) ?rest5zF
            try simp only [Act.put, List.getElem_toArray, List.getElem_cons_succ, List.getElem_cons_zero, List.setIfInBounds_toArray, List.set_cons_zero, List.set_cons_succ]
            refine wpAnyH_take (i := 6) (v := undef) rfl (by kernel_rfl) (by kernel_rfl) (by kernel_rfl) (fun _ _ _ h => h) (Or.inr ⟨by rfl, rfl⟩) (by assumption) ?rest6zF
            try simp only [Act.put, List.getElem_toArray, List.getElem_cons_succ, List.getElem_cons_zero, List.setIfInBounds_toArray, List.set_cons_zero, List.set_cons_succ]
            refine wpAnyH_take (i := 7) (v := undef) rfl (by kernel_rfl) (by kernel_rfl) (by kernel_rfl) (fun _ _ _ h => h) (Or.inr ⟨by rfl, rfl⟩) (by assumption) ?rest7zF
            try simp only [Act.put, List.getElem_toArray, List.getElem_cons_succ, List.getElem_cons_zero, List.setIfInBounds_toArray, List.set_cons_zero, List.set_cons_succ]
            refine wpAnyH_take (i := 8) (v := undef) rfl (by kernel_rfl) (by kernel_rfl) (by kernel_rfl) (fun _ _ _ h => h) (Or.inr ⟨by rfl, rfl⟩) (by assumption) ?rest8zF
            try simp only [Act.put, List.getElem_toArray, List.getElem_cons_succ, List.getElem_cons_zero, List.setIfInBounds_toArray, List.set_cons_zero, List.set_cons_succ]
            refine wpAnyH_take (i := 9) (v := undef) rfl (by kernel_rfl) (by kernel_rfl) (by kernel_rfl) (fun _ _ _ h => h) (Or.inr ⟨by rfl, rfl⟩) (by assumption) ?rest9zF
            try simp only [Act.put, List.getElem_toArray, List.getElem_cons_succ, List.getElem_cons_zero, List.setIfInBounds_toArray, List.set_cons_zero, List.set_cons_succ]
            refine wpAnyH_take (i := 10) (v := ?v10zF) rfl (by kernel_rfl) (by kernel_rfl) (by kernel_rfl) (fun _ _ _ h => h) (Or.inl ⟨by rfl, ?hy10zF⟩) (by assumption) ?rest10zF
            case hy10zF => intro w hSw; (try dsimp only at hSw); first | (go_simp; done) | (go_simp; with_reducible rfl)
            try simp only [Act.put, List.getElem_toArray, List.getElem_cons_succ, List.getElem_cons_zero, List.setIfInBounds_toArray, List.set_cons_zero, List.set_cons_succ]
            refine wpAnyH_take (i := 11) (v := ?v11zF) rfl (by kernel_rfl) (by kernel_rfl) (by kernel_rfl) (fun _ _ _ h => h) (Or.inl ⟨by rfl, ?hy11zF⟩) (by assumption) ?rest11zF
            case hy11zF => intro w hSw; (try dsimp only at hSw); first | (go_simp; done) | (go_simp; with_reducible rfl)
            try simp only [Act.put, List.getElem_toArray, List.getElem_cons_succ, List.getElem_cons_zero, List.setIfInBounds_toArray, List.set_cons_zero, List.set_cons_succ]
            refine wpAnyH_take (i := 12) (v := ?v12zF) rfl (by kernel_rfl) (by kernel_rfl) (by kernel_rfl) (fun _ _ _ h => h) (Or.inl ⟨by rfl, ?hy12zF⟩) (by assumption) ?rest12zF
            case hy12zF => intro w hSw; (try dsimp only at hSw); first | (go_simp; done) | (go_simp; with_reducible rfl)
            try simp only [Act.put, List.getElem_toArray, List.getElem_cons_succ, List.getElem_cons_zero, List.setIfInBounds_toArray, List.set_cons_zero, List.set_cons_succ]
            refine wpAnyH_take (i := 13) (v := ?v13zF) rfl (by kernel_rfl) (by kernel_rfl) (by kernel_rfl) (fun _ _ _ h => h) (Or.inl ⟨by rfl, ?hy13zF⟩) (by assumption) ?rest13zF
            case hy13zF => intro w hSw; (try dsimp only at hSw); first | (go_simp; done) | (go_simp; with_reducible rfl)
            try simp only [Act.put, List.getElem_toArray, List.getElem_cons_succ, List.getElem_cons_zero, List.setIfInBounds_toArray, List.set_cons_zero, List.set_cons_succ]
            refine wpAnyH_take (i := 14) (v := ?v14zF) rfl (by kernel_rfl) (by kernel_rfl) (by kernel_rfl) (fun _ _ _ h => h) (Or.inl ⟨by rfl, ?hy14zF⟩) (by assumption) ?rest14zF
            case hy14zF => intro w hSw; (try dsimp only at hSw); first | (go_simp; done) | (go_simp; with_reducible rfl)
            try simp only [Act.put, List.getElem_toArray, List.getElem_cons_succ, List.getElem_cons_zero, List.setIfInBounds_toArray, List.set_cons_zero, List.set_cons_succ]
            refine wpAnyH_take (i := 16) (v := ?v16zF) rfl (by kernel_rfl) (by kernel_rfl) (by kernel_rfl) (fun _ _ _ h => h) (Or.inl ⟨by rfl, ?hy16zF⟩) (by assumption) ?rest16zF
            case hy16zF => intro w hSw; (try dsimp only at hSw); first | (go_simp; done) | (go_simp; with_reducible rfl)
            try simp only [Act.put, List.getElem_toArray, List.getElem_cons_succ, List.getElem_cons_zero, List.setIfInBounds_toArray, List.set_cons_zero, List.set_cons_succ]
            refine wpAnyH_take (i := 17) (v := ?v17zF) rfl (by kernel_rfl) (by kernel_rfl) (by kernel_rfl) (fun _ _ _ h => h) (Or.inl ⟨by rfl, ?hy17zF⟩) (by assumption) ?rest17zF
            case hy17zF => intro w hSw; (try dsimp only at hSw); first | (go_simp; done) | (go_simp; with_reducible rfl)
            try simp only [Act.put, List.getElem_toArray, List.getElem_cons_succ, List.getElem_cons_zero, List.setIfInBounds_toArray, List.set_cons_zero, List.set_cons_succ]
            refine wpAnyH_take (i := 18) (v := ?v18zF) rfl (by kernel_rfl) (by kernel_rfl) (by kernel_rfl) (fun _ _ _ h => h) (Or.inl ⟨by rfl, ?hy18zF⟩) (by assumption) ?rest18zF
            case hy18zF => intro w hSw; (try dsimp only at hSw); first | (go_simp; done) | (go_simp; with_reducible rfl)
            try simp only [Act.put, List.getElem_toArray, List.getElem_cons_succ, List.getElem_cons_zero, List.setIfInBounds_toArray, List.set_cons_zero, List.set_cons_succ]
            refine wpAnyH_ready (rs := [15]) (by kernel_rfl) (by simp) ?_
            refine AllReadyH.cons rfl (fun K hK => ?_) AllReadyH.nil
            go_simp
            refine (HRD.out _ hHeld.2.2.below (k : Int)).mono ?_
            rintro e wk ⟨rfl, hbk⟩
            rw [ERD.out]
            go_wp2_with fail
            refine hK.out _ _ ?_ (fun hHeld2 => ?_)
            · try dsimp only
              (go_split_ands; refine CgS.all ?_; (first | assumption | (exact CgS.drew (by assumption)) | (exact CgS.next (by assumption) (by assumption))))
            clear hK K hHeld
            have hHeld := hHeld2; clear hHeld2
            try simp only [Act.put, List.getElem_toArray, List.getElem_cons_succ, List.getElem_cons_zero, List.setIfInBounds_toArray, List.set_cons_zero, List.set_cons_succ]
            refine wpAnyH_ready (rs := [19]) (by kernel_rfl) (by simp) ?_
            refine AllReadyH.cons rfl (fun K hK => ?_) AllReadyH.nil
            go_simp
            refine (HWD.out _ hHeld.2.2.below (k : Int)).mono ?_
            rintro e wk ⟨rfl, hbk⟩
            rw [EWD.out]
            go_wp2_with fail
            refine hK.out _ _ ?_ (fun hHeld2 => ?_)
            · try dsimp only
              (go_split_ands; refine CgS.all ?_; (first | assumption | (exact CgS.drew (by assumption)) | (exact CgS.next (by assumption) (by assumption))))
            clear hK K hHeld
            have hHeld := hHeld2; clear hHeld2
            try simp only [Act.put, List.getElem_toArray, List.getElem_cons_succ, List.getElem_cons_zero, List.setIfInBounds_toArray, List.set_cons_zero, List.set_cons_succ]
            refine wpAnyH_take (i := 20) (v := ?v20zF) rfl (by kernel_rfl) (by kernel_rfl) (by kernel_rfl) (fun _ _ _ h => h) (Or.inl ⟨by rfl, ?hy20zF⟩) (by assumption) ?rest20zF
            case hy20zF => intro w hSw; (try dsimp only at hSw); first | (go_simp; done) | (go_simp; with_reducible rfl)
            try simp only [Act.put, List.getElem_toArray, List.getElem_cons_succ, List.getElem_cons_zero, List.setIfInBounds_toArray, List.set_cons_zero, List.set_cons_succ]
            refine wpAnyH_take (i := 21) (v := ?v21zF) rfl (by kernel_rfl) (by kernel_rfl) (by kernel_rfl) (fun _ _ _ h => h) (Or.inl ⟨by rfl, ?hy21zF⟩) (by assumption) ?rest21zF
            case hy21zF => intro w hSw; (try dsimp only at hSw); first | (go_simp; done) | (go_simp; with_reducible rfl)
            try simp only [Act.put, List.getElem_toArray, List.getElem_cons_succ, List.getElem_cons_zero, List.setIfInBounds_toArray, List.set_cons_zero, List.set_cons_succ]
            refine wpAnyH_take (i := 22) (v := ?v22zF) rfl (by kernel_rfl) (by kernel_rfl) (by kernel_rfl) (fun _ _ _ h => h) (Or.inl ⟨by rfl, ?hy22zF⟩) (by assumption) ?rest22zF
            case hy22zF => intro w hSw; (try dsimp only at hSw); first | (go_simp; done) | (go_simp; with_reducible rfl)
            try simp only [Act.put, List.getElem_toArray, List.getElem_cons_succ, List.getElem_cons_zero, List.setIfInBounds_toArray, List.set_cons_zero, List.set_cons_succ]
            refine wpAnyH_take (i := 23) (v := ?v23zF) rfl (by kernel_rfl) (by kernel_rfl) (by kernel_rfl) (fun _ _ _ h => h) (Or.inl ⟨by rfl, ?hy23zF⟩) (by assumption) ?rest23zF
            case hy23zF => intro w hSw; (try dsimp only at hSw); first | (go_simp; done) | (go_simp; with_reducible rfl)
            try simp only [Act.put, List.getElem_toArray, List.getElem_cons_succ, List.getElem_cons_zero, List.setIfInBounds_toArray, List.set_cons_zero, List.set_cons_succ]
            refine wpAnyH_take (i := 24) (v := ?v24zF) rfl (by kernel_rfl) (by kernel_rfl) (by kernel_rfl) (fun _ _ _ h => h) (Or.inl ⟨by rfl, ?hy24zF⟩) (by assumption) ?rest24zF
            case hy24zF => intro w hSw; (try dsimp only at hSw); first | (go_simp; done) | (go_simp; with_reducible rfl)
            try simp only [Act.put, List.getElem_toArray, List.getElem_cons_succ, List.getElem_cons_zero, List.setIfInBounds_toArray, List.set_cons_zero, List.set_cons_succ]
            refine wpAnyH_take (i := 25) (v := ?v25zF) rfl (by kernel_rfl) (by kernel_rfl) (by kernel_rfl) (fun _ _ _ h => h) (Or.inl ⟨by rfl, ?hy25zF⟩) (by assumption) ?rest25zF
            case hy25zF => intro w hSw; (try dsimp only at hSw); first | (go_simp; done) | (go_simp; with_reducible rfl)
            try simp only [Act.put, List.getElem_toArray, List.getElem_cons_succ, List.getElem_cons_zero, List.setIfInBounds_toArray, List.set_cons_zero, List.set_cons_succ]
            refine wpAnyH_ready (rs := [26]) (by kernel_rfl) (by simp) ?_
            refine AllReadyH.cons rfl (fun K hK => ?_) AllReadyH.nil
            go_simp
            refine (HRD.out _ hHeld.2.2.below (k : Int)).mono ?_
            rintro e wk ⟨rfl, hbk⟩
            rw [ERD.out]
            go_wp2_with fail
            refine hK.out _ _ ?_ (fun hHeld2 => ?_)
            · try dsimp only
              (go_split_ands; refine CgS.all ?_; (first | assumption | (exact CgS.drew (by assumption)) | (exact CgS.next (by assumption) (by assumption))))
            clear hK K hHeld
            have hHeld := hHeld2; clear hHeld2
            try simp only [Act.put, List.getElem_toArray, List.getElem_cons_succ, List.getElem_cons_zero, List.setIfInBounds_toArray, List.set_cons_zero, List.set_cons_succ]
            refine wpAnyH_take (i := 27) (v := ?v27zF) rfl (by kernel_rfl) (by kernel_rfl) (by kernel_rfl) (fun _ _ _ h => h) (Or.inl ⟨by rfl, ?hy27zF⟩) (by assumption) ?rest27zF
            case hy27zF => intro w hSw; (try dsimp only at hSw); first | (go_simp; done) | (go_simp; with_reducible rfl)
            try simp only [Act.put, List.getElem_toArray, List.getElem_cons_succ, List.getElem_cons_zero, List.setIfInBounds_toArray, List.set_cons_zero, List.set_cons_succ]
            refine wpAnyH_take (i := 28) (v := undef) rfl (by kernel_rfl) (by kernel_rfl) (by kernel_rfl) (fun _ _ _ h => h) (Or.inr ⟨by rfl, rfl⟩) (by assumption) ?rest28zF
            try simp only [Act.put, List.getElem_toArray, List.getElem_cons_succ, List.getElem_cons_zero, List.setIfInBounds_toArray, List.set_cons_zero, List.set_cons_succ]
            refine wpAnyH_take (i := 29) (v := undef) rfl (by kernel_rfl) (by kernel_rfl) (by kernel_rfl) (fun _ _ _ h => h) (Or.inr ⟨by rfl, rfl⟩) (by assumption) ?rest29zF
            try simp only [Act.put, List.getElem_toArray, List.getElem_cons_succ, List.getElem_cons_zero, List.setIfInBounds_toArray, List.set_cons_zero, List.set_cons_succ]
            refine wpAnyH_take (i := 30) (v := undef) rfl (by kernel_rfl) (by kernel_rfl) (by kernel_rfl) (fun _ _ _ h => h) (Or.inr ⟨by rfl, rfl⟩) (by assumption) ?rest30zF
            try simp only [Act.put, List.getElem_toArray, List.getElem_cons_succ, List.getElem_cons_zero, List.setIfInBounds_toArray, List.set_cons_zero, List.set_cons_succ]
            refine wpAnyH_take (i := 31) (v := undef) rfl (by kernel_rfl) (by kernel_rfl) (by kernel_rfl) (fun _ _ _ h => h) (Or.inr ⟨by rfl, rfl⟩) (by assumption) ?rest31zF
            try simp only [Act.put, List.getElem_toArray, List.getElem_cons_succ, List.getElem_cons_zero, List.setIfInBounds_toArray, List.set_cons_zero, List.set_cons_succ]
            refine wpAnyH_take (i := 32) (v := undef) rfl (by kernel_rfl) (by kernel_rfl) (by kernel_rfl) (fun _ _ _ h => h) (Or.inr ⟨by rfl, rfl⟩) (by assumption) ?rest32zF
            try simp only [Act.put, List.getElem_toArray, List.getElem_cons_succ, List.getElem_cons_zero, List.setIfInBounds_toArray, List.set_cons_zero, List.set_cons_succ]
            refine wpAnyH_take (i := 33) (v := ?v33zF) rfl (by kernel_rfl) (by kernel_rfl) (by kernel_rfl) (fun _ _ _ h => h) (Or.inl ⟨by rfl, ?hy33zF⟩) (by assumption) ?rest33zF
            case hy33zF => intro w hSw; (try dsimp only at hSw); first | (go_simp; done) | (go_simp; with_reducible rfl)
            try simp only [Act.put, List.getElem_toArray, List.getElem_cons_succ, List.getElem_cons_zero, List.setIfInBounds_toArray, List.set_cons_zero, List.set_cons_succ]
            refine wpAnyH_take (i := 34) (v := ?v34zF) rfl (by kernel_rfl) (by kernel_rfl) (by kernel_rfl) (fun _ _ _ h => h) (Or.inl ⟨by rfl, ?hy34zF⟩) (by assumption) ?rest34zF
            case hy34zF => intro w hSw; (try dsimp only at hSw); first | (go_simp; done) | (go_simp; with_reducible rfl)
            try simp only [Act.put, List.getElem_toArray, List.getElem_cons_succ, List.getElem_cons_zero, List.setIfInBounds_toArray, List.set_cons_zero, List.set_cons_succ]
            refine wpAnyH_done (by kernel_rfl) ?_ _
            all_goals
              have hS6 := hHeld.2.2
              have HS6 := Lib.hid hS6
              clear hHeld hS6
              obtain ⟨⟨f0, f1, f2, f3, f4, f5, f6, f7, f8⟩, ⟨x0, x1, x2, x3, x4, x5, x6, x7, x8⟩, -⟩ := HS6.out.all
              go_wp2_with fail
              refine (HRD.out _ HS6.out.below (k : Int)).mono ?_
              rintro e wl ⟨rfl, hbl⟩
              rw [ERD.out]
              have HS7 := Lib.hid (HS6.out.next hbl)
              clear hbl f0 f1 f2 f3 f4 f5 f6 f7 f8 x0 x1 x2 x3 x4 x5 x6 x7 x8
              go_wp2_with fail
              go_roundw
              case rel => exact ⟨k + 1, q, by omega, by first | rfl | go_num, by go_num, Lib.hid ⟨by have e := HQ.out; have e2 := HOO.out; rw [mny_no e2, ← e], HS7.out⟩⟩
              case measure => simp [intOf]; omega
      · obtain rfl : k = n := by omega
        have E1 : Hid (∀ p : Int, inP k p = false → alB c p (a : Int) 1 false = false) := Lib.hid (fun p hp => by unfold alB; rw [HN.out, hp]; simp)
        clear f0 f1 f2 f3 f4 f5 f6 f7 f8 x0 x1 x2 x3 x4 x5 x6 x7 x8 hS'
        obtain ⟨⟨f0, f1, f2, f3, f4, f5, f6, f7, f8⟩, ⟨x0, x1, x2, x3, x4, x5, x6, x7, x8⟩, -⟩ := HS.out.all
        have hqd : decide (q ≤ 1) = true := decide_eq_true hq2
        go_wp2_with fail
        refine (HMD.out _ HS.out.below).mono ?_
        rintro e w5 ⟨rfl, b5⟩
        have HS5 := Lib.hid (HS.out.next b5)
        clear f0 f1 f2 f3 f4 f5 f6 f7 f8 x0 x1 x2 x3 x4 x5 x6 x7 x8 b5
        obtain ⟨⟨f0, f1, f2, f3, f4, f5, f6, f7, f8⟩, -, -⟩ := HS5.out.all
        go_wp2_with fail
        refine (HRC.out _ HS5.out.below _).mono ?_
        rintro e w6 ⟨rfl, b6⟩
        rw [E1.out _ (decide_eq_false (by omega))]
        have HS6 := Lib.hid (HS5.out.next b6)
        clear f0 f1 f2 f3 f4 f5 f6 f7 f8 b6
        obtain ⟨⟨f0, f1, f2, f3, f4, f5, f6, f7, f8⟩, -, -⟩ := HS6.out.all
        go_wp2_with fail
        refine (HRC.out _ HS6.out.below _).mono ?_
        rintro e w7 ⟨rfl, b7⟩
        rw [E1.out _ (decide_eq_false (by omega))]
        have HS7 := Lib.hid (HS6.out.next b7)
        clear f0 f1 f2 f3 f4 f5 f6 f7 f8 b7
        go_wp2_with fail
        go_ret
        exact ⟨rfl, Below.down HB4.out HS7.out.below HB4.out.size⟩

end Go.Proofs.Ytamhnnkmjhapmaa
