/-
  Contracts of config's rules, May.
-/
import Derived.Test.YtamhnnkmjhapmaaCf6
import Derived.Test.YtamhnnkmjhapmaaItRule
namespace Go.Proofs.Ytamhnnkmjhapmaa
open Go.RowKit
set_option linter.unusedVariables false
set_option linter.unusedSimpArgs false
set_option maxRecDepth 100000

/-- The rules, as values; what each answers. -/
def ruleV : Nat → Value
  | 0 => .func (.func 37) #[] #[]
  | 1 => .func (.func 38) #[] #[]
  | 2 => .func (.func 39) #[] #[]
  | 3 => .func (.func 40) #[] #[]
  | 4 => .func (.func 41) #[] #[]
  | 5 => .func (.func 42) #[] #[]
  | 6 => .func (.func 43) #[] #[]
  | 7 => .func (.func 44) #[] #[]
  | _ => .func (.func 45) #[] #[]
def ruleB (c : Cf) : Nat → Bool
  | 0 => frB c
  | 1 => psB c
  | 2 => dsB c
  | 3 => unB c
  | 4 => wsB c
  | 5 => gsB c
  | 6 => shB c
  | 7 => quB c
  | _ => qtB c
theorem rule_all (c : Cf) : (List.range 9).all (ruleB c) = cfMay c := by
  unfold cfMay
  simp [List.range_succ, ruleB, Bool.and_assoc]

theorem rules_any (w : World) : Calls Try.prog 21 #[] w fun e w' => e = .returned (.slice (some ⟨w.heap.size, 0, none⟩) 9 9) ∧ Blk w' w.heap.size 51 [.func (.func 37) #[] #[], .func (.func 38) #[] #[], .func (.func 39) #[] #[], .func (.func 40) #[] #[], .func (.func 41) #[] #[], .func (.func 42) #[] #[], .func (.func 43) #[] #[], .func (.func 44) #[] #[], .func (.func 45) #[] #[]] ∧ Below w.heap.size w w' := by
  go_enter Try.func21, Try.ntmps21
  go_wp2_with fail
  go_ret
  exact ⟨rfl, Blk.new w _ [.func (.func 37) #[] #[], .func (.func 38) #[] #[], .func (.func 39) #[] #[], .func (.func 40) #[] #[], .func (.func 41) #[] #[], .func (.func 42) #[] #[], .func (.func 43) #[] #[], .func (.func 44) #[] #[], .func (.func 45) #[] #[]], (Below.refl _ _).alloc (Nat.le_refl _) _⟩

section
variable {w : World} {c : Cf} {vp vd vw vg : Value}

theorem m1_0 (g : Nat) (hg : Blk w g 27 (cfc c vp vd vw vg)) (h : CfAt w vp vd vw vg c) :
    Calls Try.prog 22 #[.func (.func 37) #[] #[], .pointer (some ⟨g, 0, none⟩)] w fun e w' => e = .returned (.bool (frB c)) ∧ Below w.heap.size w w' := by
  obtain ⟨k0, k1, k2, k3, k4, k5, k6, k7, k8⟩ := cf_at hg
  have HC : Hid (Calls Try.prog 37 #[.agg #[.int .i64 c.fr, vp, vd, .int .i64 c.mj, vw, vg, .int .i64 c.se, .int .i64 c.qu, .int .i64 c.qt]] w _) := Lib.hid (framesmay_any)
  clear hg h
  go_enter Try.func22, Try.ntmps22
  go_wp2_with fail
  refine HC.out.mono ?_
  rintro e w1 ⟨rfl, b1⟩
  go_wp2_with fail
  go_ret
  exact ⟨rfl, b1⟩

theorem m1_1 (g : Nat) (hg : Blk w g 27 (cfc c vp vd vw vg)) (h : CfAt w vp vd vw vg c) :
    Calls Try.prog 22 #[.func (.func 38) #[] #[], .pointer (some ⟨g, 0, none⟩)] w fun e w' => e = .returned (.bool (psB c)) ∧ Below w.heap.size w w' := by
  obtain ⟨k0, k1, k2, k3, k4, k5, k6, k7, k8⟩ := cf_at hg
  have HC : Hid (Calls Try.prog 38 #[.agg #[.int .i64 c.fr, vp, vd, .int .i64 c.mj, vw, vg, .int .i64 c.se, .int .i64 c.qu, .int .i64 c.qt]] w _) := Lib.hid (partsmay_any h)
  clear hg h
  go_enter Try.func22, Try.ntmps22
  go_wp2_with fail
  refine HC.out.mono ?_
  rintro e w1 ⟨rfl, b1⟩
  go_wp2_with fail
  go_ret
  exact ⟨rfl, b1⟩

theorem m1_2 (g : Nat) (hg : Blk w g 27 (cfc c vp vd vw vg)) (h : CfAt w vp vd vw vg c) :
    Calls Try.prog 22 #[.func (.func 39) #[] #[], .pointer (some ⟨g, 0, none⟩)] w fun e w' => e = .returned (.bool (dsB c)) ∧ Below w.heap.size w w' := by
  obtain ⟨k0, k1, k2, k3, k4, k5, k6, k7, k8⟩ := cf_at hg
  have HC : Hid (Calls Try.prog 39 #[.agg #[.int .i64 c.fr, vp, vd, .int .i64 c.mj, vw, vg, .int .i64 c.se, .int .i64 c.qu, .int .i64 c.qt]] w _) := Lib.hid (devicesmay_any h)
  clear hg h
  go_enter Try.func22, Try.ntmps22
  go_wp2_with fail
  refine HC.out.mono ?_
  rintro e w1 ⟨rfl, b1⟩
  go_wp2_with fail
  go_ret
  exact ⟨rfl, b1⟩

theorem m1_3 (g : Nat) (hg : Blk w g 27 (cfc c vp vd vw vg)) (h : CfAt w vp vd vw vg c) (hF : 1 ≤ c.fr ∧ c.fr ≤ 64) (hp : c.ps.length ≤ 4) :
    Calls Try.prog 22 #[.func (.func 40) #[] #[], .pointer (some ⟨g, 0, none⟩)] w fun e w' => e = .returned (.bool (unB c)) ∧ Below w.heap.size w w' := by
  obtain ⟨k0, k1, k2, k3, k4, k5, k6, k7, k8⟩ := cf_at hg
  have HC : Hid (Calls Try.prog 40 #[.agg #[.int .i64 c.fr, vp, vd, .int .i64 c.mj, vw, vg, .int .i64 c.se, .int .i64 c.qu, .int .i64 c.qt]] w _) := Lib.hid (unlike_any h hF hp)
  clear hg h hF hp
  go_enter Try.func22, Try.ntmps22
  go_wp2_with fail
  refine HC.out.mono ?_
  rintro e w1 ⟨rfl, b1⟩
  go_wp2_with fail
  go_ret
  exact ⟨rfl, b1⟩

theorem m1_4 (g : Nat) (hg : Blk w g 27 (cfc c vp vd vw vg)) (h : CfAt w vp vd vw vg c) :
    Calls Try.prog 22 #[.func (.func 41) #[] #[], .pointer (some ⟨g, 0, none⟩)] w fun e w' => e = .returned (.bool (wsB c)) ∧ Below w.heap.size w w' := by
  obtain ⟨k0, k1, k2, k3, k4, k5, k6, k7, k8⟩ := cf_at hg
  have HC : Hid (Calls Try.prog 41 #[.agg #[.int .i64 c.fr, vp, vd, .int .i64 c.mj, vw, vg, .int .i64 c.se, .int .i64 c.qu, .int .i64 c.qt]] w _) := Lib.hid (windowsmay_any h)
  clear hg h
  go_enter Try.func22, Try.ntmps22
  go_wp2_with fail
  refine HC.out.mono ?_
  rintro e w1 ⟨rfl, b1⟩
  go_wp2_with fail
  go_ret
  exact ⟨rfl, b1⟩

theorem m1_5 (g : Nat) (hg : Blk w g 27 (cfc c vp vd vw vg)) (h : CfAt w vp vd vw vg c) (hF : 1 ≤ c.fr ∧ c.fr ≤ 64) (hp : c.ps.length ≤ 4) (hu : unB c = true) :
    Calls Try.prog 22 #[.func (.func 42) #[] #[], .pointer (some ⟨g, 0, none⟩)] w fun e w' => e = .returned (.bool (gsB c)) ∧ Below w.heap.size w w' := by
  obtain ⟨k0, k1, k2, k3, k4, k5, k6, k7, k8⟩ := cf_at hg
  have HC : Hid (Calls Try.prog 42 #[.agg #[.int .i64 c.fr, vp, vd, .int .i64 c.mj, vw, vg, .int .i64 c.se, .int .i64 c.qu, .int .i64 c.qt]] w _) := Lib.hid (grantsmay_any h hF hp hu)
  clear hg h hF hp hu
  go_enter Try.func22, Try.ntmps22
  go_wp2_with fail
  refine HC.out.mono ?_
  rintro e w1 ⟨rfl, b1⟩
  go_wp2_with fail
  go_ret
  exact ⟨rfl, b1⟩

theorem m1_6 (g : Nat) (hg : Blk w g 27 (cfc c vp vd vw vg)) (h : CfAt w vp vd vw vg c) :
    Calls Try.prog 22 #[.func (.func 43) #[] #[], .pointer (some ⟨g, 0, none⟩)] w fun e w' => e = .returned (.bool (shB c)) ∧ Below w.heap.size w w' := by
  obtain ⟨k0, k1, k2, k3, k4, k5, k6, k7, k8⟩ := cf_at hg
  have HC : Hid (Calls Try.prog 43 #[.agg #[.int .i64 c.fr, vp, vd, .int .i64 c.mj, vw, vg, .int .i64 c.se, .int .i64 c.qu, .int .i64 c.qt]] w _) := Lib.hid (sharesmay_any h)
  clear hg h
  go_enter Try.func22, Try.ntmps22
  go_wp2_with fail
  refine HC.out.mono ?_
  rintro e w1 ⟨rfl, b1⟩
  go_wp2_with fail
  go_ret
  exact ⟨rfl, b1⟩

theorem m1_7 (g : Nat) (hg : Blk w g 27 (cfc c vp vd vw vg)) (h : CfAt w vp vd vw vg c) :
    Calls Try.prog 22 #[.func (.func 44) #[] #[], .pointer (some ⟨g, 0, none⟩)] w fun e w' => e = .returned (.bool (quB c)) ∧ Below w.heap.size w w' := by
  obtain ⟨k0, k1, k2, k3, k4, k5, k6, k7, k8⟩ := cf_at hg
  have HC : Hid (Calls Try.prog 44 #[.agg #[.int .i64 c.fr, vp, vd, .int .i64 c.mj, vw, vg, .int .i64 c.se, .int .i64 c.qu, .int .i64 c.qt]] w _) := Lib.hid (quotamay_any)
  clear hg h
  go_enter Try.func22, Try.ntmps22
  go_wp2_with fail
  refine HC.out.mono ?_
  rintro e w1 ⟨rfl, b1⟩
  go_wp2_with fail
  go_ret
  exact ⟨rfl, b1⟩

theorem m1_8 (g : Nat) (hg : Blk w g 27 (cfc c vp vd vw vg)) (h : CfAt w vp vd vw vg c) :
    Calls Try.prog 22 #[.func (.func 45) #[] #[], .pointer (some ⟨g, 0, none⟩)] w fun e w' => e = .returned (.bool (qtB c)) ∧ Below w.heap.size w w' := by
  obtain ⟨k0, k1, k2, k3, k4, k5, k6, k7, k8⟩ := cf_at hg
  have HC : Hid (Calls Try.prog 45 #[.agg #[.int .i64 c.fr, vp, vd, .int .i64 c.mj, vw, vg, .int .i64 c.se, .int .i64 c.qu, .int .i64 c.qt]] w _) := Lib.hid (quietmay_any)
  clear hg h
  go_enter Try.func22, Try.ntmps22
  go_wp2_with fail
  refine HC.out.mono ?_
  rintro e w1 ⟨rfl, b1⟩
  go_wp2_with fail
  go_ret
  exact ⟨rfl, b1⟩

theorem m1_any (g i : Nat) (hi : i < 9) (hg : Blk w g 27 (cfc c vp vd vw vg)) (h : CfAt w vp vd vw vg c) (hall : ∀ j, j < i → ruleB c j = true) :
    Calls Try.prog 22 #[ruleV i, .pointer (some ⟨g, 0, none⟩)] w fun e w' => e = .returned (.bool (ruleB c i)) ∧ Below w.heap.size w w' := by
  have hF : 1 ≤ i → 1 ≤ c.fr ∧ c.fr ≤ 64 := fun h1 => btw_iff.1 (hall 0 (by omega))
  have hp : 2 ≤ i → c.ps.length ≤ 4 := fun h1 => by
    have h2 : psB c = true := hall 1 (by omega)
    unfold psB at h2
    rw [Bool.and_eq_true] at h2
    have := (btw_iff.1 h2.1).2
    omega
  have hu : 4 ≤ i → unB c = true := fun h1 => hall 3 (by omega)
  match i, hi with
  | 0, _ => exact m1_0 g hg h
  | 1, _ => exact m1_1 g hg h
  | 2, _ => exact m1_2 g hg h
  | 3, _ => exact m1_3 g hg h (hF (by omega)) (hp (by omega))
  | 4, _ => exact m1_4 g hg h
  | 5, _ => exact m1_5 g hg h (hF (by omega)) (hp (by omega)) (hu (by omega))
  | 6, _ => exact m1_6 g hg h
  | 7, _ => exact m1_7 g hg h
  | 8, _ => exact m1_8 g hg h
  | i + 9, hi => omega

theorem cmay_any (h : CfAt w vp vd vw vg c) : Calls Try.prog 9 #[.agg #[.int .i64 c.fr, vp, vd, .int .i64 c.mj, vw, vg, .int .i64 c.se, .int .i64 c.qu, .int .i64 c.qt]] w fun e w' => e = .returned (.bool (cfMay c)) ∧ Below w.heap.size w w' := by
  obtain ⟨hb, hB⟩ := cf_box w c vp vd vw vg
  have HB := Lib.hid hB; have HCB := Lib.hid hb; have H1 := Lib.hid (h.below hB)
  have HR := Lib.hid (rules_any (w.alloc (.cells #[.int .i64 c.fr, vp, vd, .int .i64 c.mj, vw, vg, .int .i64 c.se, .int .i64 c.qu, .int .i64 c.qt] 27)))
  clear hb hB h
  go_enter Try.func9, Try.ntmps9
  go_wp2_with fail
  generalize w.alloc (.cells #[.int .i64 c.fr, vp, vd, .int .i64 c.mj, vw, vg, .int .i64 c.se, .int .i64 c.qu, .int .i64 c.qt] 27) = w1 at *
  refine HR.out.mono ?_
  rintro e w2 ⟨rfl, hrb, b2⟩
  have hE := each_Rule (some ⟨w1.heap.size, 0, none⟩) w1.heap.size 0 9 9 w.heap.size ruleV (ruleB c) nos (fun _ W => Below w2.heap.size w2 W) w2 (by unfold maxLen; omega) (fun _ => rfl) nos_lt
    (fun i W W' hI hW => Below.down hI hW hI.size)
    (fun i W hi hI => by
      refine (hI.cell (p := ⟨w1.heap.size, 0 + i, none⟩) hrb.lt).trans ((hrb.cell (0 + i)).trans ?_)
      rw [Nat.zero_add]
      match i, hi with
      | 0, _ => rfl
      | 1, _ => rfl
      | 2, _ => rfl
      | 3, _ => rfl
      | 4, _ => rfl
      | 5, _ => rfl
      | 6, _ => rfl
      | 7, _ => rfl
      | 8, _ => rfl
      | i + 9, hi => omega)
    (fun i W hi hall hI => by
      have hs2 := b2.size
      refine (m1_any w.heap.size i hi ((HCB.out.below b2 HCB.out.lt).below hI (by have := HCB.out.lt; omega)) ((H1.out.below b2).below hI) hall).mono ?_
      rintro e w' ⟨rfl, hb⟩
      exact ⟨rfl, Below.down hI hb hI.size, Fo.of hb _⟩)
    (Below.refl _ _)
  rw [rule_all] at hE
  have HE := Lib.hid hE
  have hw2 := b2.size
  have HB2 := Lib.hid (Below.down HB.out b2 HB.out.size)
  clear hE hrb b2 HR
  go_wp2_with fail
  refine HE.out.mono ?_
  rintro e w3 ⟨rfl, -, hf⟩
  have HB3 := Lib.hid (Below.down HB2.out hf.nos HB2.out.size)
  clear hf
  go_wp2_with fail
  go_ret
  exact ⟨rfl, HB3.out⟩
end

end Go.Proofs.Ytamhnnkmjhapmaa
