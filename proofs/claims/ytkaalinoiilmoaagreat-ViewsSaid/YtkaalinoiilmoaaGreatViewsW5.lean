/-
  What the proofs lean on: contracts of the program's functions, plain facts.
-/
import Derived.Test.YtkaalinoiilmoaaGreatChecked
import Derived.Test.YtkaalinoiilmoaaGreatViewsW1
import Derived.Test.YtkaalinoiilmoaaGreatViewsW2
import Derived.Test.YtkaalinoiilmoaaGreatViewsW4
import Derived.StillTailTactics
import Derived.Deep.RegionWith
import Derived.Deep.CutBlock
import Derived.Deep.DeepCutAuto
import Derived.Maps.AppendAt
import Derived.Deep.AppendLies
namespace Go.Proofs.YtkaalinoiilmoaaGreat
open Go.RowKit
set_option linter.unusedVariables false
set_option linter.unusedSimpArgs false
set_option maxRecDepth 100000
set_option maxHeartbeats 1000000 in
theorem if_Rule (A : Option Addr) (b o n cap : Nat) (a0 : Nat) (c0 : Nat → Value) (p : Nat → Bool) (S : Nat → Prop) (I : Nat → World → Prop) (w : World) (hn : n ≤ maxLen) (hA : 0 < n → A = some ⟨b, o, none⟩)
    (hr : ∀ i W, i < n → I i W → W.cell? ⟨b, o + i, none⟩ = some (c0 i))
    (hG : ∀ i W, i < n → (∀ j, j < i → p j = false) → I i W → Calls Tryz.prog 54 #[c0 i, .pointer (some ⟨a0, 0, none⟩)] W fun e w' => e = .returned (.bool (p i)) ∧ I (i + 1) w' ∧ Fo S W w') (h0 : I 0 w) :
    Calls Tryz.prog 75 #[.slice A n cap, .func (.func 54) #[] #[.pointer (some ⟨a0, 0, none⟩)]] w fun e w' => ∃ r : Int, e = .returned (.int .i64 r) ∧ decide (r ≥ 0) = (List.range n).any p ∧ (∃ k, k ≤ n ∧ I k w' ∧ (r < 0 → k = n)) ∧ Fo S w w' := by
  have HA := Lib.hid hA; have HR := Lib.hid hr; have HG := Lib.hid hG; have H0 := Lib.hid h0
  unfold maxLen at hn
  clear hA hr hG h0
  go_enter Tryz.func75, Tryz.ntmps75
  go_wp2_with fail
  go_loopw [8] (fun i wr => ∃ k : Nat, k ≤ n ∧ i = .int .i64 k ∧ Hid ((∀ j, j < k → p j = false) ∧ I k wr ∧ Fo S w wr)) (fun i _ => n - (intOf i).toNat)
  case atStart => exact ⟨0, by omega, rfl, Lib.hid ⟨fun j hj => by omega, H0.out, Fo.refl _ _⟩⟩
  case round =>
    obtain ⟨k, hk, rfl, HX⟩ := hrel
    by_cases hlt : k < n
    · obtain rfl := HA.out (by omega)
      have x0 := HR.out k wr hlt HX.out.2.1
      have HC := Lib.hid (HG.out k wr hlt HX.out.1 HX.out.2.1)
      generalize c0 k = e0 at *
      go_wp2_with fail
      refine HC.out.mono ?_
      rintro e w1 ⟨rfl, hi, hf⟩
      have HI := Lib.hid hi
      have HF := Lib.hid (HX.out.2.2.trans hf)
      clear x0 hi hf
      cases hp : p k with
      | true =>
        have HP := Lib.hid hp
        clear hp
        go_wp2_with fail
        go_ret
        exact ⟨_, rfl, (by rw [range_any_yes hlt HP.out]; exact decide_eq_true (by omega)), ⟨k + 1, by omega, HI.out, fun h => by omega⟩, HF.out⟩
      | false =>
        have HP := Lib.hid hp
        clear hp
        go_wp2_with fail
        go_roundw
        case rel => exact ⟨k + 1, by omega, by go_num, Lib.hid ⟨fun j hj => by
          by_cases e : j = k
          · rw [e]; exact HP.out
          · exact HX.out.1 j (by omega), HI.out, HF.out⟩⟩
        case measure => simp [intOf]; omega
    · obtain rfl : k = n := by omega
      go_wp2_with fail
      go_ret
      exact ⟨_, rfl, (by rw [range_any_no HX.out.1]; rfl), ⟨k, by omega, HX.out.2.1, fun _ => rfl⟩, HX.out.2.2⟩
theorem cf_Rule (A : Option Addr) (b o n cap : Nat) (a0 : Nat) (c0 : Nat → Value) (p : Nat → Bool) (S : Nat → Prop) (I : Nat → World → Prop) (w : World) (hn : n ≤ maxLen) (hA : 0 < n → A = some ⟨b, o, none⟩)
    (hr : ∀ i W, i < n → I i W → W.cell? ⟨b, o + i, none⟩ = some (c0 i))
    (hG : ∀ i W, i < n → (∀ j, j < i → p j = false) → I i W → Calls Tryz.prog 54 #[c0 i, .pointer (some ⟨a0, 0, none⟩)] W fun e w' => e = .returned (.bool (p i)) ∧ I (i + 1) w' ∧ Fo S W w') (h0 : I 0 w) :
    Calls Tryz.prog 53 #[.slice A n cap, .func (.func 54) #[] #[.pointer (some ⟨a0, 0, none⟩)]] w fun e w' => e = .returned (.bool ((List.range n).any p)) ∧ Upto n I w' (!(List.range n).any p) ∧ Fo S w w' := by
  have HC := Lib.hid (if_Rule A b o n cap a0 c0 p S I w hn hA hr hG h0)
  clear hA hr hG h0
  generalize (List.range n).any p = R at *
  go_enter Tryz.func53, Tryz.ntmps53
  go_wp2_with fail
  refine HC.out.mono ?_
  rintro e w1 ⟨r, rfl, hr, hi, hf⟩
  have HI := Lib.hid hi; have HF := Lib.hid hf
  clear hi hf
  cases R
  all_goals
    go_wp2_with fail
    go_ret
  · refine ⟨rfl, ?_, HF.out⟩
    obtain ⟨k, hk, h1, h2⟩ := HI.out
    exact ⟨k, hk, h1, fun _ => h2 (by have := of_decide_eq_false hr; omega)⟩
  · refine ⟨rfl, ?_, HF.out⟩
    obtain ⟨k, hk, h1, h2⟩ := HI.out
    exact ⟨k, hk, h1, fun h => by cases h⟩
theorem e1_Rule (g : Nat) (y0 : Nat) (e0 : Value) (q : Bool) (Q : World → Prop) (S : Nat → Prop) (w : World) (hg : Blk w g 75 [.func (.func 35) #[] #[.pointer (some ⟨y0, 0, none⟩)]])
    (hst : ∀ W W', Q W → Below W.heap.size W W' → Q W') (Q' : World → Prop) (hq : Q w)
    (hH : ∀ W, Q W → Calls Tryz.prog 35 #[e0, .pointer (some ⟨y0, 0, none⟩)] W fun e w' => e = .returned (.bool q) ∧ Q' w' ∧ Fo S W w') :
    Calls Tryz.prog 54 #[e0, .pointer (some ⟨g, 0, none⟩)] w fun e w' => e = .returned (.bool (!q)) ∧ Q' w' ∧ Fo S w w' := by
  have cg := hg.cell 0
  simp only [List.getElem?_cons_zero] at cg
  have HC := Lib.hid (hH _ hq)
  clear hg hH hst hq
  go_enter Tryz.func54, Tryz.ntmps54
  go_wp2_with fail
  refine HC.out.mono ?_
  rintro e w1 ⟨rfl, h1, h2⟩
  go_wp2_with fail
  go_ret
  exact ⟨rfl, h1, h2⟩
theorem each_Rule (A : Option Addr) (b o n cap : Nat) (y0 : Nat) (c0 : Nat → Value) (q : Nat → Bool) (S : Nat → Prop) (I : Nat → World → Prop) (w : World) (hn : n ≤ maxLen) (hA : 0 < n → A = some ⟨b, o, none⟩)
    (hS : ∀ k, S k → k < w.heap.size) (hst : ∀ i W W', I i W → Below W.heap.size W W' → I i W')
    (hr : ∀ i W, i < n → I i W → W.cell? ⟨b, o + i, none⟩ = some (c0 i))
    (hH : ∀ i W, i < n → (∀ j, j < i → q j = true) → I i W → Calls Tryz.prog 35 #[c0 i, .pointer (some ⟨y0, 0, none⟩)] W fun e w' => e = .returned (.bool (q i)) ∧ I (i + 1) w' ∧ Fo S W w') (h0 : I 0 w) :
    Calls Tryz.prog 33 #[.slice A n cap, .func (.func 35) #[] #[.pointer (some ⟨y0, 0, none⟩)]] w fun e w' => e = .returned (.bool ((List.range n).all q)) ∧ Upto n I w' ((List.range n).all q) ∧ Fo S w w' := by
  have hb0 : Below w.heap.size w (w.alloc (.cells #[.func (.func 35) #[] #[.pointer (some ⟨y0, 0, none⟩)]] 75)) := (Below.refl _ _).alloc (Nat.le_refl _) _
  have hb1 : Blk (w.alloc (.cells #[.func (.func 35) #[] #[.pointer (some ⟨y0, 0, none⟩)]] 75)) w.heap.size 75 [.func (.func 35) #[] #[.pointer (some ⟨y0, 0, none⟩)]] := Blk.new _ _ _
  have hC := cf_Rule A b o n cap w.heap.size c0 (fun i => !q i) S (fun i W => I i W ∧ Blk W w.heap.size 75 [.func (.func 35) #[] #[.pointer (some ⟨y0, 0, none⟩)]]) _ hn hA (fun i W hi h => hr i W hi h.1)
    (fun i W hi hj h => (e1_Rule w.heap.size y0 _ (q i) (I i) S W h.2 (hst i) (fun w' => I (i + 1) w') h.1 (fun W' h' => hH i W' hi (fun j hj' => by have := hj j hj'; simpa using this) h')).mono (fun e w' ⟨he, h1, h2⟩ => ⟨he, ⟨h1, h2.blk h.2 (fun hs => by have := hS _ hs; omega)⟩, h2⟩)) ⟨hst 0 _ _ h0 hb0, hb1⟩
  have e1 : (List.range n).any (fun i => !q i) = !(List.range n).all q := range_any_not _ _
  rw [e1] at hC
  have HC := Lib.hid hC; have HB := Lib.hid hb0
  clear hC e1 hb0 hb1 hA hS hst hr hH h0
  generalize (List.range n).all q = R at *
  go_enter Tryz.func33, Tryz.ntmps33
  go_wp2_with fail
  refine HC.out.mono ?_
  rintro e w1 ⟨rfl, hk, hf⟩
  have HK := Lib.hid hk; have HF := Lib.hid hf
  clear hk hf
  cases R
  all_goals
    go_wp2_with fail
    go_ret
    refine ⟨rfl, ?_, (Fo.of HB.out S).trans_new HF.out (fun i hi => .inl hi)⟩
    obtain ⟨k, hk, h1, h2⟩ := HK.out
    exact ⟨k, hk, h1.1, fun h => h2 (by first | exact h | cases h | rfl)⟩
end Go.Proofs.YtkaalinoiilmoaaGreat
namespace Go.Proofs.YtkaalinoiilmoaaGreat
open Go.RowKit
set_option linter.unusedVariables false
set_option linter.unusedSimpArgs false
set_option maxRecDepth 100000
def ruleV : Nat → Value
  | 0 => .func (.func 55) #[] #[]
  | 1 => .func (.func 56) #[] #[]
  | 2 => .func (.func 57) #[] #[]
  | 3 => .func (.func 58) #[] #[]
  | 4 => .func (.func 59) #[] #[]
  | 5 => .func (.func 60) #[] #[]
  | 6 => .func (.func 61) #[] #[]
  | 7 => .func (.func 62) #[] #[]
  | _ => .func (.func 63) #[] #[]
def ruleB (c : Cf) : Nat → Bool
  | 0 => frB_Cf0 c
  | 1 => psB c
  | 2 => dsB c
  | 3 => unB c
  | 4 => wsB c
  | 5 => gsB c
  | 6 => shB c
  | 7 => quB c
  | _ => qtB c
theorem rule_all (c : Cf) : (List.range 9).all (ruleB c) = cfMay c := by
  unfold cfMay
  simp [List.range_succ, ruleB, Bool.and_assoc]
theorem rules_any (w : World) : Calls Tryz.prog 34 #[] w fun e w' => e = .returned (.slice (some ⟨w.heap.size, 0, none⟩) 9 9) ∧ Blk w' w.heap.size 72 [.func (.func 55) #[] #[], .func (.func 56) #[] #[], .func (.func 57) #[] #[], .func (.func 58) #[] #[], .func (.func 59) #[] #[], .func (.func 60) #[] #[], .func (.func 61) #[] #[], .func (.func 62) #[] #[], .func (.func 63) #[] #[]] ∧ Below w.heap.size w w' := by
  go_enter Tryz.func34, Tryz.ntmps34
  go_wp2_with fail
  go_ret
  exact ⟨rfl, Blk.new w _ [.func (.func 55) #[] #[], .func (.func 56) #[] #[], .func (.func 57) #[] #[], .func (.func 58) #[] #[], .func (.func 59) #[] #[], .func (.func 60) #[] #[], .func (.func 61) #[] #[], .func (.func 62) #[] #[], .func (.func 63) #[] #[]], (Below.refl _ _).alloc (Nat.le_refl _) _⟩
section
variable {w : World} {c : Cf} {vp vd vw vg : Value}
theorem m1_0 (g : Nat) (hg : Blk w g 27 (cfc c vp vd vw vg)) (h : CfAt w vp vd vw vg c) :
    Calls Tryz.prog 35 #[.func (.func 55) #[] #[], .pointer (some ⟨g, 0, none⟩)] w fun e w' => e = .returned (.bool (frB_Cf0 c)) ∧ Below w.heap.size w w' := by
  obtain ⟨k0, k1, k2, k3, k4, k5, k6, k7, k8⟩ := cf_at hg
  have HC : Hid (Calls Tryz.prog 55 #[.agg #[.int .i64 c.fr, vp, vd, .int .i64 c.mj, vw, vg, .int .i64 c.se, .int .i64 c.qu, .int .i64 c.qt]] w _) := Lib.hid (framesmay_any)
  clear hg h
  go_enter Tryz.func35, Tryz.ntmps35
  go_wp2_with fail
  refine HC.out.mono ?_
  rintro e w1 ⟨rfl, b1⟩
  go_wp2_with fail
  go_ret
  exact ⟨rfl, b1⟩
theorem m1_1 (g : Nat) (hg : Blk w g 27 (cfc c vp vd vw vg)) (h : CfAt w vp vd vw vg c) :
    Calls Tryz.prog 35 #[.func (.func 56) #[] #[], .pointer (some ⟨g, 0, none⟩)] w fun e w' => e = .returned (.bool (psB c)) ∧ Below w.heap.size w w' := by
  obtain ⟨k0, k1, k2, k3, k4, k5, k6, k7, k8⟩ := cf_at hg
  have HC : Hid (Calls Tryz.prog 56 #[.agg #[.int .i64 c.fr, vp, vd, .int .i64 c.mj, vw, vg, .int .i64 c.se, .int .i64 c.qu, .int .i64 c.qt]] w _) := Lib.hid (partsmay_any h)
  clear hg h
  go_enter Tryz.func35, Tryz.ntmps35
  go_wp2_with fail
  refine HC.out.mono ?_
  rintro e w1 ⟨rfl, b1⟩
  go_wp2_with fail
  go_ret
  exact ⟨rfl, b1⟩
theorem m1_2 (g : Nat) (hg : Blk w g 27 (cfc c vp vd vw vg)) (h : CfAt w vp vd vw vg c) :
    Calls Tryz.prog 35 #[.func (.func 57) #[] #[], .pointer (some ⟨g, 0, none⟩)] w fun e w' => e = .returned (.bool (dsB c)) ∧ Below w.heap.size w w' := by
  obtain ⟨k0, k1, k2, k3, k4, k5, k6, k7, k8⟩ := cf_at hg
  have HC : Hid (Calls Tryz.prog 57 #[.agg #[.int .i64 c.fr, vp, vd, .int .i64 c.mj, vw, vg, .int .i64 c.se, .int .i64 c.qu, .int .i64 c.qt]] w _) := Lib.hid (devicesmay_any h)
  clear hg h
  go_enter Tryz.func35, Tryz.ntmps35
  go_wp2_with fail
  refine HC.out.mono ?_
  rintro e w1 ⟨rfl, b1⟩
  go_wp2_with fail
  go_ret
  exact ⟨rfl, b1⟩
theorem m1_3 (g : Nat) (hg : Blk w g 27 (cfc c vp vd vw vg)) (h : CfAt w vp vd vw vg c) (hF : 1 ≤ c.fr ∧ c.fr ≤ 64) (hp : c.ps.length ≤ 4) :
    Calls Tryz.prog 35 #[.func (.func 58) #[] #[], .pointer (some ⟨g, 0, none⟩)] w fun e w' => e = .returned (.bool (unB c)) ∧ Below w.heap.size w w' := by
  obtain ⟨k0, k1, k2, k3, k4, k5, k6, k7, k8⟩ := cf_at hg
  have HC : Hid (Calls Tryz.prog 58 #[.agg #[.int .i64 c.fr, vp, vd, .int .i64 c.mj, vw, vg, .int .i64 c.se, .int .i64 c.qu, .int .i64 c.qt]] w _) := Lib.hid (unlike_any h hF hp)
  clear hg h hF hp
  go_enter Tryz.func35, Tryz.ntmps35
  go_wp2_with fail
  refine HC.out.mono ?_
  rintro e w1 ⟨rfl, b1⟩
  go_wp2_with fail
  go_ret
  exact ⟨rfl, b1⟩
theorem m1_4 (g : Nat) (hg : Blk w g 27 (cfc c vp vd vw vg)) (h : CfAt w vp vd vw vg c) :
    Calls Tryz.prog 35 #[.func (.func 59) #[] #[], .pointer (some ⟨g, 0, none⟩)] w fun e w' => e = .returned (.bool (wsB c)) ∧ Below w.heap.size w w' := by
  obtain ⟨k0, k1, k2, k3, k4, k5, k6, k7, k8⟩ := cf_at hg
  have HC : Hid (Calls Tryz.prog 59 #[.agg #[.int .i64 c.fr, vp, vd, .int .i64 c.mj, vw, vg, .int .i64 c.se, .int .i64 c.qu, .int .i64 c.qt]] w _) := Lib.hid (windowsmay_any h)
  clear hg h
  go_enter Tryz.func35, Tryz.ntmps35
  go_wp2_with fail
  refine HC.out.mono ?_
  rintro e w1 ⟨rfl, b1⟩
  go_wp2_with fail
  go_ret
  exact ⟨rfl, b1⟩
theorem m1_5 (g : Nat) (hg : Blk w g 27 (cfc c vp vd vw vg)) (h : CfAt w vp vd vw vg c) (hF : 1 ≤ c.fr ∧ c.fr ≤ 64) (hp : c.ps.length ≤ 4) (hu : unB c = true) :
    Calls Tryz.prog 35 #[.func (.func 60) #[] #[], .pointer (some ⟨g, 0, none⟩)] w fun e w' => e = .returned (.bool (gsB c)) ∧ Below w.heap.size w w' := by
  obtain ⟨k0, k1, k2, k3, k4, k5, k6, k7, k8⟩ := cf_at hg
  have HC : Hid (Calls Tryz.prog 60 #[.agg #[.int .i64 c.fr, vp, vd, .int .i64 c.mj, vw, vg, .int .i64 c.se, .int .i64 c.qu, .int .i64 c.qt]] w _) := Lib.hid (grantsmay_any h hF hp hu)
  clear hg h hF hp hu
  go_enter Tryz.func35, Tryz.ntmps35
  go_wp2_with fail
  refine HC.out.mono ?_
  rintro e w1 ⟨rfl, b1⟩
  go_wp2_with fail
  go_ret
  exact ⟨rfl, b1⟩
theorem m1_6 (g : Nat) (hg : Blk w g 27 (cfc c vp vd vw vg)) (h : CfAt w vp vd vw vg c) :
    Calls Tryz.prog 35 #[.func (.func 61) #[] #[], .pointer (some ⟨g, 0, none⟩)] w fun e w' => e = .returned (.bool (shB c)) ∧ Below w.heap.size w w' := by
  obtain ⟨k0, k1, k2, k3, k4, k5, k6, k7, k8⟩ := cf_at hg
  have HC : Hid (Calls Tryz.prog 61 #[.agg #[.int .i64 c.fr, vp, vd, .int .i64 c.mj, vw, vg, .int .i64 c.se, .int .i64 c.qu, .int .i64 c.qt]] w _) := Lib.hid (sharesmay_any h)
  clear hg h
  go_enter Tryz.func35, Tryz.ntmps35
  go_wp2_with fail
  refine HC.out.mono ?_
  rintro e w1 ⟨rfl, b1⟩
  go_wp2_with fail
  go_ret
  exact ⟨rfl, b1⟩
theorem m1_7 (g : Nat) (hg : Blk w g 27 (cfc c vp vd vw vg)) (h : CfAt w vp vd vw vg c) :
    Calls Tryz.prog 35 #[.func (.func 62) #[] #[], .pointer (some ⟨g, 0, none⟩)] w fun e w' => e = .returned (.bool (quB c)) ∧ Below w.heap.size w w' := by
  obtain ⟨k0, k1, k2, k3, k4, k5, k6, k7, k8⟩ := cf_at hg
  have HC : Hid (Calls Tryz.prog 62 #[.agg #[.int .i64 c.fr, vp, vd, .int .i64 c.mj, vw, vg, .int .i64 c.se, .int .i64 c.qu, .int .i64 c.qt]] w _) := Lib.hid (quotamay_any)
  clear hg h
  go_enter Tryz.func35, Tryz.ntmps35
  go_wp2_with fail
  refine HC.out.mono ?_
  rintro e w1 ⟨rfl, b1⟩
  go_wp2_with fail
  go_ret
  exact ⟨rfl, b1⟩
theorem m1_8 (g : Nat) (hg : Blk w g 27 (cfc c vp vd vw vg)) (h : CfAt w vp vd vw vg c) :
    Calls Tryz.prog 35 #[.func (.func 63) #[] #[], .pointer (some ⟨g, 0, none⟩)] w fun e w' => e = .returned (.bool (qtB c)) ∧ Below w.heap.size w w' := by
  obtain ⟨k0, k1, k2, k3, k4, k5, k6, k7, k8⟩ := cf_at hg
  have HC : Hid (Calls Tryz.prog 63 #[.agg #[.int .i64 c.fr, vp, vd, .int .i64 c.mj, vw, vg, .int .i64 c.se, .int .i64 c.qu, .int .i64 c.qt]] w _) := Lib.hid (quietmay_any)
  clear hg h
  go_enter Tryz.func35, Tryz.ntmps35
  go_wp2_with fail
  refine HC.out.mono ?_
  rintro e w1 ⟨rfl, b1⟩
  go_wp2_with fail
  go_ret
  exact ⟨rfl, b1⟩
theorem m1_any (g i : Nat) (hi : i < 9) (hg : Blk w g 27 (cfc c vp vd vw vg)) (h : CfAt w vp vd vw vg c) (hall : ∀ j, j < i → ruleB c j = true) :
    Calls Tryz.prog 35 #[ruleV i, .pointer (some ⟨g, 0, none⟩)] w fun e w' => e = .returned (.bool (ruleB c i)) ∧ Below w.heap.size w w' := by
  have hF : 1 ≤ i → 1 ≤ c.fr ∧ c.fr ≤ 64 := fun h1 => btw_iff.1 (hall 0 (by omega))
  have hp : 2 ≤ i → c.ps.length ≤ 4 := fun h1 => by
    have h2 : psB c = true := hall 1 (by omega)
    unfold psB at h2
    rw [Bool.and_eq_true] at h2
    have := (btw_iff.1 h2.1).2
    omega
  have hu : 4 ≤ i → unB c = true := fun h1 => hall 3 (by omega)
  match i, hi with
  | 0, _ => exact m1_0 g hg h
  | 1, _ => exact m1_1 g hg h
  | 2, _ => exact m1_2 g hg h
  | 3, _ => exact m1_3 g hg h (hF (by omega)) (hp (by omega))
  | 4, _ => exact m1_4 g hg h
  | 5, _ => exact m1_5 g hg h (hF (by omega)) (hp (by omega)) (hu (by omega))
  | 6, _ => exact m1_6 g hg h
  | 7, _ => exact m1_7 g hg h
  | 8, _ => exact m1_8 g hg h
  | i + 9, hi => omega
theorem cmay_any (h : CfAt w vp vd vw vg c) : Calls Tryz.prog 18 #[.agg #[.int .i64 c.fr, vp, vd, .int .i64 c.mj, vw, vg, .int .i64 c.se, .int .i64 c.qu, .int .i64 c.qt]] w fun e w' => e = .returned (.bool (cfMay c)) ∧ Below w.heap.size w w' := by
  obtain ⟨hb, hB⟩ := cf_box w c vp vd vw vg
  have HB := Lib.hid hB; have HCB := Lib.hid hb; have H1 := Lib.hid (h.below hB)
  have HR := Lib.hid (rules_any (w.alloc (.cells #[.int .i64 c.fr, vp, vd, .int .i64 c.mj, vw, vg, .int .i64 c.se, .int .i64 c.qu, .int .i64 c.qt] 27)))
  clear hb hB h
  go_enter Tryz.func18, Tryz.ntmps18
  go_wp2_with fail
  generalize w.alloc (.cells #[.int .i64 c.fr, vp, vd, .int .i64 c.mj, vw, vg, .int .i64 c.se, .int .i64 c.qu, .int .i64 c.qt] 27) = w1 at *
  refine HR.out.mono ?_
  rintro e w2 ⟨rfl, hrb, b2⟩
  have hE := each_Rule (some ⟨w1.heap.size, 0, none⟩) w1.heap.size 0 9 9 w.heap.size ruleV (ruleB c) nos (fun _ W => Below w2.heap.size w2 W) w2 (by unfold maxLen; omega) (fun _ => rfl) nos_lt
    (fun i W W' hI hW => Below.down hI hW hI.size)
    (fun i W hi hI => by
      refine (hI.cell (p := ⟨w1.heap.size, 0 + i, none⟩) hrb.lt).trans ((hrb.cell (0 + i)).trans ?_)
      rw [Nat.zero_add]
      match i, hi with
      | 0, _ => rfl
      | 1, _ => rfl
      | 2, _ => rfl
      | 3, _ => rfl
      | 4, _ => rfl
      | 5, _ => rfl
      | 6, _ => rfl
      | 7, _ => rfl
      | 8, _ => rfl
      | i + 9, hi => omega)
    (fun i W hi hall hI => by
      have hs2 := b2.size
      refine (m1_any w.heap.size i hi ((HCB.out.below b2 HCB.out.lt).below hI (by have := HCB.out.lt; omega)) ((H1.out.below b2).below hI) hall).mono ?_
      rintro e w' ⟨rfl, hb⟩
      exact ⟨rfl, Below.down hI hb hI.size, Fo.of hb _⟩)
    (Below.refl _ _)
  rw [rule_all] at hE
  have HE := Lib.hid hE
  have hw2 := b2.size
  have HB2 := Lib.hid (Below.down HB.out b2 HB.out.size)
  clear hE hrb b2 HR
  go_wp2_with fail
  refine HE.out.mono ?_
  rintro e w3 ⟨rfl, -, hf⟩
  have HB3 := Lib.hid (Below.down HB2.out hf.nos HB2.out.size)
  clear hf
  go_wp2_with fail
  go_ret
  exact ⟨rfl, HB3.out⟩
end
end Go.Proofs.YtkaalinoiilmoaaGreat
namespace Go.Proofs.YtkaalinoiilmoaaGreat
open Go.RowKit
set_option linter.unusedVariables false
set_option linter.unusedSimpArgs false
set_option maxRecDepth 100000
def memI (l : List Int) (x : Int) : Bool := decide (x ∈ l)
theorem mem_take_no {l : List Int} {x : Int} (h : ∀ j, j < l.length → l.getD j 0 ≠ x) : memI l x = false := by
  refine decide_eq_false (fun hm => ?_)
  obtain ⟨j, hj, e⟩ := List.getElem_of_mem hm
  exact h j hj (by simp [List.getD, List.getElem?_eq_getElem hj, e])
theorem mem_at {l : List Int} {x : Int} {j : Nat} (hj : j < l.length) (h : l.getD j 0 = x) : memI l x = true := by
  refine decide_eq_true ?_
  rw [← h]
  simp only [List.getD, List.getElem?_eq_getElem hj, Option.getD_some]
  exact List.getElem_mem hj
theorem index_any (v : Value) (l : List Int) (x : Int) (w : World) (h : Sl w v l.length 1 (ints l)) (hn : l.length ≤ maxLen) :
    Calls Tryz.prog 107 #[v, .int .i64 x] w fun e w' => (∃ r : Int, e = .returned (.int .i64 r) ∧ decide (r ≥ 0) = memI l x) ∧ w = w' := by
  obtain ⟨A, cap, rfl, _, _, hA⟩ := h
  have HA := Lib.hid hA
  clear hA
  generalize hl : l.length = n at *
  have HL := Lib.hid hl
  unfold maxLen at hn
  clear hl
  go_enter Tryz.func107, Tryz.ntmps107
  go_wp2_with fail
  go_loop [8] (fun i => ∃ k : Nat, k ≤ n ∧ i = .int .i64 k ∧ Hid (∀ j, j < k → l.getD j 0 ≠ x)) (fun i => n - (intOf i).toNat)
  case atStart => exact ⟨0, by omega, rfl, Lib.hid fun j hj => by omega⟩
  case round =>
    obtain ⟨k, hk, rfl, H⟩ := hrel
    by_cases hlt : k < n
    · obtain ⟨b, o, rfl, hb, hcell⟩ := HA.out (by omega)
      have c0 := hcell k _ (ints_get l k (by rw [HL.out]; exact hlt))
      clear hcell
      by_cases he : l.getD k 0 = x
      · have HE := Lib.hid he
        rw [he] at c0
        clear he
        go_wp2
        go_ret
        exact ⟨⟨_, rfl, by rw [mem_at (by rw [HL.out]; exact hlt) HE.out]; exact decide_eq_true (by omega)⟩, rfl⟩
      · have HE := Lib.hid he
        have he2 : (x == l.getD k 0) = false := by simpa using fun e => he e.symm
        generalize l.getD k 0 = y at c0 he2
        clear he
        go_wp2
        go_round
        case rel => exact ⟨k + 1, by omega, by go_num, Lib.hid fun j hj => by
          by_cases e : j = k
          · rw [e]; exact HE.out
          · exact H.out j (by omega)⟩
        case measure => simp [intOf]; omega
    · obtain rfl : k = n := by omega
      go_wp2
      go_ret
      exact ⟨⟨_, rfl, by rw [mem_take_no (fun j hj => H.out j (by rw [← HL.out]; exact hj))]; rfl⟩, rfl⟩
theorem contains_any (v : Value) (l : List Int) (x : Int) (w : World) (h : Sl w v l.length 1 (ints l)) (hn : l.length ≤ maxLen) :
    Calls Tryz.prog 93 #[v, .int .i64 x] w fun e w' => e = .returned (.bool (memI l x)) ∧ w = w' := by
  have HI := Lib.hid (index_any v l x w h hn)
  obtain ⟨A, cap, rfl, _⟩ := h
  generalize memI l x = R at *
  go_enter Tryz.func93, Tryz.ntmps93
  go_wp2_with fail
  refine HI.out.mono ?_
  rintro e w' ⟨⟨r, rfl, hr⟩, rfl⟩
  cases R
  all_goals
    go_wp2_with fail
    go_ret
    exact ⟨rfl, rfl⟩
end Go.Proofs.YtkaalinoiilmoaaGreat
namespace Go.Proofs.YtkaalinoiilmoaaGreat
open Go.RowKit
set_option linter.unusedVariables false
set_option maxRecDepth 100000
def itc (f : Nat → Int) (N : Nat) : List Value := (List.range N).map (fun i => .int .i64 (f i))
theorem itc_len (f : Nat → Int) (N : Nat) : (itc f N).length = N := by simp [itc]
theorem itc_get (f : Nat → Int) (N i : Nat) (h : i < N) : (itc f N)[i]? = some (.int .i64 (f i)) := by
  simp [itc, List.getElem?_map, List.getElem?_range h]
theorem itc_congr {f g : Nat → Int} {N : Nat} (h : ∀ i, i < N → f i = g i) : itc f N = itc g N := by
  unfold itc
  exact List.map_congr_left (fun i hi => by rw [h i (List.mem_range.1 hi)])
def iF (f : Nat → Int) (k : Nat) (x : Int) : Nat → Int := fun i => if i = k then x else f i
theorem itc_set (f : Nat → Int) (N k : Nat) (x : Int) : (itc f N).set k (.int .i64 x) = itc (iF f k x) N := by
  apply List.ext_getElem?
  intro i
  rw [List.getElem?_set]
  by_cases h : i < N
  · rw [itc_get _ _ _ h, itc_get _ _ _ h, itc_len]
    unfold iF
    by_cases e : k = i
    · subst e; simp [h]
    · rw [if_neg e, if_neg (fun e' => e e'.symm)]
  · rw [List.getElem?_eq_none (by rw [itc_len]; omega), List.getElem?_eq_none (by rw [itc_len]; omega), itc_len]
    by_cases e : k = i
    · subst e; simp [h]
    · rw [if_neg e]
theorem iF_here (f : Nat → Int) (k : Nat) (x : Int) : iF f k x k = x := by unfold iF; rw [if_pos rfl]
def noI : Nat → Int := fun _ => 0
end Go.Proofs.YtkaalinoiilmoaaGreat
namespace Go.Proofs.YtkaalinoiilmoaaGreat
open Go.RowKit
set_option linter.unusedVariables false
set_option maxRecDepth 100000
def uN (f : Nat → Nat) (k x : Nat) : Nat → Nat := fun i => if i = k then x else f i
def noN : Nat → Nat := fun _ => 0
def ph (n : Nat) : Int := if n = 0 then 0 else 1
def adB (D : Nat) (d : Int) : Bool := decide (0 ≤ d ∧ d < (D : Int))
def amB (D P : Nat) (d t : Int) : Bool := adB D d && adB P t
def amC (D P : Nat) (L : Nat → Nat) (d t : Int) : Int := if amB D P d t then (if L d.toNat = 0 then 0 else 1501) else 1500
def amG (D P : Nat) (L : Nat → Nat) (d t : Int) : Bool := amB D P d t && decide (L d.toNat = 0)
def amO (D P : Nat) (O : Nat → Int) (L : Nat → Nat) (d t : Int) : Nat → Int := if amG D P L d t then iF O d.toNat t else O
def amL (D P q : Nat) (L : Nat → Nat) (d t : Int) : Nat → Nat := if amG D P L d t then uN L d.toNat q else L
def apC (D : Nat) (d : Int) : Int := if adB D d then 0 else 1500
def apX (D : Nat) (L : Nat → Nat) (d : Int) : Int := if adB D d then ph (L d.toNat) else 0
def aoX (D : Nat) (O : Nat → Int) (L : Nat → Nat) (d : Int) : Int := if adB D d then (if L d.toNat = 0 then O d.toNat else -1) else -1
def atL (L : Nat → Nat) (k : Nat) : Nat → Nat := fun i => if i < k then L i - 1 else L i
def atE (L : Nat → Nat) (k : Nat) : List Int := ((List.range k).filter (fun (i : Nat) => L i == 1)).map (fun (i : Nat) => (i : Int))
theorem atL_zero (L : Nat → Nat) : atL L 0 = L := by funext i; simp [atL]
theorem atL_step (L : Nat → Nat) (k : Nat) : uN (atL L k) k (L k - 1) = atL L (k + 1) := by
  funext i
  unfold uN atL
  by_cases h : i = k
  · subst h; rw [if_pos rfl, if_pos (by omega)]
  · rw [if_neg h]
    by_cases h2 : i < k
    · rw [if_pos h2, if_pos (by omega)]
    · rw [if_neg h2, if_neg (by omega)]
theorem atL_here (L : Nat → Nat) (k : Nat) : atL L k k = L k := by unfold atL; rw [if_neg (by omega)]
theorem uN_same (L : Nat → Nat) (k : Nat) : uN L k (L k) = L := by funext i; unfold uN; split <;> simp_all
theorem iF_same (O : Nat → Int) (k : Nat) : iF O k (O k) = O := by funext i; unfold iF; split <;> simp_all
theorem atE_yes (L : Nat → Nat) (k : Nat) (h : L k = 1) : atE L (k + 1) = atE L k ++ [(k : Int)] := by
  unfold atE
  rw [List.range_succ, List.filter_append, List.map_append]
  simp [h]
theorem atE_no (L : Nat → Nat) (k : Nat) (h : L k ≠ 1) : atE L (k + 1) = atE L k := by
  unfold atE
  rw [List.range_succ, List.filter_append, List.map_append]
  simp [h]
theorem atE_len (L : Nat → Nat) (k : Nat) : (atE L k).length ≤ k := by
  unfold atE
  rw [List.length_map]
  have := List.length_filter_le (fun (i : Nat) => L i == 1) (List.range k)
  rwa [List.length_range] at this
theorem uN_le {k x : Nat} {L : Nat → Nat} (hq : x ≤ 8) (h : ∀ i, L i ≤ 8) : ∀ i, uN L k x i ≤ 8 := by
  intro i
  unfold uN
  split
  · exact hq
  · exact h i
theorem atL_le {k : Nat} {L : Nat → Nat} (h : ∀ i, L i ≤ 8) : ∀ i, atL L k i ≤ 8 := by
  intro i
  unfold atL
  split
  · have := h i; omega
  · exact h i
def acF (q P D : Nat) (O : Nat → Int) (L : Nat → Nat) : Nat → Int
  | 0 => q
  | 1 => P
  | 2 => D
  | i + 3 => if i % 3 = 0 then ph (L (i / 3)) else if i % 3 = 1 then O (i / 3) else (L (i / 3) : Int)
section
variable (q P D : Nat) (O : Nat → Int) (L : Nat → Nat) (i : Nat)
theorem acF_ph : acF q P D O L (3 + i * 3) = ph (L i) := by
  rw [show 3 + i * 3 = i * 3 + 3 by omega]
  show (if i * 3 % 3 = 0 then ph (L (i * 3 / 3)) else _) = _
  rw [if_pos (by omega), show i * 3 / 3 = i by omega]
theorem acF_o : acF q P D O L (3 + i * 3 + 1) = O i := by
  rw [show 3 + i * 3 + 1 = (i * 3 + 1) + 3 by omega]
  show (if (i * 3 + 1) % 3 = 0 then _ else if (i * 3 + 1) % 3 = 1 then O ((i * 3 + 1) / 3) else _) = _
  rw [if_neg (by omega), if_pos (by omega), show (i * 3 + 1) / 3 = i by omega]
theorem acF_l : acF q P D O L (3 + i * 3 + 2) = (L i : Int) := by
  rw [show 3 + i * 3 + 2 = (i * 3 + 2) + 3 by omega]
  show (if (i * 3 + 2) % 3 = 0 then _ else if (i * 3 + 2) % 3 = 1 then _ else ((L ((i * 3 + 2) / 3) : Nat) : Int)) = _
  rw [if_neg (by omega), if_neg (by omega), show (i * 3 + 2) / 3 = i by omega]
theorem acF_put (o : Int) (l : Nat) : iF (iF (iF (acF q P D O L) (3 + i * 3) (ph l)) (3 + i * 3 + 1) o) (3 + i * 3 + 2) l = acF q P D (iF O i o) (uN L i l) := by
  funext j
  match j with
  | 0 => unfold iF; rw [if_neg (by omega), if_neg (by omega), if_neg (by omega)]; rfl
  | 1 => unfold iF; rw [if_neg (by omega), if_neg (by omega), if_neg (by omega)]; rfl
  | 2 => unfold iF; rw [if_neg (by omega), if_neg (by omega), if_neg (by omega)]; rfl
  | j + 3 =>
    show iF _ _ _ (j + 3) = (if j % 3 = 0 then ph (uN L i l (j / 3)) else if j % 3 = 1 then iF O i o (j / 3) else ((uN L i l (j / 3) : Nat) : Int))
    have e : acF q P D O L (j + 3) = (if j % 3 = 0 then ph (L (j / 3)) else if j % 3 = 1 then O (j / 3) else (L (j / 3) : Int)) := rfl
    unfold iF uN
    rw [e]
    by_cases h : j / 3 = i
    · rw [if_pos h, if_pos h]
      by_cases h0 : j % 3 = 0
      · rw [if_neg (by omega), if_neg (by omega), if_pos (by omega), if_pos h0]
      · by_cases h1 : j % 3 = 1
        · rw [if_neg (by omega), if_pos (by omega), if_neg h0, if_pos h1]
        · rw [if_pos (by omega), if_neg h0, if_neg h1]
    · rw [if_neg h, if_neg h, if_neg (by omega), if_neg (by omega), if_neg (by omega)]
end
theorem adB_way {D : Nat} {d : Int} (h : adB D d = true) : ∃ i : Nat, d = i ∧ i < D := by
  unfold adB at h
  simp only [decide_eq_true_eq] at h
  exact ⟨d.toNat, by omega, by omega⟩
theorem adB_nat {D i : Nat} (h : i < D) : adB D (i : Int) = true := by unfold adB; simp only [decide_eq_true_eq]; omega
theorem a_yes (D : Nat) (O : Nat → Int) (L : Nat → Nat) (i : Nat) (h : i < D) : apC D i = 0 ∧ apX D L i = ph (L i) ∧ aoX D O L i = if L i = 0 then O i else -1 := by
  simp [apC, apX, aoX, adB_nat h]
theorem a_no (D : Nat) (O : Nat → Int) (L : Nat → Nat) (d : Int) (h : adB D d = false) : apC D d = 1500 ∧ apX D L d = 0 ∧ aoX D O L d = -1 := by
  simp [apC, apX, aoX, h]
theorem am_parts (D P q : Nat) (O : Nat → Int) (L : Nat → Nat) (d t : Int) :
    (amB D P d t = false ∧ amC D P L d t = 1500 ∧ amO D P O L d t = O ∧ amL D P q L d t = L) ∨
    (∃ i : Nat, d = i ∧ i < D ∧ adB P t = true ∧ L i ≠ 0 ∧ amC D P L d t = 1501 ∧ amO D P O L d t = O ∧ amL D P q L d t = L) ∨
    (∃ i : Nat, d = i ∧ i < D ∧ adB P t = true ∧ L i = 0 ∧ amC D P L d t = 0 ∧ amO D P O L d t = iF O i t ∧ amL D P q L d t = uN L i q) := by
  cases hb : amB D P d t with
  | false => exact .inl ⟨rfl, by simp [amC, hb], by simp [amO, amG, hb], by simp [amL, amG, hb]⟩
  | true =>
    have hb2 := hb
    unfold amB at hb2
    rw [Bool.and_eq_true] at hb2
    obtain ⟨i, rfl, hi⟩ := adB_way hb2.1
    refine .inr ?_
    by_cases hl : L i = 0
    · exact .inr ⟨i, rfl, hi, hb2.2, hl, by simp [amC, hb, hl], by simp [amO, amG, hb, hl], by simp [amL, amG, hb, hl]⟩
    · exact .inl ⟨i, rfl, hi, hb2.2, hl, by simp [amC, hb, hl], by simp [amO, amG, hb, hl], by simp [amL, amG, hb, hl]⟩
end Go.Proofs.YtkaalinoiilmoaaGreat
namespace Go.Proofs.YtkaalinoiilmoaaGreat
open Go.RowKit
set_option linter.unusedVariables false
set_option maxRecDepth 100000
theorem asgd_any (p : Int) (w : World) :
    Calls Tryz.prog 89 #[.int .i64 p] w fun e w' => e = .returned (.agg #[.int .i64 0, .int .i64 p, .int .i64 0]) ∧ Below w.heap.size w w' := by
  go_enter Tryz.func89, Tryz.ntmps89
  go_wp2
  exact bodyPost_ret (v := .agg #[.int .i64 0, .int .i64 p, .int .i64 0]) (by simp [results, Tryz.results89, go_sem]) rfl ⟨rfl, (Below.refl _ _).alloc (Nat.le_refl _) _⟩
theorem aqui_any (p l : Int) (w : World) :
    Calls Tryz.prog 90 #[.int .i64 p, .int .i64 l] w fun e w' => e = .returned (.agg #[.int .i64 1, .int .i64 p, .int .i64 l]) ∧ Below w.heap.size w w' := by
  go_enter Tryz.func90, Tryz.ntmps90
  go_wp2
  exact bodyPost_ret (v := .agg #[.int .i64 1, .int .i64 p, .int .i64 l]) (by simp [results, Tryz.results90, go_sem]) rfl ⟨rfl, (Below.refl _ _).alloc (Nat.le_refl _) _⟩
theorem aown_0 (o l : Int) (w : World) :
    Calls Tryz.prog 69 #[.agg #[.int .i64 0, .int .i64 o, .int .i64 l]] w fun e w' => e = .returned (.int .i64 o) ∧ Below w.heap.size w w' := by
  go_enter Tryz.func69, Tryz.ntmps69
  go_wp2
  go_ret
  exact ⟨rfl, (Below.refl _ _).alloc (Nat.le_refl _) _⟩
theorem aown_1 (o l : Int) (w : World) :
    Calls Tryz.prog 69 #[.agg #[.int .i64 1, .int .i64 o, .int .i64 l]] w fun e w' => e = .returned (.int .i64 (-1)) ∧ Below w.heap.size w w' := by
  go_enter Tryz.func69, Tryz.ntmps69
  go_wp2
  go_ret
  exact ⟨rfl, (Below.refl _ _).alloc (Nat.le_refl _) _⟩
theorem amv_1 (o l t q : Int) (w : World) :
    Calls Tryz.prog 68 #[.agg #[.int .i64 1, .int .i64 o, .int .i64 l], .int .i64 t, .int .i64 q] w fun e w' => e = .returned (.tuple #[.agg #[.int .i64 1, .int .i64 o, .int .i64 l], .int .i64 1501]) ∧ Below w.heap.size w w' := by
  go_enter Tryz.func68, Tryz.ntmps68
  go_wp2
  exact bodyPost_ret (v := .tuple #[.agg #[.int .i64 1, .int .i64 o, .int .i64 l], .int .i64 1501]) (by simp [results, Tryz.results68, go_sem]) rfl ⟨rfl, ((Below.refl _ _).alloc (Nat.le_refl _) _).alloc (by simp) _⟩
theorem tri_at {w : World} {g : Nat} {t : TypeId} {x y z : Value} (h : Blk w g t [x, y, z]) : w.cell? ⟨g, 0, none⟩ = some x ∧ w.cell? ⟨g, 1, none⟩ = some y ∧ w.cell? ⟨g, 2, none⟩ = some z ∧ w.frozen? ⟨g, 0, none⟩ = false ∧ w.frozen? ⟨g, 1, none⟩ = false ∧ w.frozen? ⟨g, 2, none⟩ = false :=
  ⟨h.cell 0, h.cell 1, h.cell 2, h.frozen 0, h.frozen 1, h.frozen 2⟩
def w2A (w : World) (a b c : Int) : World := (w.alloc (.cells #[.int .i64 a, .int .i64 b, .int .i64 c] 97)).alloc (.cells #[.int .i64 0, .int .i64 0, .int .i64 0] 97)
theorem w2A_below (w : World) (a b c : Int) : Below w.heap.size w (w2A w a b c) := ((Below.refl _ _).alloc (Nat.le_refl _) _).alloc (by simp) _
theorem w2A_res (w : World) (a b c : Int) : Blk (w2A w a b c) (w.heap.size + 1) 97 [.int .i64 0, .int .i64 0, .int .i64 0] := by
  have := Blk.new (w.alloc (.cells #[.int .i64 a, .int .i64 b, .int .i64 c] 97)) 97 [.int .i64 0, .int .i64 0, .int .i64 0]
  rwa [World.size_alloc] at this
theorem amv_0 (o l t q : Int) (w : World) :
    Calls Tryz.prog 68 #[.agg #[.int .i64 0, .int .i64 o, .int .i64 l], .int .i64 t, .int .i64 q] w fun e w' => e = .returned (.tuple #[.agg #[.int .i64 1, .int .i64 t, .int .i64 q], .int .i64 0]) ∧ Below w.heap.size w w' := by
  have hb := w2A_below w 0 o l
  have hr := w2A_res w 0 o l
  have hl := hr.lt
  go_enter Tryz.func68, Tryz.ntmps68
  go_wp2_with fail
  change Calls _ _ _ (w2A w 0 o l) _
  generalize w2A w 0 o l = wa at *
  refine (aqui_any _ _ _).mono ?_
  rintro e w1 ⟨rfl, b1⟩
  replace hr := hr.below b1 hl
  have hb1 := Below.down hb b1 hb.size
  obtain ⟨c0, c1, c2, f0, f1, f2⟩ := tri_at hr
  clear hb b1 hl
  go_wp2
  have hr2 := ((hr.set 0 (.int .i64 1)).set 1 (.int .i64 t)).set 2 (.int .i64 q)
  obtain ⟨d0, d1, d2, _, _, _⟩ := tri_at hr2
  exact bodyPost_ret (v := .tuple #[.agg #[.int .i64 1, .int .i64 t, .int .i64 q], .int .i64 0]) (by simp [results, Tryz.results68, go_sem, d0, d1, d2]) rfl ⟨rfl, ((hb1.setCell (by show w.heap.size ≤ w.heap.size + 1; omega) _).setCell (by show w.heap.size ≤ w.heap.size + 1; omega) _).setCell (by show w.heap.size ≤ w.heap.size + 1; omega) _⟩
theorem atk_0 (o l : Int) (w : World) :
    Calls Tryz.prog 65 #[.agg #[.int .i64 0, .int .i64 o, .int .i64 l]] w fun e w' => e = .returned (.tuple #[.agg #[.int .i64 0, .int .i64 o, .int .i64 l], .bool false]) ∧ Below w.heap.size w w' := by
  go_enter Tryz.func65, Tryz.ntmps65
  go_wp2
  exact bodyPost_ret (v := .tuple #[.agg #[.int .i64 0, .int .i64 o, .int .i64 l], .bool false]) (by simp [results, Tryz.results65, go_sem]) rfl ⟨rfl, ((Below.refl _ _).alloc (Nat.le_refl _) _).alloc (by simp) _⟩
theorem atk_1 (o l : Int) (w : World) (h : l ≤ 1) :
    Calls Tryz.prog 65 #[.agg #[.int .i64 1, .int .i64 o, .int .i64 l]] w fun e w' => e = .returned (.tuple #[.agg #[.int .i64 0, .int .i64 o, .int .i64 0], .bool true]) ∧ Below w.heap.size w w' := by
  have hb := w2A_below w 1 o l
  have hr := w2A_res w 1 o l
  have hl := hr.lt
  have h1 : ¬ (1 < l) := by omega
  go_enter Tryz.func65, Tryz.ntmps65
  go_wp2_with fail
  change Calls _ _ _ (w2A w 1 o l) _
  generalize w2A w 1 o l = wa at *
  refine (asgd_any _ _).mono ?_
  rintro e w1 ⟨rfl, b1⟩
  replace hr := hr.below b1 hl
  have hb1 := Below.down hb b1 hb.size
  obtain ⟨c0, c1, c2, f0, f1, f2⟩ := tri_at hr
  clear hb b1 hl
  go_wp2
  have hr2 := ((hr.set 0 (.int .i64 0)).set 1 (.int .i64 o)).set 2 (.int .i64 0)
  obtain ⟨d0, d1, d2, _, _, _⟩ := tri_at hr2
  exact bodyPost_ret (v := .tuple #[.agg #[.int .i64 0, .int .i64 o, .int .i64 0], .bool true]) (by simp [results, Tryz.results65, go_sem, d0, d1, d2]) rfl ⟨rfl, ((hb1.setCell (by show w.heap.size ≤ w.heap.size + 1; omega) _).setCell (by show w.heap.size ≤ w.heap.size + 1; omega) _).setCell (by show w.heap.size ≤ w.heap.size + 1; omega) _⟩
theorem atk_2 (o l : Int) (w : World) (h : 1 < l) (h8 : l ≤ 8) :
    Calls Tryz.prog 65 #[.agg #[.int .i64 1, .int .i64 o, .int .i64 l]] w fun e w' => e = .returned (.tuple #[.agg #[.int .i64 1, .int .i64 o, .int .i64 (l - 1)], .bool false]) ∧ Below w.heap.size w w' := by
  have hb := w2A_below w 1 o l
  have hr := w2A_res w 1 o l
  have hl := hr.lt
  go_enter Tryz.func65, Tryz.ntmps65
  go_wp2_with fail
  change Calls _ _ _ (w2A w 1 o l) _
  generalize w2A w 1 o l = wa at *
  refine (aqui_any _ _ _).mono ?_
  rintro e w1 ⟨rfl, b1⟩
  replace hr := hr.below b1 hl
  have hb1 := Below.down hb b1 hb.size
  obtain ⟨c0, c1, c2, f0, f1, f2⟩ := tri_at hr
  clear hb b1 hl
  go_wp2
  have hr2 := ((hr.set 0 (.int .i64 1)).set 1 (.int .i64 o)).set 2 (.int .i64 (l - 1))
  obtain ⟨d0, d1, d2, _, _, _⟩ := tri_at hr2
  exact bodyPost_ret (v := .tuple #[.agg #[.int .i64 1, .int .i64 o, .int .i64 (l - 1)], .bool false]) (by simp [results, Tryz.results65, go_sem, d0, d1, d2]) rfl ⟨rfl, ((hb1.setCell (by show w.heap.size ≤ w.heap.size + 1; omega) _).setCell (by show w.heap.size ≤ w.heap.size + 1; omega) _).setCell (by show w.heap.size ≤ w.heap.size + 1; omega) _⟩
end Go.Proofs.YtkaalinoiilmoaaGreat
namespace Go.Proofs.YtkaalinoiilmoaaGreat
open Go.RowKit
set_option linter.unusedVariables false
set_option maxRecDepth 100000
structure PA (w : World) (g q P D : Nat) (O : Nat → Int) (L : Nat → Nat) : Prop where
  q1 : 1 ≤ q
  q8 : q ≤ 8
  p4 : P ≤ 4
  d4 : D ≤ 4
  l8 : ∀ i, L i ≤ 8
  blk : Blk w g 100 (itc (acF q P D O L) 15)
section
variable {w w' : World} {g q P D : Nat} {O : Nat → Int} {L : Nat → Nat}
theorem PA.heads (h : PA w g q P D O L) : w.cell? ⟨g, 0, none⟩ = some (.int .i64 q) ∧ w.cell? ⟨g, 1, none⟩ = some (.int .i64 P) ∧ w.cell? ⟨g, 2, none⟩ = some (.int .i64 D) := by
  refine ⟨?_, ?_, ?_⟩ <;> (rw [h.blk.cell, itc_get _ _ _ (by omega)]; rfl)
theorem PA.at_ (h : PA w g q P D O L) (i : Nat) (hi : i < D) : w.cell? ⟨g, 3 + i * 3, none⟩ = some (.int .i64 (ph (L i))) ∧ w.cell? ⟨g, 3 + i * 3 + 1, none⟩ = some (.int .i64 (O i)) ∧ w.cell? ⟨g, 3 + i * 3 + 2, none⟩ = some (.int .i64 (L i : Int)) := by
  have := h.d4
  refine ⟨?_, ?_, ?_⟩ <;> rw [h.blk.cell, itc_get _ _ _ (by omega)]
  · rw [acF_ph]
  · rw [acF_o]
  · rw [acF_l]
theorem PA.frozen (h : PA w g q P D O L) (i : Nat) : w.frozen? ⟨g, i, none⟩ = false := h.blk.frozen i
theorem PA.put (h : PA w g q P D O L) (i : Nat) (o : Int) (l : Nat) (hl : l ≤ 8) : PA (((w.setCell ⟨g, 3 + i * 3, none⟩ (.int .i64 (ph l))).setCell ⟨g, 3 + i * 3 + 1, none⟩ (.int .i64 o)).setCell ⟨g, 3 + i * 3 + 2, none⟩ (.int .i64 l)) g q P D (iF O i o) (uN L i l) := by
  refine ⟨h.q1, h.q8, h.p4, h.d4, uN_le hl h.l8, ?_⟩
  have := ((h.blk.set (3 + i * 3) (.int .i64 (ph l))).set (3 + i * 3 + 1) (.int .i64 o)).set (3 + i * 3 + 2) (.int .i64 l)
  rwa [itc_set, itc_set, itc_set, acF_put] at this
theorem PA.below (h : PA w g q P D O L) (hb : Below w.heap.size w w') : PA w' g q P D O L := ⟨h.q1, h.q8, h.p4, h.d4, h.l8, h.blk.below hb h.blk.lt⟩
theorem PA.new (q1 : 1 ≤ q) (q8 : q ≤ 8) (p4 : P ≤ 4) (d4 : D ≤ 4) (hb : Blk w g 100 (itc (acF q P D O L) 15)) (l8 : ∀ i, L i ≤ 8) : PA w g q P D O L := ⟨q1, q8, p4, d4, l8, hb⟩
end
def obPA (g q P D : Nat) (O : Nat → Int) (L : Nat → Nat) : Ob :=
  ⟨fun S w => PA w g q P D O L ∧ ∀ b, S b ↔ b = g, fun ⟨h, e⟩ hk hs => ⟨⟨h.q1, h.q8, h.p4, h.d4, h.l8, (hk g h.blk.lt ((e g).2 rfl)).trans h.blk⟩, e⟩, fun ⟨h, e⟩ hb => ((e _).1 hb) ▸ h.blk.lt⟩
section
variable {S : Nat → Prop} {W0 w w' : World} {os : List Ob} {i g q P D : Nat} {O O' : Nat → Int} {L L' : Nat → Nat}
theorem Tk.pa (h : Tk S W0 os w) (hi : os[i]? = some (obPA g q P D O L)) : PA w g q P D O L := by obtain ⟨_, q, _⟩ := h.get hi; exact q.1
theorem Tk.setPA (h : Tk S W0 os w) (hi : os[i]? = some (obPA g q P D O L)) (hp : PA w' g q P D O' L') (hg : w.grownBy w' (some g)) : Tk S W0 (os.set i (obPA g q P D O' L')) w' := by
  obtain ⟨S1, q, _, k⟩ := h.call hi
  exact k w' _ [] ⟨S1, obs_one.2 ⟨hp, q.2⟩, fun _ _ h => h, (Fo.refl _ _).grown hg (fun x hx => .inl ((q.2 x).2 (by injection hx with hx; exact hx.symm)))⟩
end
theorem set3A (w : World) (g a b c : Nat) (x y z : Value) : w.grownBy (((w.setCell ⟨g, a, none⟩ x).setCell ⟨g, b, none⟩ y).setCell ⟨g, c, none⟩ z) (some g) := by
  have h1 : w.grownBy (w.setCell ⟨g, a, none⟩ x) (some g) := gone x
  have h2 := gset (p := ⟨g, b, none⟩) h1 (.inl rfl) y
  exact gset (p := ⟨g, c, none⟩) h2 (.inl rfl) z
section
variable {g q P D : Nat} {O : Nat → Int} {L : Nat → Nat}
theorem ahasD_any (d : Int) (w : World) (h : PA w g q P D O L) :
    Calls Tryz.prog 66 #[.pointer (some ⟨g, 0, none⟩), .int .i64 d] w fun e w' => e = .returned (.bool (adB D d)) ∧ w = w' := by
  obtain ⟨_, _, hc⟩ := h.heads
  have HB := Lib.hid (show adB D d = decide (0 ≤ d ∧ d < (D : Int)) from rfl)
  clear h
  by_cases h0 : 0 ≤ d
  · by_cases h1 : d < (D : Int)
    · go_enter Tryz.func66, Tryz.ntmps66
      go_wp2
      go_ret
      exact ⟨by rw [HB.out, decide_eq_true (show 0 ≤ d ∧ d < (D : Int) from ⟨h0, h1⟩)]; rfl, rfl⟩
    · go_enter Tryz.func66, Tryz.ntmps66
      go_wp2
      go_ret
      exact ⟨by rw [HB.out, decide_eq_false (show ¬ (0 ≤ d ∧ d < (D : Int)) by omega)]; rfl, rfl⟩
  · go_enter Tryz.func66, Tryz.ntmps66
    go_wp2
    go_ret
    exact ⟨by rw [HB.out, decide_eq_false (show ¬ (0 ≤ d ∧ d < (D : Int)) by omega)]; rfl, rfl⟩
theorem ahasP_at (d : Int) (w : World) (hc : w.cell? ⟨g, 1, none⟩ = some (.int .i64 P)) :
    Calls Tryz.prog 67 #[.pointer (some ⟨g, 0, none⟩), .int .i64 d] w fun e w' => e = .returned (.bool (adB P d)) ∧ w = w' := by
  have HB := Lib.hid (show adB P d = decide (0 ≤ d ∧ d < (P : Int)) from rfl)
  by_cases h0 : 0 ≤ d
  · by_cases h1 : d < (P : Int)
    · go_enter Tryz.func67, Tryz.ntmps67
      go_wp2
      go_ret
      exact ⟨by rw [HB.out, decide_eq_true (show 0 ≤ d ∧ d < (P : Int) from ⟨h0, h1⟩)]; rfl, rfl⟩
    · go_enter Tryz.func67, Tryz.ntmps67
      go_wp2
      go_ret
      exact ⟨by rw [HB.out, decide_eq_false (show ¬ (0 ≤ d ∧ d < (P : Int)) by omega)]; rfl, rfl⟩
  · go_enter Tryz.func67, Tryz.ntmps67
    go_wp2
    go_ret
    exact ⟨by rw [HB.out, decide_eq_false (show ¬ (0 ≤ d ∧ d < (P : Int)) by omega)]; rfl, rfl⟩
theorem ahasP_any (d : Int) (w : World) (h : PA w g q P D O L) :
    Calls Tryz.prog 67 #[.pointer (some ⟨g, 0, none⟩), .int .i64 d] w fun e w' => e = .returned (.bool (adB P d)) ∧ w = w' := ahasP_at d w h.heads.2.1
theorem aowner_any (d : Int) (w : World) (h : PA w g q P D O L) :
    Calls Tryz.prog 40 #[.pointer (some ⟨g, 0, none⟩), .int .i64 d] w fun e w' => e = .returned (.int .i64 (aoX D O L d)) ∧ Below w.heap.size w w' := by
  have H := Lib.hid h
  have hD := h.d4
  cases hb : adB D d with
  | true =>
    have HB := Lib.hid hb
    obtain ⟨i, rfl, hi⟩ := adB_way hb
    obtain ⟨_, _, e1⟩ := a_yes D O L i hi
    obtain ⟨c0, c1, c2⟩ := h.at_ i hi
    have hi4 : (i : Int) < 4 := by omega
    rw [e1]
    by_cases hl : L i = 0
    · rw [if_pos hl]
      rw [show ph (L i) = 0 by simp [ph, hl]] at c0
      clear h hb e1 hl
      go_enter Tryz.func40, Tryz.ntmps40
      go_wp2_with fail
      refine (ahasD_any _ _ H.out).mono ?_
      rintro e w' ⟨rfl, rfl⟩
      rw [HB.out]
      go_wp2_with fail
      refine (aown_0 _ _ _).mono ?_
      rintro e w' ⟨rfl, b⟩
      go_wp2_with fail
      go_ret
      exact ⟨rfl, b⟩
    · rw [if_neg hl]
      rw [show ph (L i) = 1 by simp [ph, hl]] at c0
      clear h hb e1 hl
      go_enter Tryz.func40, Tryz.ntmps40
      go_wp2_with fail
      refine (ahasD_any _ _ H.out).mono ?_
      rintro e w' ⟨rfl, rfl⟩
      rw [HB.out]
      go_wp2_with fail
      refine (aown_1 _ _ _).mono ?_
      rintro e w' ⟨rfl, b⟩
      go_wp2_with fail
      go_ret
      exact ⟨rfl, b⟩
  | false =>
    obtain ⟨_, _, e1⟩ := a_no D O L d hb
    have HB := Lib.hid hb
    rw [e1]
    clear h hb e1
    go_enter Tryz.func40, Tryz.ntmps40
    go_wp2_with fail
    refine (ahasD_any _ _ H.out).mono ?_
    rintro e w' ⟨rfl, rfl⟩
    rw [HB.out]
    go_wp2_with fail
    go_ret
    exact ⟨rfl, Below.refl _ _⟩
theorem amove_no (d t : Int) (w : World) (h : PA w g q P D O L) (hb : amB D P d t = false) :
    Calls Tryz.prog 39 #[.pointer (some ⟨g, 0, none⟩), .int .i64 d, .int .i64 t] w fun e w' => e = .returned (.int .i64 1500) ∧ w = w' := by
  have H := Lib.hid h; clear h
  unfold amB at hb
  cases hd : adB D d with
  | false =>
    have HB := Lib.hid hd; clear hb hd
    go_enter Tryz.func39, Tryz.ntmps39
    go_wp2_with fail
    refine (ahasD_any _ _ H.out).mono ?_
    rintro e w' ⟨rfl, rfl⟩
    rw [HB.out]
    go_wp2_with fail
    go_ret
    exact ⟨rfl, rfl⟩
  | true =>
    rw [hd, Bool.true_and] at hb
    have HB := Lib.hid hd; have HP := Lib.hid hb; clear hb hd
    go_enter Tryz.func39, Tryz.ntmps39
    go_wp2_with fail
    refine (ahasD_any _ _ H.out).mono ?_
    rintro e w' ⟨rfl, rfl⟩
    rw [HB.out]
    go_wp2_with fail
    refine (ahasP_any _ _ H.out).mono ?_
    rintro e w' ⟨rfl, rfl⟩
    rw [HP.out]
    go_wp2_with fail
    go_ret
    exact ⟨rfl, rfl⟩
def Nx (w : World) (a o l : Int) (c : Value) (u7 u8 : Value) (wx : World) : Prop := ∃ k, u7 = .pointer (some ⟨k, 0, none⟩) ∧ u8 = c ∧ w.heap.size ≤ k ∧ Below w.heap.size w wx ∧ Blk wx k 97 [.int .i64 a, .int .i64 o, .int .i64 l]
theorem nx_late {w w3 : World} {a o l : Int} {c : Value} (b3 : Below w.drew.heap.size w.drew w3) : Nx w a o l c (.pointer (some ⟨w3.heap.size, 0, none⟩)) c (w3.alloc (.cells #[.int .i64 a, .int .i64 o, .int .i64 l] 97)) :=
  have hs : w.heap.size ≤ w3.heap.size := b3.size
  ⟨_, rfl, rfl, hs, (Below.down (bdrewN (Below.refl _ w) 1) b3 (Nat.le_refl _)).alloc hs _, Blk.new w3 _ [.int .i64 a, .int .i64 o, .int .i64 l]⟩
theorem nx_early {w w3 : World} {a o l : Int} {c : Value} (b3 : Below (w.alloc (.cells #[.int .i64 0, .int .i64 0, .int .i64 0] 97)).drew.heap.size (w.alloc (.cells #[.int .i64 0, .int .i64 0, .int .i64 0] 97)).drew w3) :
    Nx w a o l c (.pointer (some ⟨w.heap.size, 0, none⟩)) c (((w3.setCell ⟨w.heap.size, 0, none⟩ (.int .i64 a)).setCell ⟨w.heap.size, 1, none⟩ (.int .i64 o)).setCell ⟨w.heap.size, 2, none⟩ (.int .i64 l)) := by
  have hb0 : Blk (w.alloc (.cells #[.int .i64 0, .int .i64 0, .int .i64 0] 97)).drew w.heap.size 97 [.int .i64 0, .int .i64 0, .int .i64 0] := (Blk.new w _ [.int .i64 0, .int .i64 0, .int .i64 0]).drewN 1
  have hb := hb0.below b3 hb0.lt
  have hw : Below w.heap.size w w3 := Below.down (bdrewN ((Below.refl _ w).alloc (Nat.le_refl _) (.cells #[.int .i64 0, .int .i64 0, .int .i64 0] 97)) 1) b3 (by show w.heap.size ≤ (w.alloc _).heap.size; simp)
  have h1 := hw.setCell (p := ⟨w.heap.size, 0, none⟩) (Nat.le_refl _) (.int .i64 a)
  have h2 := h1.setCell (p := ⟨w.heap.size, 1, none⟩) (Nat.le_refl _) (.int .i64 o)
  have h3 := h2.setCell (p := ⟨w.heap.size, 2, none⟩) (Nat.le_refl _) (.int .i64 l)
  exact ⟨_, rfl, rfl, Nat.le_refl _, h3, ((hb.set 0 _).set 1 _).set 2 _⟩
set_option maxHeartbeats 4000000 in
theorem amove_step {O' : Nat → Int} {L' : Nat → Nat} (i : Nat) (t c a o l a' o' l' : Int) (w : World) (h : PA w g q P D O L) (hi : i < D) (ht : adB P t = true) (ha : ph (L i) = a) (ho : O i = o) (hl : (L i : Int) = l)
    (hM : ∀ W, Calls Tryz.prog 68 #[.agg #[.int .i64 a, .int .i64 o, .int .i64 l], .int .i64 t, .int .i64 q] W fun e w' => e = .returned (.tuple #[.agg #[.int .i64 a', .int .i64 o', .int .i64 l'], .int .i64 c]) ∧ Below W.heap.size W w')
    (hP : ∀ W, PA W g q P D O L → PA (((W.setCell ⟨g, 3 + i * 3, none⟩ (.int .i64 a')).setCell ⟨g, 3 + i * 3 + 1, none⟩ (.int .i64 o')).setCell ⟨g, 3 + i * 3 + 2, none⟩ (.int .i64 l')) g q P D O' L') :
    Calls Tryz.prog 39 #[.pointer (some ⟨g, 0, none⟩), .int .i64 i, .int .i64 t] w fun e w' => e = .returned (.int .i64 c) ∧ PA w' g q P D O' L' ∧ w.grownBy w' (some g) := by
  have H := Lib.hid h; have HM := Lib.hid hM; have HP' := Lib.hid hP
  have hD := h.d4
  obtain ⟨c0, c1, c2⟩ := h.at_ i hi
  obtain ⟨cq, _, _⟩ := h.heads
  obtain ⟨b0, b1, b2⟩ := (h.below ((Below.refl _ _).alloc (Nat.le_refl _) (.cells #[.int .i64 0, .int .i64 0, .int .i64 0] 97))).at_ i hi
  obtain ⟨bq, _, _⟩ := (h.below ((Below.refl _ _).alloc (Nat.le_refl _) (.cells #[.int .i64 0, .int .i64 0, .int .i64 0] 97))).heads
  rw [ha] at c0 b0
  rw [ho] at c1 b1
  rw [hl] at c2 b2
  have hi4 : (i : Int) < 4 := by omega
  have HB := Lib.hid (adB_nat hi); have HP := Lib.hid ht
  have hgl := h.blk.lt
  clear h hM hP ht ha ho hl
  go_enter Tryz.func39, Tryz.ntmps39
  go_wp2_with fail
  refine (ahasD_any _ _ H.out).mono ?_
  rintro e w' ⟨rfl, rfl⟩
  rw [HB.out]
  go_wp2_with fail
  refine (ahasP_any _ _ H.out).mono ?_
  rintro e w' ⟨rfl, rfl⟩
  rw [HP.out]
  go_upto_region 5 with fail
  go_cut [7, 8] from 21 (fun u7 u8 wx => Nx w a' o' l' (.int .i64 c) u7 u8 wx)
  case first =>
    go_region_with (go_at_call 68; refine (HM.out _).mono ?_; rintro e w3 ⟨rfl, b3⟩; (first | (obtain ⟨k0, k1, k2, k3, k4, k5⟩ := tri_at (Blk.below ((Blk.new w 97 [.int .i64 0, .int .i64 0, .int .i64 0]).drewN 1) b3 (Blk.lt ((Blk.new w 97 [.int .i64 0, .int .i64 0, .int .i64 0]).drewN 1)))) | skip))
    all_goals
      go_wp2_with fail
      go_meet
      case rel =>
        first
          | exact nx_late b3
          | exact nx_early b3
  case rest =>
    clear c0 c1 c2 cq b0 b1 b2 bq HB HP HM
    obtain ⟨k, rfl, rfl, hk, hb, hblk⟩ := hcut
    have hp := H.out.below hb
    have hp' : PA wc.drew g q P D O L := hp.below (bdrewN (Below.refl _ _) 1)
    obtain ⟨k0, k1, k2, _, _, _⟩ := tri_at hblk
    obtain ⟨c0, c1, c2⟩ := hp'.at_ i (by have := H.out.d4; omega)
    have f0 := hp'.frozen (3 + i * 3)
    have f1 := hp'.frozen (3 + i * 3 + 1)
    have f2 := hp'.frozen (3 + i * 3 + 2)
    have hs := Lib.hid (HP'.out _ hp')
    have hg := Lib.hid (gtrans (gof (bdrewN hb 1) (some g)) (set3A wc.drew g (3 + i * 3) (3 + i * 3 + 1) (3 + i * 3 + 2) (.int .i64 a') (.int .i64 o') (.int .i64 l')))
    go_wp2_with fail
    go_still_tail 6, (by kernel_rfl)
    change wpList _ _ _ _ _ wc.drew
    clear k0 k1 k2 hblk hp hp' hb hk
    generalize wc.drew = wd at *
    go_wp2_with fail
    go_ret
    exact ⟨rfl, hs.out, hg.out⟩
theorem amove_any (d t : Int) (w : World) (h : PA w g q P D O L) :
    Calls Tryz.prog 39 #[.pointer (some ⟨g, 0, none⟩), .int .i64 d, .int .i64 t] w fun e w' => e = .returned (.int .i64 (amC D P L d t)) ∧ PA w' g q P D (amO D P O L d t) (amL D P q L d t) ∧ w.grownBy w' (some g) := by
  rcases am_parts D P q O L d t with ⟨hb, e1, e2, e3⟩ | ⟨i, rfl, hi, ht, hl, e1, e2, e3⟩ | ⟨i, rfl, hi, ht, hl, e1, e2, e3⟩
  · rw [e1, e2, e3]
    exact (amove_no d t w h hb).mono fun e w' ⟨he, hw⟩ => ⟨he, hw ▸ h, hw ▸ grefl _ _⟩
  · rw [e1, e2, e3]
    have hp : ph (L i) = 1 := by simp [ph, hl]
    refine amove_step i t 1501 1 (O i) (L i : Int) 1 (O i) (L i : Int) w h hi ht hp rfl rfl (fun W => amv_1 _ _ _ _ W) (fun W hW => ?_)
    have := hW.put i (O i) (L i) (hW.l8 i)
    rwa [hp, iF_same, uN_same] at this
  · rw [e1, e2, e3]
    have hp : ph (L i) = 0 := by simp [ph, hl]
    refine amove_step i t 0 0 (O i) (L i : Int) 1 t q w h hi ht hp rfl rfl (fun W => amv_0 _ _ _ _ W) (fun W hW => ?_)
    have := hW.put i t q hW.q8
    rwa [show ph q = 1 by have := hW.q1; unfold ph; rw [if_neg (by omega)]] at this
end
section
variable {S : Nat → Prop} {W0 : World} {os os' : List Ob} {i g q P D : Nat} {O : Nat → Int} {L : Nat → Nat}
theorem tk_amove (d t : Int) (w : World) (h : Tk S W0 os w) (hi : os[i]? = some (obPA g q P D O L)) :
    Calls Tryz.prog 39 #[.pointer (some ⟨g, 0, none⟩), .int .i64 d, .int .i64 t] w fun e w' => e = .returned (.int .i64 (amC D P L d t)) ∧ Tk S W0 (os.set i (obPA g q P D (amO D P O L d t) (amL D P q L d t))) w' :=
  (amove_any d t w (h.pa hi)).mono fun _ _ ⟨he, hp, hg⟩ => ⟨he, h.setPA hi hp hg⟩
end
end Go.Proofs.YtkaalinoiilmoaaGreat
namespace Go.Proofs.YtkaalinoiilmoaaGreat
open Go.RowKit Go.ChangeMaps
set_option linter.unusedVariables false
set_option maxRecDepth 100000
def obJ (v : Value) (l : List Int) : Ob := obR 3 1 v l.length (ints l)
theorem int1A (x : Int) : ∀ u ∈ [Value.int .i64 x], u.oneCell' = true := by
  intro u hu
  rw [List.mem_singleton.1 hu]
  rfl
theorem infoIntA : (Tryz.prog.info? 3).map (fun i => (i.zero, i.size, i.bytes)) = some (some (.int .i64 0), 1, 8) := by kernel_rfl
set_option maxHeartbeats 4000000 in
theorem atick_any {g q P D : Nat} {O : Nat → Int} {L : Nat → Nat} {S : Nat → Prop} (w : World) (hq : (obPA g q P D O L).Q S w) :
    Calls Tryz.prog 38 #[.pointer (some ⟨g, 0, none⟩)] w fun e w' => ∃ v, e = .returned v ∧ Tk S w [obJ v (atE L D), obPA g q P D O (atL L D)] w' := by
  obtain ⟨i0, hi, hz0, hz1, hz2⟩ := info_parts infoIntA
  have HI := Lib.hid hi; have HZ0 := Lib.hid hz0; have HZ1 := Lib.hid hz1; have HZ2 := Lib.hid hz2
  clear hi hz0 hz1 hz2
  obtain ⟨_, _, cD⟩ := hq.1.heads
  have hD := hq.1.d4
  have T0 : Hid (Tk S w [obJ (.slice none 0 0) (atE L 0), obPA g q P D O (atL L 0)] w) := Lib.hid (by
    rw [atL_zero]
    exact (Tk.start1 hq).addR (v := .slice none 0 0) (n := 0) (xs := []) (Below.refl _ _) (World.ownsRow_nil _ _ _ _))
  clear hq
  go_enter Tryz.func38, Tryz.ntmps38
  go_wp2_with fail
  go_loopw [3, 13] (fun v i wr => ∃ (k : Nat), k ≤ D ∧ i = .int .i64 k ∧ Hid (Tk S w [obJ v (atE L k), obPA g q P D O (atL L k)] wr)) (fun _ i _ => 4 - (intOf i).toNat)
  case atStart => exact ⟨0, by omega, rfl, T0⟩
  case round =>
    clear T0 cD
    obtain ⟨k, hkD, rfl, HT⟩ := hrel
    by_cases hlt : k < D
    · have hltI : (k : Int) < D := by omega
      have hk4 : (k : Int) < 4 := by omega
      have hp := HT.out.pa (i := 1) rfl
      obtain ⟨c0, c1, c2⟩ := hp.at_ k hlt
      rw [atL_here] at c0 c2
      have hl8 := hp.l8 k
      rw [atL_here] at hl8
      have hlen := atE_len L k
      clear hp
      rcases (show L k = 0 ∨ L k = 1 ∨ 2 ≤ L k by omega) with hl | hl | hl
      · as_aux_lemma =>
          have HE := Lib.hid (atE_no L k (by omega))
          have HU : Hid (uN (atL L k) k (L k) = atL L (k + 1)) := Lib.hid (by rw [← atL_step]; congr 1; omega)
          rw [show ph (L k) = 0 by unfold ph; rw [if_pos hl]] at c0
          have hMv := fun W => atk_0 (O k) (L k : Int) W
          have HPH := Lib.hid (show ph (L k) = 0 by unfold ph; rw [if_pos hl])
          have hl2 : L k ≤ 8 := by omega
          have HM := Lib.hid hMv
          clear hMv hl hl8
          go_wp2_with fail
          refine (HM.out _).mono ?_
          rintro e w1 ⟨rfl, b1⟩
          have t2 := (HT.out.next b1).alloc 97 [.int .i64 0, .int .i64 (O k), .int .i64 (L k : Int)]
          clear b1 c0 c1 c2
          go_wp2_with fail
          change Code.wp _ _ _ _ (w1.alloc (.cells #[.int .i64 0, .int .i64 (O k), .int .i64 (L k : Int)] 97))
          generalize w1.alloc (.cells #[.int .i64 0, .int .i64 (O k), .int .i64 (L k : Int)] 97) = w2 at *
          generalize w1.heap.size = n at *
          have td := t2.drewN 1
          have hdp : PA w2.drew g q P D O (atL L k) := td.pa (i := 2) rfl
          obtain ⟨k0, k1, k2, _, _, _⟩ := tri_at (t2.blk (i := 0) rfl)
          obtain ⟨c0, c1, c2⟩ := hdp.at_ k hlt
          have f0 := hdp.frozen (3 + k * 3)
          have f1 := hdp.frozen (3 + k * 3 + 1)
          have f2 := hdp.frozen (3 + k * 3 + 2)
          have hput := hdp.put k (O k) (L k) hl2
          rw [HPH.out, iF_same, HU.out] at hput
          skip
          have t3 := td.setPA (i := 2) rfl hput (set3A w2.drew g (3 + k * 3) (3 + k * 3 + 1) (3 + k * 3 + 2) (.int .i64 0) (.int .i64 (O k)) (.int .i64 (L k : Int)))
          have T3 := Lib.hid (show Tk S w [obJ u3 (atE L k), obPA g q P D O (atL L (k + 1))] _ from t3.tail)
          clear t2 t3 td hdp hput
          go_wp2_with fail
          go_still_tail 6, (by kernel_rfl)
          change wpList _ _ _ _ _ w2.drew
          clear k0 k1 k2
          generalize w2.drew = w3 at *
          go_wp2_with fail
          go_roundw
          case rel => exact ⟨k + 1, by omega, by go_num, Lib.hid (by rw [HE.out]; exact T3.out)⟩
          case measure => simp [intOf]; omega
      · as_aux_lemma =>
          have HE := Lib.hid (atE_yes L k hl)
          have HU : Hid (uN (atL L k) k (0) = atL L (k + 1)) := Lib.hid (by rw [← atL_step]; congr 1; omega)
          rw [show ph (L k) = 1 by unfold ph; rw [if_neg (by omega)]] at c0
          have hMv := fun W => atk_1 (O k) (L k : Int) W (by omega)
          have HPH := Lib.hid (show ph (0) = 0 by unfold ph; rw [if_pos rfl])
          have hl2 : 0 ≤ 8 := by omega
          have HM := Lib.hid hMv
          clear hMv hl hl8
          go_wp2_with fail
          refine (HM.out _).mono ?_
          rintro e w1 ⟨rfl, b1⟩
          have t2 := (HT.out.next b1).alloc 97 [.int .i64 0, .int .i64 (O k), .int .i64 0]
          clear b1 c0 c1 c2
          go_wp2_with fail
          change Code.wp _ _ _ _ (w1.alloc (.cells #[.int .i64 0, .int .i64 (O k), .int .i64 0] 97))
          generalize w1.alloc (.cells #[.int .i64 0, .int .i64 (O k), .int .i64 0] 97) = w2 at *
          generalize w1.heap.size = n at *
          have td := t2.drewN 1
          have hdp : PA w2.drew g q P D O (atL L k) := td.pa (i := 2) rfl
          obtain ⟨k0, k1, k2, _, _, _⟩ := tri_at (t2.blk (i := 0) rfl)
          obtain ⟨c0, c1, c2⟩ := hdp.at_ k hlt
          have f0 := hdp.frozen (3 + k * 3)
          have f1 := hdp.frozen (3 + k * 3 + 1)
          have f2 := hdp.frozen (3 + k * 3 + 2)
          have hput := hdp.put k (O k) (0) hl2
          rw [HPH.out, iF_same, HU.out] at hput
          rw [show ((0 : Nat) : Int) = 0 from rfl] at hput
          have t3 := td.setPA (i := 2) rfl hput (set3A w2.drew g (3 + k * 3) (3 + k * 3 + 1) (3 + k * 3 + 2) (.int .i64 0) (.int .i64 (O k)) (.int .i64 0))
          have T3 := Lib.hid (show Tk S w [obJ u3 (atE L k), obPA g q P D O (atL L (k + 1))] _ from t3.tail)
          clear t2 t3 td hdp hput
          go_wp2_with fail
          go_still_tail 6, (by kernel_rfl)
          change wpList _ _ _ _ _ w2.drew
          clear k0 k1 k2
          generalize w2.drew = w3 at *
          go_upto_region 10 with fail
          generalize ((w3.setCell _ _).setCell _ _).setCell _ _ = w4 at *
          have hbl : Below w4.heap.size w4 (w4.alloc (.cells #[.int .i64 (k : Int)] 3)) := (Below.refl _ _).alloc (Nat.le_refl _) _
          have BL := Lib.hid hbl
          clear hbl f0 f1 f2 c0 c1 c2
          go_wp2_with (at_builtin; refine wpList_append_lies _ rfl _ _ 44 rfl 0 3 i0 _ 1 8 Tryz.underlying44 HI.out HZ0.out HZ1.out HZ2.out rfl (by decide) u3 (atE L k).length (ints (atE L k)) rfl (own_below (T3.out.row (i := 0) rfl) BL.out) ⟨w4.heap.size, 0, none⟩ 1 1 [.int .i64 (k : Int)] rfl rfl (row_new w4 [.int .i64 (k : Int)] 3) (int1A (k : Int)) (by omega) (by unfold maxLen; omega) (by omega) (by omega) _ rfl ?_)
          intro gg cap6 w6 own6 gr6 hat6 hlt6
          have t5 := T3.out.next BL.out
          have t6 : Tk S w [obJ (.slice (some ⟨gg, 0, none⟩) ((atE L k).length + 1) cap6) (atE L (k + 1)), obPA g q P D O (atL L (k + 1))] w6 := by
            refine t5.turnR (i := 0) rfl gr6 (by rw [HE.out, ints_append, List.length_append]; exact own6) (fun x hx => ?_)
            have e : gg = x := by simpa [Value.ownBlock] using hx
            subst e
            rcases hat6 with h | h
            · exact .inl h
            · exact .inr (by simp at h ⊢; omega)
          have T6 := Lib.hid t6
          clear own6 gr6 hat6 hlt6 t5 t6
          go_wp2_with fail
          go_roundw
          case rel => exact ⟨k + 1, by omega, by go_num, T6⟩
          case measure => simp [intOf]; omega
      · as_aux_lemma =>
          have HE := Lib.hid (atE_no L k (by omega))
          have HU : Hid (uN (atL L k) k (L k - 1) = atL L (k + 1)) := Lib.hid (by rw [← atL_step])
          rw [show ph (L k) = 1 by unfold ph; rw [if_neg (by omega)]] at c0
          have hMv := fun W => atk_2 (O k) (L k : Int) W (by omega) (by omega)
          have HPH := Lib.hid (show ph (L k - 1) = 1 by unfold ph; rw [if_neg (by omega)])
          have hl2 : L k - 1 ≤ 8 := by omega
          rw [show ((L k : Int) - 1) = ((L k - 1 : Nat) : Int) by omega] at hMv
          have HM := Lib.hid hMv
          clear hMv hl hl8
          generalize L k - 1 = l2 at *
          go_wp2_with fail
          refine (HM.out _).mono ?_
          rintro e w1 ⟨rfl, b1⟩
          have t2 := (HT.out.next b1).alloc 97 [.int .i64 1, .int .i64 (O k), .int .i64 l2]
          clear b1 c0 c1 c2
          go_wp2_with fail
          change Code.wp _ _ _ _ (w1.alloc (.cells #[.int .i64 1, .int .i64 (O k), .int .i64 l2] 97))
          generalize w1.alloc (.cells #[.int .i64 1, .int .i64 (O k), .int .i64 l2] 97) = w2 at *
          generalize w1.heap.size = n at *
          have td := t2.drewN 1
          have hdp : PA w2.drew g q P D O (atL L k) := td.pa (i := 2) rfl
          obtain ⟨k0, k1, k2, _, _, _⟩ := tri_at (t2.blk (i := 0) rfl)
          obtain ⟨c0, c1, c2⟩ := hdp.at_ k hlt
          have f0 := hdp.frozen (3 + k * 3)
          have f1 := hdp.frozen (3 + k * 3 + 1)
          have f2 := hdp.frozen (3 + k * 3 + 2)
          have hput := hdp.put k (O k) (l2) hl2
          rw [HPH.out, iF_same, HU.out] at hput
          skip
          have t3 := td.setPA (i := 2) rfl hput (set3A w2.drew g (3 + k * 3) (3 + k * 3 + 1) (3 + k * 3 + 2) (.int .i64 1) (.int .i64 (O k)) (.int .i64 l2))
          have T3 := Lib.hid (show Tk S w [obJ u3 (atE L k), obPA g q P D O (atL L (k + 1))] _ from t3.tail)
          clear t2 t3 td hdp hput
          go_wp2_with fail
          go_still_tail 6, (by kernel_rfl)
          change wpList _ _ _ _ _ w2.drew
          clear k0 k1 k2
          generalize w2.drew = w3 at *
          go_wp2_with fail
          go_roundw
          case rel => exact ⟨k + 1, by omega, by go_num, Lib.hid (by rw [HE.out]; exact T3.out)⟩
          case measure => simp [intOf]; omega
    · have e : k = D := by omega
      subst e
      clear hlt
      go_wp2_with fail
      go_ret
      exact ⟨_, rfl, HT.out⟩
end Go.Proofs.YtkaalinoiilmoaaGreat
namespace Go.Proofs.YtkaalinoiilmoaaGreat
open Go.RowKit
set_option linter.unusedVariables false
set_option maxRecDepth 100000
theorem sli_at {w : World} {v : Value} {n : Nat} {zs : List Int} (h : Sl w v n 1 (ints zs)) (k : Nat) (hk : k < n) : ∃ b o cap, v = .slice (some ⟨b, o, none⟩) n cap ∧ b < w.heap.size ∧ w.cell? ⟨b, o + k, none⟩ = some (.int .i64 (zs.getD k 0)) := by
  obtain ⟨A, cap, rfl, hc, hl, hA⟩ := h
  obtain ⟨b, o, rfl, hb, hcell⟩ := hA (by omega)
  exact ⟨b, o, cap, rfl, hb, hcell k _ (ints_get zs k (by rw [ints_len] at hl; omega))⟩
end Go.Proofs.YtkaalinoiilmoaaGreat
namespace Go.Proofs.YtkaalinoiilmoaaGreat
open Go.RowKit Go.ChangeMaps
set_option linter.unusedVariables false
set_option maxRecDepth 100000
section
variable {S : Nat → Prop} {W0 : World} {os os' : List Ob} {i g q P D : Nat} {O : Nat → Int} {L : Nat → Nat}
theorem tk_atick (w : World) (h : Tk S W0 os w) (hi : os[i]? = some (obPA g q P D O L)) :
    Calls Tryz.prog 38 #[.pointer (some ⟨g, 0, none⟩)] w fun e w' => ∃ v, e = .returned v ∧ Tk S W0 (obJ v (atE L D) :: os.set i (obPA g q P D O (atL L D))) w' := by
  obtain ⟨S1, q, _, k⟩ := h.call hi
  exact (atick_any w q).mono fun e w' ⟨v, he, t⟩ => ⟨v, he, k w' _ [_] (t.perm (.swap _ _ _))⟩
end
def zO (zs : List Int) (k : Nat) : Nat → Int := fun i => if i < k then zs.getD i 0 else 0
theorem zO_zero (zs : List Int) : zO zs 0 = noI := by funext i; simp [zO, noI]
theorem zO_step (zs : List Int) (k : Nat) : iF (zO zs k) k (zs.getD k 0) = zO zs (k + 1) := by
  funext i
  unfold iF zO
  by_cases h : i = k
  · subst h; rw [if_pos rfl, if_pos (by omega)]
  · rw [if_neg h]
    by_cases h2 : i < k
    · rw [if_pos h2, if_pos (by omega)]
    · rw [if_neg h2, if_neg (by omega)]
theorem noN_put (k : Nat) : uN noN k 0 = noN := by funext i; unfold uN noN; split <;> rfl
def zTab : Array Value := (itc noI 15).toArray
theorem zTab_ne : ¬ (zTab = #[]) := by simp [zTab, itc]
theorem zTab_run (w : World) : Sem.run Tryz.prog (zeroValue 100) w = .ok (.agg zTab) w := by
  have hi : (Tryz.prog.info? 100).map (fun i => i.zero) = some (some (.agg zTab)) := by kernel_rfl
  cases h : Tryz.prog.info? 100 with
  | none => rw [h] at hi; cases hi
  | some i =>
    rw [h] at hi
    simp only [Option.map_some, Option.some.injEq] at hi
    simp [zeroValue, typeInfo, h, hi]
theorem zTab_size : zTab.size = 15 := rfl
theorem zTab_set (q P n : Nat) : ((zTab.setIfInBounds 0 (.int .i64 q)).setIfInBounds 1 (.int .i64 P)).setIfInBounds 2 (.int .i64 n) = (itc (acF q P n noI noN) 15).toArray := by
  unfold zTab
  rw [List.setIfInBounds_toArray, List.setIfInBounds_toArray, List.setIfInBounds_toArray, itc_set, itc_set, itc_set]
  congr 1
set_option maxHeartbeats 4000000 in
theorem anew_any (q P : Nat) (v : Value) (n : Nat) (zs : List Int) (w : World) (hv : Sl w v n 1 (ints zs)) (q1 : 1 ≤ q) (q8 : q ≤ 8) (p1 : 1 ≤ P) (p4 : P ≤ 4) (n1 : 1 ≤ n) (n4 : n ≤ 4) :
    Calls Tryz.prog 64 #[.int .i64 q, .int .i64 P, v] w fun e w' => (∃ g, e = .returned (.tuple #[.pointer (some ⟨g, 0, none⟩), .int .i64 0]) ∧ Tk nos w [obPA g q P n (zO zs n) noN] w' ∧ ∀ j, j < n → adB P (zs.getD j 0) = true) ∨ (e = .returned (.tuple #[.pointer none, .int .i64 1500]) ∧ Below w.heap.size w w' ∧ ∃ j, j < n ∧ adB P (zs.getD j 0) = false) := by
  obtain ⟨A, cap, rfl⟩ : ∃ A cap, v = .slice A n cap := by obtain ⟨A, c, e, _⟩ := hv; exact ⟨A, c, e⟩
  have HV := Lib.hid hv; clear hv
  have hz := zTab_run
  have hne := zTab_ne
  have hsz := zTab_size
  have hzs := zTab_set q P n
  have d1 : decide ((q : Int) < 1) = false := by simp; omega
  have d2 : decide ((8 : Int) < q) = false := by simp; omega
  have d3 : decide ((P : Int) < 1) = false := by simp; omega
  have d4 : decide ((4 : Int) < P) = false := by simp; omega
  have d5 : decide ((n : Int) < 1) = false := by simp; omega
  have d6 : decide ((4 : Int) < n) = false := by simp; omega
  have T0 : Hid (Tk nos w [obPA w.heap.size q P n (zO zs 0) noN] (w.alloc (.cells (itc (acF q P n noI noN) 15).toArray 100))) := Lib.hid (by
    rw [zO_zero]
    exact ((Tk.empty w).alloc 100 (itc (acF q P n noI noN) 15)).wrap1 (fun hq => by
      have hq := obs_one.1 hq
      exact ⟨PA.new q1 q8 p4 n4 hq.1 (fun i => by unfold noN; omega), hq.2⟩))
  go_enter Tryz.func64, Tryz.ntmps64
  go_wp2_with fail
  change Code.wp _ _ _ _ (w.alloc (.cells (itc (acF q P n noI noN) 15).toArray 100))
  generalize w.alloc (.cells (itc (acF q P n noI noN) 15).toArray 100) = w1 at *
  generalize w.heap.size = g at *
  clear hz hne hsz hzs d1 d2 d3 d4 d5 d6
  go_loopw [43] (fun i wr => ∃ (k : Nat), k ≤ n ∧ i = .int .i64 k ∧ Hid (Tk nos w [obPA g q P n (zO zs k) noN] wr) ∧ ∀ j, j < k → adB P (zs.getD j 0) = true) (fun i _ => 4 - (intOf i).toNat)
  case atStart => exact ⟨0, by omega, rfl, T0, fun j hj => absurd hj (by omega)⟩
  case round =>
    clear T0
    obtain ⟨k, hkn, rfl, HT, hgood⟩ := hrel
    by_cases hlt : k < n
    · have hltI : (k : Int) < n := by omega
      have hk4 : (k : Int) < 4 := by omega
      have hsl := HV.out.below HT.out.below
      obtain ⟨b, o, cap', e, hbw, hcell⟩ := sli_at hsl k hlt
      simp only [Value.slice.injEq] at e
      obtain ⟨rfl, -, -⟩ := e
      have hp := HT.out.pa (i := 0) rfl
      obtain ⟨_, cP, _⟩ := hp.heads
      have HZ := Lib.hid (zO_step zs k)
      obtain ⟨z, hzz⟩ : ∃ z, zs.getD k 0 = z := ⟨_, rfl⟩
      rw [hzz] at hcell HZ
      clear hsl
      cases hgz : adB P z with
      | false =>
        have HG := Lib.hid hgz
        have HX : Hid (∃ j, j < n ∧ adB P (zs.getD j 0) = false) := Lib.hid ⟨k, hlt, by rw [hzz]; exact hgz⟩
        have BX := Lib.hid HT.out.below
        clear hgz hzz hgood hp
        go_wp2_with fail
        refine (ahasP_at _ _ cP).mono ?_
        rintro e w' ⟨rfl, rfl⟩
        rw [HG.out]
        go_wp2_with fail
        go_ret2
        exact .inr ⟨rfl, BX.out, HX.out⟩
      | true =>
        have HG := Lib.hid hgz
        have HX : Hid (∀ j, j < k + 1 → adB P (zs.getD j 0) = true) := Lib.hid (fun j hj => by
          by_cases e : j = k
          · subst e; rw [hzz]; exact hgz
          · exact hgood j (by omega))
        clear hgz hzz hgood
        go_wp2_with fail
        refine (ahasP_at _ _ cP).mono ?_
        rintro e w' ⟨rfl, rfl⟩
        rw [HG.out]
        have HP := Lib.hid hp
        clear hp cP hbw hcell
        go_upto_region 9 with fail
        go_region_with (go_at_call 89; refine (asgd_any _ _).mono ?_; rintro e w3 ⟨rfl, b3⟩; have t3 := (HT.out.drewN 1).next b3; have p3 : PA w3 g q P n (zO zs k) noN := t3.pa (i := 0) rfl; obtain ⟨c0, c1, c2⟩ := p3.at_ k hlt; have f0 := p3.frozen (3 + k * 3); have f1 := p3.frozen (3 + k * 3 + 1); have f2 := p3.frozen (3 + k * 3 + 2))
        all_goals
          have p4 := p3.put k z 0 (by omega)
          rw [noN_put, HZ.out] at p4
          have t4 := t3.setPA (i := 0) rfl p4 (set3A w3 g (3 + k * 3) (3 + k * 3 + 1) (3 + k * 3 + 2) _ _ _)
          have T4 := Lib.hid (show Tk nos w [obPA g q P n (zO zs (k + 1)) noN] _ from t4)
          clear p3 p4 t3 t4 b3
          go_wp2_with fail
          go_roundw
          case rel => exact ⟨k + 1, by omega, by go_num, T4, HX.out⟩
          case measure => simp [intOf]; omega
    · have e : k = n := by omega
      subst e
      have HG := Lib.hid hgood
      clear hgood hlt
      go_wp2_with fail
      go_ret2
      exact .inl ⟨g, rfl, HT.out, HG.out⟩
theorem anew_yes (q P : Nat) (v : Value) (n : Nat) (zs : List Int) (w : World) (hv : Sl w v n 1 (ints zs)) (q1 : 1 ≤ q) (q8 : q ≤ 8) (p1 : 1 ≤ P) (p4 : P ≤ 4) (n1 : 1 ≤ n) (n4 : n ≤ 4) (hz : ∀ j, j < n → adB P (zs.getD j 0) = true) :
    Calls Tryz.prog 64 #[.int .i64 q, .int .i64 P, v] w fun e w' => ∃ g, e = .returned (.tuple #[.pointer (some ⟨g, 0, none⟩), .int .i64 0]) ∧ Tk nos w [obPA g q P n (zO zs n) noN] w' :=
  (anew_any q P v n zs w hv q1 q8 p1 p4 n1 n4).mono fun e w' h => by
    rcases h with ⟨g, he, t, _⟩ | ⟨_, _, j, hj, hb⟩
    · exact ⟨g, he, t⟩
    · rw [hz j hj] at hb; cases hb
end Go.Proofs.YtkaalinoiilmoaaGreat
namespace Go.Proofs.YtkaalinoiilmoaaGreat
open Go.RowKit
set_option linter.unusedVariables false
set_option maxRecDepth 100000
structure Stp where
  k : Int
  p : Int
  d : Int
  a : Int
  b : Int
  c : Int
  s : ByteArray
def stD : Stp := ⟨0, 0, 0, 0, 0, 0, ⟨#[]⟩⟩
def stc (x : Stp) : List Value := [.int .i64 x.k, .int .i64 x.p, .int .i64 x.d, .int .i64 x.a, .int .i64 x.b, .int .i64 x.c, .string x.s]
def stcs (l : List Stp) : List Value := l.flatMap stc
theorem stcs_cons (x : Stp) (l : List Stp) : stcs (x :: l) = stc x ++ stcs l := by simp [stcs]
theorem stcs_append (l m : List Stp) : stcs (l ++ m) = stcs l ++ stcs m := by simp [stcs, List.flatMap_append]
theorem stcs_len (l : List Stp) : (stcs l).length = l.length * 7 := by
  induction l with
  | nil => rfl
  | cons p l ih => rw [stcs_cons, List.length_append, ih]; simp [stc]; omega
theorem stcs_get (l : List Stp) : ∀ (i j : Nat), i < l.length → j < 7 → (stcs l)[i * 7 + j]? = (stc (l.getD i stD))[j]? := by
  induction l with
  | nil => intro i j h; simp at h
  | cons x l ih =>
    intro i j h hj
    rw [stcs_cons]
    match i with
    | 0 => rw [Nat.zero_mul, Nat.zero_add, List.getElem?_append_left (by simp [stc]; omega)]; rfl
    | i + 1 =>
      rw [List.getElem?_append_right (by simp [stc]; omega), show (i + 1) * 7 + j - (stc x).length = i * 7 + j by simp [stc]; omega, ih i j (by simpa using h) hj]
      rfl
theorem stcs_at {w : World} {A : Option Addr} {n c : Nat} {l : List Stp} (h : Sl w (.slice A n c) n 7 (stcs l)) (hl : l.length = n) (k : Nat) (hk : k < n) :
    ∃ b o, A = some ⟨b, o, none⟩ ∧ b < w.heap.size ∧ w.cell? ⟨b, o + k * 7, none⟩ = some (.int .i64 (l.getD k stD).k) ∧ w.cell? ⟨b, o + k * 7 + 1, none⟩ = some (.int .i64 (l.getD k stD).p) ∧ w.cell? ⟨b, o + k * 7 + 2, none⟩ = some (.int .i64 (l.getD k stD).d) ∧
      w.cell? ⟨b, o + k * 7 + 3, none⟩ = some (.int .i64 (l.getD k stD).a) ∧ w.cell? ⟨b, o + k * 7 + 4, none⟩ = some (.int .i64 (l.getD k stD).b) ∧ w.cell? ⟨b, o + k * 7 + 5, none⟩ = some (.int .i64 (l.getD k stD).c) ∧ w.cell? ⟨b, o + k * 7 + 6, none⟩ = some (.string (l.getD k stD).s) := by
  obtain ⟨A', c', e, _, hxl, hA⟩ := h
  simp only [Value.slice.injEq] at e
  obtain ⟨rfl, _, rfl⟩ := e
  obtain ⟨b, o, rfl, hb, hc⟩ := hA (by omega)
  have key : ∀ j u, j < 7 → (stc (l.getD k stD))[j]? = some u → w.cell? ⟨b, o + k * 7 + j, none⟩ = some u := by
    intro j u hj hx
    have := hc (k * 7 + j) u ((stcs_get l k j (by omega) hj).trans hx)
    rw [← Nat.add_assoc] at this
    exact this
  exact ⟨b, o, rfl, hb, key 0 _ (by omega) rfl, key 1 _ (by omega) rfl, key 2 _ (by omega) rfl, key 3 _ (by omega) rfl, key 4 _ (by omega) rfl, key 5 _ (by omega) rfl, key 6 _ (by omega) rfl⟩
end Go.Proofs.YtkaalinoiilmoaaGreat
