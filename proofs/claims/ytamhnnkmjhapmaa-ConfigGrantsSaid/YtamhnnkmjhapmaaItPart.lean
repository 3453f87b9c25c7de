/-
  slices.IndexFunc[[]caisson/api.Part,caisson/api.Part], slices.ContainsFunc[[]caisson/api.Part,caisson/api.Part], config.each: told by what the function answers that is handed over, under an invariant.
-/
import Derived.Test.YtamhnnkmjhapmaaFo
import Derived.Test.YtamhnnkmjhapmaaIt0
import Derived.Test.YtamhnnkmjhapmaaChecked
namespace Go.Proofs.Ytamhnnkmjhapmaa
open Go.RowKit
set_option linter.unusedVariables false
set_option linter.unusedSimpArgs false
set_option maxRecDepth 100000

set_option maxHeartbeats 1000000 in
theorem if_Part (A : Option Addr) (b o n cap : Nat) (a0 : Nat) (c0 c1 c2 c3 c4 : Nat → Value) (p : Nat → Bool) (S : Nat → Prop) (I : Nat → World → Prop) (w : World) (hn : n ≤ maxLen) (hA : 0 < n → A = some ⟨b, o, none⟩)
    (hr : ∀ i W, i < n → I i W → W.cell? ⟨b, o + i * 5, none⟩ = some (c0 i) ∧ W.cell? ⟨b, o + i * 5 + 1, none⟩ = some (c1 i) ∧ W.cell? ⟨b, o + i * 5 + 2, none⟩ = some (c2 i) ∧ W.cell? ⟨b, o + i * 5 + 3, none⟩ = some (c3 i) ∧ W.cell? ⟨b, o + i * 5 + 4, none⟩ = some (c4 i))
    (hG : ∀ i W, i < n → (∀ j, j < i → p j = false) → I i W → Calls Try.prog 77 #[(.agg #[c0 i, c1 i, c2 i, c3 i, c4 i]), .pointer (some ⟨a0, 0, none⟩)] W fun e w' => e = .returned (.bool (p i)) ∧ I (i + 1) w' ∧ Fo S W w') (h0 : I 0 w) :
    Calls Try.prog 89 #[.slice A n cap, .func (.func 77) #[] #[.pointer (some ⟨a0, 0, none⟩)]] w fun e w' => ∃ r : Int, e = .returned (.int .i64 r) ∧ decide (r ≥ 0) = (List.range n).any p ∧ (∃ k, k ≤ n ∧ I k w' ∧ (r < 0 → k = n)) ∧ Fo S w w' := by
  have HA := Lib.hid hA; have HR := Lib.hid hr; have HG := Lib.hid hG; have H0 := Lib.hid h0
  unfold maxLen at hn
  clear hA hr hG h0
  go_enter Try.func89, Try.ntmps89
  go_wp2_with fail
  go_loopw [8] (fun i wr => ∃ k : Nat, k ≤ n ∧ i = .int .i64 k ∧ Hid ((∀ j, j < k → p j = false) ∧ I k wr ∧ Fo S w wr)) (fun i _ => n - (intOf i).toNat)
  case atStart => exact ⟨0, by omega, rfl, Lib.hid ⟨fun j hj => by omega, H0.out, Fo.refl _ _⟩⟩
  case round =>
    obtain ⟨k, hk, rfl, HX⟩ := hrel
    by_cases hlt : k < n
    · obtain rfl := HA.out (by omega)
      obtain ⟨x0, x1, x2, x3, x4⟩ := HR.out k wr hlt HX.out.2.1
      have HC := Lib.hid (HG.out k wr hlt HX.out.1 HX.out.2.1)
      generalize c0 k = e0 at * ; generalize c1 k = e1 at * ; generalize c2 k = e2 at * ; generalize c3 k = e3 at * ; generalize c4 k = e4 at *
      go_wp2_with fail
      refine HC.out.mono ?_
      rintro e w1 ⟨rfl, hi, hf⟩
      have HI := Lib.hid hi
      have HF := Lib.hid (HX.out.2.2.trans hf)
      clear x0 x1 x2 x3 x4 hi hf
      cases hp : p k with
      | true =>
        have HP := Lib.hid hp
        clear hp
        go_wp2_with fail
        go_ret
        exact ⟨_, rfl, (by rw [range_any_yes hlt HP.out]; exact decide_eq_true (by omega)), ⟨k + 1, by omega, HI.out, fun h => by omega⟩, HF.out⟩
      | false =>
        have HP := Lib.hid hp
        clear hp
        go_wp2_with fail
        go_roundw
        case rel => exact ⟨k + 1, by omega, by go_num, Lib.hid ⟨fun j hj => by
          by_cases e : j = k
          · rw [e]; exact HP.out
          · exact HX.out.1 j (by omega), HI.out, HF.out⟩⟩
        case measure => simp [intOf]; omega
    · obtain rfl : k = n := by omega
      go_wp2_with fail
      go_ret
      exact ⟨_, rfl, (by rw [range_any_no HX.out.1]; rfl), ⟨k, by omega, HX.out.2.1, fun _ => rfl⟩, HX.out.2.2⟩

theorem cf_Part (A : Option Addr) (b o n cap : Nat) (a0 : Nat) (c0 c1 c2 c3 c4 : Nat → Value) (p : Nat → Bool) (S : Nat → Prop) (I : Nat → World → Prop) (w : World) (hn : n ≤ maxLen) (hA : 0 < n → A = some ⟨b, o, none⟩)
    (hr : ∀ i W, i < n → I i W → W.cell? ⟨b, o + i * 5, none⟩ = some (c0 i) ∧ W.cell? ⟨b, o + i * 5 + 1, none⟩ = some (c1 i) ∧ W.cell? ⟨b, o + i * 5 + 2, none⟩ = some (c2 i) ∧ W.cell? ⟨b, o + i * 5 + 3, none⟩ = some (c3 i) ∧ W.cell? ⟨b, o + i * 5 + 4, none⟩ = some (c4 i))
    (hG : ∀ i W, i < n → (∀ j, j < i → p j = false) → I i W → Calls Try.prog 77 #[(.agg #[c0 i, c1 i, c2 i, c3 i, c4 i]), .pointer (some ⟨a0, 0, none⟩)] W fun e w' => e = .returned (.bool (p i)) ∧ I (i + 1) w' ∧ Fo S W w') (h0 : I 0 w) :
    Calls Try.prog 76 #[.slice A n cap, .func (.func 77) #[] #[.pointer (some ⟨a0, 0, none⟩)]] w fun e w' => e = .returned (.bool ((List.range n).any p)) ∧ Upto n I w' (!(List.range n).any p) ∧ Fo S w w' := by
  have HC := Lib.hid (if_Part A b o n cap a0 c0 c1 c2 c3 c4 p S I w hn hA hr hG h0)
  clear hA hr hG h0
  generalize (List.range n).any p = R at *
  go_enter Try.func76, Try.ntmps76
  go_wp2_with fail
  refine HC.out.mono ?_
  rintro e w1 ⟨r, rfl, hr, hi, hf⟩
  have HI := Lib.hid hi; have HF := Lib.hid hf
  clear hi hf
  cases R
  all_goals
    go_wp2_with fail
    go_ret
  · refine ⟨rfl, ?_, HF.out⟩
    obtain ⟨k, hk, h1, h2⟩ := HI.out
    exact ⟨k, hk, h1, fun _ => h2 (by have := of_decide_eq_false hr; omega)⟩
  · refine ⟨rfl, ?_, HF.out⟩
    obtain ⟨k, hk, h1, h2⟩ := HI.out
    exact ⟨k, hk, h1, fun h => by cases h⟩


theorem e1_Part (g : Nat) (e0 e1 e2 e3 e4 : Value) (q : Bool) (Q : World → Prop) (S : Nat → Prop) (w : World) (hg : Blk w g 84 [.func (.func 60) #[] #[]])
    (hst : ∀ W W', Q W → Below W.heap.size W W' → Q W') (Q' : World → Prop) (hq : Q w)
    (hH : ∀ W, Q W → Calls Try.prog 60 #[.agg #[e0, e1, e2, e3, e4]] W fun e w' => e = .returned (.bool q) ∧ Q' w' ∧ Fo S W w') :
    Calls Try.prog 77 #[.agg #[e0, e1, e2, e3, e4], .pointer (some ⟨g, 0, none⟩)] w fun e w' => e = .returned (.bool (!q)) ∧ Q' w' ∧ Fo S w w' := by
  have hb0 : Below w.heap.size w (w.alloc (.cells #[e0, e1, e2, e3, e4] 40)) := (Below.refl _ _).alloc (Nat.le_refl _) _
  have hb1 : Blk (w.alloc (.cells #[e0, e1, e2, e3, e4] 40)) w.heap.size 40 [e0, e1, e2, e3, e4] := Blk.new _ _ _
  have hg1 := hg.alloc (.cells #[e0, e1, e2, e3, e4] 40)
  have cg := hg1.cell 0
  simp only [List.getElem?_cons_zero] at cg
  have k0 := hb1.cell 0
  have k1 := hb1.cell 1
  have k2 := hb1.cell 2
  have k3 := hb1.cell 3
  have k4 := hb1.cell 4
  simp only [List.getElem?_cons_zero, List.getElem?_cons_succ] at k0 k1 k2 k3 k4
  have HC := Lib.hid (hH _ (hst _ _ hq hb0)); have HB := Lib.hid hb0
  clear hb0 hb1 hg1 hg hH hst hq
  go_enter Try.func77, Try.ntmps77
  go_wp2_with fail
  refine HC.out.mono ?_
  rintro e w1 ⟨rfl, h1, h2⟩
  go_wp2_with fail
  go_ret
  exact ⟨rfl, h1, (Fo.of HB.out S).trans_new h2 (fun i hi => .inl hi)⟩

theorem each_Part (A : Option Addr) (b o n cap : Nat) (c0 c1 c2 c3 c4 : Nat → Value) (q : Nat → Bool) (S : Nat → Prop) (I : Nat → World → Prop) (w : World) (hn : n ≤ maxLen) (hA : 0 < n → A = some ⟨b, o, none⟩)
    (hS : ∀ k, S k → k < w.heap.size) (hst : ∀ i W W', I i W → Below W.heap.size W W' → I i W')
    (hr : ∀ i W, i < n → I i W → W.cell? ⟨b, o + i * 5, none⟩ = some (c0 i) ∧ W.cell? ⟨b, o + i * 5 + 1, none⟩ = some (c1 i) ∧ W.cell? ⟨b, o + i * 5 + 2, none⟩ = some (c2 i) ∧ W.cell? ⟨b, o + i * 5 + 3, none⟩ = some (c3 i) ∧ W.cell? ⟨b, o + i * 5 + 4, none⟩ = some (c4 i))
    (hH : ∀ i W, i < n → (∀ j, j < i → q j = true) → I i W → Calls Try.prog 60 #[(.agg #[c0 i, c1 i, c2 i, c3 i, c4 i])] W fun e w' => e = .returned (.bool (q i)) ∧ I (i + 1) w' ∧ Fo S W w') (h0 : I 0 w) :
    Calls Try.prog 59 #[.slice A n cap, .func (.func 60) #[] #[]] w fun e w' => e = .returned (.bool ((List.range n).all q)) ∧ Upto n I w' ((List.range n).all q) ∧ Fo S w w' := by
  have hb0 : Below w.heap.size w (w.alloc (.cells #[.func (.func 60) #[] #[]] 84)) := (Below.refl _ _).alloc (Nat.le_refl _) _
  have hb1 : Blk (w.alloc (.cells #[.func (.func 60) #[] #[]] 84)) w.heap.size 84 [.func (.func 60) #[] #[]] := Blk.new _ _ _
  have hC := cf_Part A b o n cap w.heap.size c0 c1 c2 c3 c4 (fun i => !q i) S (fun i W => I i W ∧ Blk W w.heap.size 84 [.func (.func 60) #[] #[]]) _ hn hA (fun i W hi h => hr i W hi h.1)
    (fun i W hi hj h => (e1_Part w.heap.size  _ _ _ _ _ (q i) (I i) S W h.2 (hst i) (fun w' => I (i + 1) w') h.1 (fun W' h' => hH i W' hi (fun j hj' => by have := hj j hj'; simpa using this) h')).mono (fun e w' ⟨he, h1, h2⟩ => ⟨he, ⟨h1, h2.blk h.2 (fun hs => by have := hS _ hs; omega)⟩, h2⟩)) ⟨hst 0 _ _ h0 hb0, hb1⟩
  have e1 : (List.range n).any (fun i => !q i) = !(List.range n).all q := range_any_not _ _
  rw [e1] at hC
  have HC := Lib.hid hC; have HB := Lib.hid hb0
  clear hC e1 hb0 hb1 hA hS hst hr hH h0
  generalize (List.range n).all q = R at *
  go_enter Try.func59, Try.ntmps59
  go_wp2_with fail
  refine HC.out.mono ?_
  rintro e w1 ⟨rfl, hk, hf⟩
  have HK := Lib.hid hk; have HF := Lib.hid hf
  clear hk hf
  cases R
  all_goals
    go_wp2_with fail
    go_ret
    refine ⟨rfl, ?_, (Fo.of HB.out S).trans_new HF.out (fun i hi => .inl hi)⟩
    obtain ⟨k, hk, h1, h2⟩ := HK.out
    exact ⟨k, hk, h1.1, fun h => h2 (by first | exact h | cases h | rfl)⟩

end Go.Proofs.Ytamhnnkmjhapmaa
