/-
  Layer 10's law SchedRound: it answers true for every input.
-/
import Derived.Test.YtljgecnpohmmfaaSchAwake
import Derived.Test.YtljgecnpohmmfaaSch7
namespace Go.Proofs.Ytljgecnpohmmfaa
open Go.RowKit
set_option linter.unusedVariables false
set_option linter.unusedSimpArgs false
set_option maxRecDepth 100000

def hasD (l : List Win) (m i : Int) : Bool := l.any (fun x => decide (x.d = i % m))
def hasS (l : List Win) (m i : Int) : Bool := l.any (fun x => decide (x.s = i % m))

/-- All that a round asks of a tick. -/
theorem round_at {l : List Win} {m i : Int} (h : mayW l m 4 = true) (h0 : 0 ≤ i) (h1 : i ≤ 100000) :
    ∃ a b : Int, dlvN l m i = a ∧ dlvN l m (i + m) = a ∧ opnN l m i = b ∧ opnN l m (i + m) = b ∧ -1 ≤ a ∧ -1 ≤ b ∧ (0 ≤ a ∧ hasD l m i = true ∨ a < 0 ∧ hasD l m i = false) ∧ (0 ≤ b ∧ hasS l m i = true ∨ b < 0 ∧ hasS l m i = false) := by
  obtain ⟨m1, m2, _⟩ := may_m h
  have hp : ∀ x ∈ l, 0 ≤ x.p := fun x hx => (may_in h hx).1
  have hd := at_ge (f := Win.d) hp (i % m)
  have ho := at_ge (f := Win.s) hp (i % m)
  refine ⟨atF Win.d l (i % m), atF Win.s l (i % m), dlvN_at h h0 (by omega), ?_, opnN_at h h0 (by omega), ?_, hd.1, ho.1, ?_, ?_⟩
  · rw [dlvN_at h (by omega) (by omega), Int.add_emod_right]
  · rw [opnN_at h (by omega) (by omega), Int.add_emod_right]
  · by_cases e : 0 ≤ atF Win.d l (i % m)
    · exact .inl ⟨e, hd.2.1 e⟩
    · exact .inr ⟨by omega, by have := mt hd.2.2 e; unfold hasD; simpa using this⟩
  · by_cases e : 0 ≤ atF Win.s l (i % m)
    · exact .inl ⟨e, ho.2.1 e⟩
    · exact .inr ⟨by omega, by have := mt ho.2.2 e; unfold hasS; simpa using this⟩
theorem hits_yes {f : Int → Bool} {t : Int} {c : Nat} (h : f (t + (c : Int)) = true) : hits f t (c + 1) = hits f t c + 1 := by simp only [hits]; rw [if_pos h]
theorem hits_no {f : Int → Bool} {t : Int} {c : Nat} (h : f (t + (c : Int)) = false) : hits f t (c + 1) = hits f t c := by simp only [hits]; rw [if_neg (by simp [h])]; rfl

set_option maxHeartbeats 4000000 in
theorem law_SchedRound (v : Value) (n : Nat) (zs : List Int) (m t : Int) (w : World) (hs : Sl w v n 4 (ints zs)) (hn : n ≤ maxLen) (hl : zs.length = n * 4) (hr : ∀ z ∈ zs, -9223372036854775808 ≤ z ∧ z ≤ 9223372036854775807) :
    Calls Try.prog 6 #[v, .int .i64 m, .int .i64 t] w fun e w' => e = .returned (.bool true) ∧ Below w.heap.size w w' := by
  obtain ⟨l, rfl, hll⟩ := wins_of n zs hl
  have hu : Ws w v n l := ⟨hs, hll, hn, w64_of l hr⟩
  obtain ⟨A, cap, rfl⟩ := hu.form
  have HU := Lib.hid hu
  have HL := Lib.hid hll
  unfold maxLen at hn
  clear hu hs hl hr hll
  cases hM : mayW l m 4 with
  | false =>
    have HM := Lib.hid hM; clear hM
    go_enter Try.func6, Try.ntmps6
    go_wp2_with fail
    refine (sawake_any _).mono ?_
    rintro e w1 ⟨rfl, b0⟩
    go_wp2_with fail
    refine (may_ws (HU.out.below b0) m 4 false HM.out).mono ?_
    rintro e w2 ⟨rfl, b1⟩
    have b0 := Below.down b0 b1 b0.size
    clear b1
    go_wp2_with fail
    refine (dlv_ws (HU.out.below b0) m t (-1) (dlvN_no (ask_no HM.out))).mono ?_
    rintro e w2 ⟨rfl, b1⟩
    have b0 := Below.down b0 b1 b0.size
    clear b1
    go_wp2_with fail
    refine (opn_ws (HU.out.below b0) m t (-1) (opnN_no (ask_no HM.out))).mono ?_
    rintro e w2 ⟨rfl, b1⟩
    have b0 := Below.down b0 b1 b0.size
    clear b1
    go_wp2_with fail
    go_ret
    exact ⟨rfl, b0⟩
  | true =>
    obtain ⟨m1, m2, hn8⟩ := may_m hM
    have hT := band t 65535 (by omega) (by omega)
    generalize hT' : bits BinOp.and IntKind.i64 t 65535 = T at hT
    obtain ⟨hT0, hT1⟩ := hT
    obtain ⟨T, rfl⟩ := Int.eq_ofNat_of_zero_le hT0
    have HM := Lib.hid hM
    obtain ⟨m, rfl⟩ := Int.eq_ofNat_of_zero_le (show 0 ≤ m by omega)
    have HD := Lib.hid (hits_all (f := Win.d) (l := l) (m := (m : Int)) (by omega) (may_d hM) (fun x hx => (may_in hM hx).2.2.2.2) (T : Int) m rfl)
    have HS := Lib.hid (hits_all (f := Win.s) (l := l) (m := (m : Int)) (by omega) (may_s hM) (fun x hx => ⟨(may_in hM hx).2.2.1, (may_in hM hx).2.2.2.1⟩) (T : Int) m rfl)
    change Hid (hits (hasD l m) T m = l.length) at HD
    change Hid (hits (hasS l m) T m = l.length) at HS
    rw [HL.out] at HD HS hn8
    have en : (((n : Nat) : Int) == (n : Int)) = true := by simp
    clear hM
    go_enter Try.func6, Try.ntmps6
    go_wp2_with fail
    refine (sawake_any _).mono ?_
    rintro e w1 ⟨rfl, b0⟩
    go_wp2_with fail
    refine (may_ws (HU.out.below b0) m 4 true HM.out).mono ?_
    rintro e w2 ⟨rfl, b1⟩
    have b0 := Below.down b0 b1 b0.size
    clear b1
    go_wp2_with fail
    go_loopw [8, 9, 10] (fun s d i wr => ∃ (c : Nat), c ≤ m ∧ i = .int .i64 ((T + c : Nat) : Int) ∧ s = .int .i64 ((hits (hasS l m) T c : Nat) : Int) ∧ d = .int .i64 ((hits (hasD l m) T c : Nat) : Int) ∧ Below w.heap.size w wr) (fun _ _ i _ => T + m - (intOf i).toNat)
    case atStart => exact ⟨0, by omega, rfl, rfl, rfl, b0⟩
    case round =>
      clear b0
      obtain ⟨c, hc, rfl, rfl, rfl, hbel⟩ := hrel
      have hle1 := hits_le (hasS l m) T c
      have hle2 := hits_le (hasD l m) T c
      by_cases hcm : c < m
      · obtain ⟨a, b, ha, ha2, hb, hb2, a0, b0, hda, hsb⟩ := round_at (i := ((T + c : Nat) : Int)) HM.out (by omega) (by omega)
        have hcast : ((T + c : Nat) : Int) = (T : Int) + (c : Int) := by omega
        rw [hcast] at hda hsb
        have hd1 := hits_yes (f := hasD l m) (t := (T : Int)) (c := c)
        have hd0 := hits_no (f := hasD l m) (t := (T : Int)) (c := c)
        have hs1 := hits_yes (f := hasS l m) (t := (T : Int)) (c := c)
        have hs0 := hits_no (f := hasS l m) (t := (T : Int)) (c := c)
        have HA := Lib.hid ha; have HA2 := Lib.hid ha2; have HB := Lib.hid hb; have HB2 := Lib.hid hb2
        have hdc : 0 ≤ a ∧ hits (hasD l m) T (c + 1) = hits (hasD l m) T c + 1 ∨ a < 0 ∧ hits (hasD l m) T (c + 1) = hits (hasD l m) T c := by
          rcases hda with ⟨x, y⟩ | ⟨x, y⟩
          · exact .inl ⟨x, hd1 y⟩
          · exact .inr ⟨x, hd0 y⟩
        have hsc : 0 ≤ b ∧ hits (hasS l m) T (c + 1) = hits (hasS l m) T c + 1 ∨ b < 0 ∧ hits (hasS l m) T (c + 1) = hits (hasS l m) T c := by
          rcases hsb with ⟨x, y⟩ | ⟨x, y⟩
          · exact .inl ⟨x, hs1 y⟩
          · exact .inr ⟨x, hs0 y⟩
        clear ha ha2 hb hb2 hd1 hd0 hs1 hs0 hda hsb hcast
        generalize hits (hasS l m) T c = P at *
        generalize hits (hasD l m) T c = Q at *
        have ea : (a != a) = false := by simp
        have eb : (b != b) = false := by simp
        rcases hdc with ⟨d0, d1⟩ | ⟨d0, d1⟩ <;> rcases hsc with ⟨s0, s1⟩ | ⟨s0, s1⟩
        all_goals
          have D1 := Lib.hid d1; have S1 := Lib.hid s1
          clear d1 s1
          go_wp2_with fail
          refine (dlv_ws (HU.out.below hbel) m ((T + c : Nat) : Int) a HA.out).mono ?_
          rintro e w3 ⟨rfl, b2⟩
          have hbel := Below.down hbel b2 hbel.size
          clear b2
          go_wp2_with fail
          refine (opn_ws (HU.out.below hbel) m ((T + c : Nat) : Int) b HB.out).mono ?_
          rintro e w4 ⟨rfl, b2⟩
          have hbel := Below.down hbel b2 hbel.size
          clear b2
          go_wp2_with fail
          refine (dlv_ws (HU.out.below hbel) m (((T + c : Nat) : Int) + m) a HA2.out).mono ?_
          rintro e w5 ⟨rfl, b2⟩
          have hbel := Below.down hbel b2 hbel.size
          clear b2
          go_wp2_with fail
          refine (opn_ws (HU.out.below hbel) m (((T + c : Nat) : Int) + m) b HB2.out).mono ?_
          rintro e w6 ⟨rfl, b2⟩
          have hbel := Below.down hbel b2 hbel.size
          clear b2
          go_wp2_with fail
          go_roundw
          case rel => exact ⟨c + 1, by omega, by go_num, by rw [S1.out] <;> go_num, by rw [D1.out] <;> go_num, hbel⟩
          case measure => simp [intOf]; omega
      · obtain rfl : c = m := by omega
        rw [HD.out, HS.out]
        go_wp2_with fail
        refine (dlv_ws (HU.out.below hbel) c (-1 - (T : Int)) (-1) (dlvN_no (ask_off (by omega)))).mono ?_
        rintro e w5 ⟨rfl, b2⟩
        have hbel := Below.down hbel b2 hbel.size
        clear b2
        go_wp2_with fail
        refine (opn_ws (HU.out.below hbel) c (1048576 + (T : Int)) (-1) (opnN_no (ask_off (by omega)))).mono ?_
        rintro e w6 ⟨rfl, b2⟩
        have hbel := Below.down hbel b2 hbel.size
        clear b2
        go_wp2_with fail
        go_ret
        exact ⟨rfl, hbel⟩

end Go.Proofs.Ytljgecnpohmmfaa
