/-
  Layer 10's law SchedNext: it answers true for every input.
-/
import Derived.Test.YtljgecnpohmmfaaSchAwake
import Derived.Test.YtljgecnpohmmfaaSch7
namespace Go.Proofs.Ytljgecnpohmmfaa
open Go.RowKit
set_option linter.unusedVariables false
set_option linter.unusedSimpArgs false
set_option maxRecDepth 100000

/-- Whether a window of the first k is p's. -/
def ownTo10 (l : List Win) (p : Int) (k : Nat) : Bool := (l.take k).any (fun x => decide (x.p = p))
theorem own10_step (l : List Win) (p : Int) (k : Nat) (hk : k < l.length) : ownTo10 l p (k + 1) = (ownTo10 l p k || decide (l[k].p = p)) := by
  unfold ownTo10
  rw [List.take_add_one, List.getElem?_eq_getElem hk, List.any_append]
  simp only [Option.toList_some, List.any_cons, List.any_nil, Bool.or_false]
theorem own10_no (l : List Win) (p : Int) (k : Nat) (h : ∀ x ∈ l, x.p ≠ p) : ownTo10 l p k = false := by
  unfold ownTo10
  rw [List.any_eq_false]
  intro x hx
  simpa using h x (List.mem_of_mem_take hx)

set_option maxHeartbeats 4000000 in
theorem law_SchedNext (v : Value) (n : Nat) (zs : List Int) (m p t : Int) (w : World) (hs : Sl w v n 4 (ints zs)) (hn : n ≤ maxLen) (hl : zs.length = n * 4) (hr : ∀ z ∈ zs, -9223372036854775808 ≤ z ∧ z ≤ 9223372036854775807) :
    Calls Try.prog 4 #[v, .int .i64 m, .int .i64 p, .int .i64 t] w fun e w' => e = .returned (.bool true) ∧ Below w.heap.size w w' := by
  obtain ⟨l, rfl, hll⟩ := wins_of n zs hl
  have hu : Ws w v n l := ⟨hs, hll, hn, w64_of l hr⟩
  obtain ⟨A, cap, rfl⟩ := hu.form
  have HU := Lib.hid hu
  have HL := Lib.hid hll
  have hT := band t 1023 (by omega) (by omega)
  generalize hT' : bits BinOp.and IntKind.i64 t 1023 = T at hT
  obtain ⟨hT0, hT1⟩ := hT
  unfold maxLen at hn
  clear hu hs hl hr hll
  rcases nxt_parts l m p T with ⟨hN, hC, hA⟩ | ⟨hN, hC, hA, hw⟩
  · have hM : mayW l m 4 = false ∨ ∀ x ∈ l, x.p ≠ p := by
      rcases hA with h | ⟨_, h⟩
      · left
        unfold askW at h
        rwa [decide_eq_true ⟨hT0, by omega⟩, Bool.true_and] at h
      · exact .inr h
    have HN := Lib.hid hN; have HC := Lib.hid hC; have HM := Lib.hid hM
    clear hN hC hA hM
    go_enter Try.func4, Try.ntmps4
    go_wp2_with fail
    refine (sawake_any _).mono ?_
    rintro e w1 ⟨rfl, b0⟩
    go_wp2_with fail
    refine (nxt_ws (HU.out.below b0) m p T 0 1000 HN.out HC.out).mono ?_
    rintro e w2 ⟨rfl, b1⟩
    have b1 := Below.down b0 b1 b0.size
    clear b0
    go_wp2_with (go_at_call 11; refine (num_any _ _).mono ?_; rintro e w' ⟨rfl, rfl⟩)
    go_loopw [12, 13] (fun q i wr => ∃ (k : Nat), k ≤ n ∧ i = .int .i64 k ∧ q = .bool (ownTo10 l p k) ∧ Below w.heap.size w wr) (fun _ i _ => n - (intOf i).toNat)
    case atStart => exact ⟨0, by omega, rfl, rfl, b1⟩
    case round =>
      clear b1
      obtain ⟨k, hk, rfl, rfl, hbel⟩ := hrel
      by_cases hlt : k < n
      · have hkl : k < l.length := by rw [HL.out]; exact hlt
        obtain ⟨b, o, rfl, hb, c0, -, -, -⟩ := wd_at (HU.out.below hbel).sl HL.out k hkl
        have hst := Lib.hid (own10_step l p k hkl)
        generalize l[k] = x at *
        cases ho : ownTo10 l p k with
        | true =>
          rw [ho, Bool.true_or] at hst
          clear ho
          go_wp2_with fail
          go_roundw
          case rel => exact ⟨k + 1, by omega, by go_num, by rw [hst.out], hbel⟩
          case measure => simp [intOf]; omega
        | false =>
          rw [ho, Bool.false_or] at hst
          clear ho
          by_cases he : x.p = p
          · have e1 : (x.p == p) = true := by simpa using he
            rw [decide_eq_true he] at hst
            clear he
            go_wp2_with fail
            go_roundw
            case rel => exact ⟨k + 1, by omega, by go_num, by rw [hst.out], hbel⟩
            case measure => simp [intOf]; omega
          · have e1 : (x.p == p) = false := by simpa using he
            rw [decide_eq_false he] at hst
            clear he
            go_wp2_with fail
            go_roundw
            case rel => exact ⟨k + 1, by omega, by go_num, by rw [hst.out], hbel⟩
            case measure => simp [intOf]; omega
      · cases ho : ownTo10 l p k with
        | false =>
          clear ho
          go_wp2_with fail
          go_ret
          exact ⟨rfl, hbel⟩
        | true =>
          have hm : mayW l m 4 = false := by
            rcases HM.out with h | h
            · exact h
            · rw [own10_no l p k h] at ho; cases ho
          have HM4 := Lib.hid hm
          clear ho hm
          go_wp2_with fail
          refine (may_ws (HU.out.below hbel) m 4 false HM4.out).mono ?_
          rintro e w3 ⟨rfl, b3⟩
          have hbel := Below.down hbel b3 hbel.size
          clear b3
          go_wp2_with fail
          go_ret
          exact ⟨rfl, hbel⟩
  · obtain ⟨W, hW, hW0, hW1, hm, hp, hd1, hd2, hd3⟩ := next_facts hT0 hT1 hA hw
    rw [hW] at hN
    have HN := Lib.hid hN; have HC := Lib.hid hC; have HD1 := Lib.hid hd1; have HD2 := Lib.hid hd2; have HD3 := Lib.hid hd3
    obtain ⟨T, rfl⟩ := Int.eq_ofNat_of_zero_le hT0
    obtain ⟨W, rfl⟩ := Int.eq_ofNat_of_zero_le hW0
    have ep : (p == p) = true := by simp
    have ep2 : (p != p) = false := by simp
    clear hN hC hA hw hW hd1 hd2 hd3
    go_enter Try.func4, Try.ntmps4
    go_wp2_with fail
    refine (sawake_any _).mono ?_
    rintro e w1 ⟨rfl, b0⟩
    go_wp2_with fail
    refine (nxt_ws (HU.out.below b0) m p T (T + W) 0 HN.out HC.out).mono ?_
    rintro e w2 ⟨rfl, b1⟩
    have b1 := Below.down b0 b1 b0.size
    clear b0
    go_wp2_with (go_at_call 11; refine (num_any _ _).mono ?_; rintro e w' ⟨rfl, rfl⟩)
    refine (dlv_ws (HU.out.below b1) m (T + W) p HD1.out).mono ?_
    rintro e w3 ⟨rfl, b2⟩
    have b1 := Below.down b1 b2 b1.size
    clear b2
    go_wp2_with fail
    go_loopw [14] (fun i wr => ∃ (c : Nat), c ≤ W ∧ i = .int .i64 ((T + c : Nat) : Int) ∧ Below w.heap.size w wr) (fun i _ => T + W - (intOf i).toNat)
    case atStart => exact ⟨0, by omega, rfl, b1⟩
    case round =>
      clear b1
      obtain ⟨c, hc, rfl, hbel⟩ := hrel
      by_cases hcw : c < W
      · obtain ⟨D, hD⟩ : ∃ D, dlvN l m ((T + c : Nat) : Int) = D := ⟨_, rfl⟩
        have hne : D ≠ p := by rw [← hD]; exact HD3.out _ (by omega) (by omega)
        have HD := Lib.hid hD; clear hD
        have e1 : (D == p) = false := by simpa using hne
        clear hne
        go_wp2_with fail
        refine (dlv_ws (HU.out.below hbel) m ((T + c : Nat) : Int) D HD.out).mono ?_
        rintro e w3 ⟨rfl, b2⟩
        have hbel := Below.down hbel b2 hbel.size
        clear b2
        go_wp2_with fail
        go_roundw
        case rel => exact ⟨c + 1, by omega, by go_num, hbel⟩
        case measure => simp [intOf]; omega
      · obtain rfl : c = W := by omega
        go_wp2_with fail
        refine (dlv_ws (HU.out.below hbel) m (T + c + m) p HD2.out).mono ?_
        rintro e w3 ⟨rfl, b2⟩
        have hbel := Below.down hbel b2 hbel.size
        clear b2
        go_wp2_with fail
        go_ret
        exact ⟨rfl, hbel⟩

end Go.Proofs.Ytljgecnpohmmfaa
