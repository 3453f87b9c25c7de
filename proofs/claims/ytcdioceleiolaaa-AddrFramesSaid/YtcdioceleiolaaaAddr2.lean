/-
  Layer 1's laws AddrFrames and AddrParts: each answers true for every input.
-/
import Derived.Test.YtcdioceleiolaaaAddr
namespace Go.Proofs.Ytcdioceleiolaaa
open Go.RowKit
set_option linter.unusedVariables false

theorem law_AddrFrames (a n : Int) (w0 : (Lit.int .i64 a).wf = true) (w1 : (Lit.int .i64 n).wf = true) (w : World) :
    Calls Try.prog 7 #[.int .i64 a, .int .i64 n] w fun e w' => e = .returned (.bool true) ∧ Below w.heap.size w w' := by
  have hX := band a 1023 (by omega) (by omega)
  have hM := band n 255 (by omega) (by omega)
  generalize hX' : bits BinOp.and IntKind.i64 a 1023 = X at hX
  generalize hM' : bits BinOp.and IntKind.i64 n 255 = M at hM
  obtain ⟨hX0, hX1⟩ := hX
  obtain ⟨hM0, hM1⟩ := hM
  clear w0 w1
  go_enter Try.func7, Try.ntmps7
  go_wp2_with fail
  refine (awake_any _).mono ?_
  rintro e wa ⟨rfl, ba⟩
  go_wp2_with fail
  clear hX' hM'
  obtain ⟨X, rfl⟩ := Int.eq_ofNat_of_zero_le hX0
  obtain ⟨M, rfl⟩ := Int.eq_ofNat_of_zero_le hM0
  refine (split_yes _ _ _ (by omega) (by omega) (by omega)).mono ?_
  rintro e wb ⟨v, rfl, ho, bb⟩
  simp only [Int.toNat_natCast] at ho
  have HP := pcs_of X M
  generalize hlen : (spl X M).length = len at *
  generalize spl X M = L at *
  have hs := Sl.own ho
  have bb' := Below.down ba bb ba.size
  clear ho bb ba hlen
  obtain ⟨Aa, c, rfl, hc, _, hcell⟩ := hs
  have hln := HP.short
  have HC := Lib.hid hcell; clear hcell
  go_wp2_with (go_at_call 11; refine (num_any _ _).mono ?_; rintro e w2 ⟨rfl, rfl⟩)
  go_loop [9, 10] (fun t i => ∃ k Q : Nat, k ≤ len ∧ i = .int .i64 k ∧ t = .int .i64 ((X : Int) + Q) ∧ Q ≤ M ∧ Hid (pre L k = Q)) (fun _ i => len - (intOf i).toNat)
  case atStart => exact ⟨0, 0, by omega, rfl, by simp, by omega, Lib.hid (pre_zero L)⟩
  case round =>
    obtain ⟨k, Q, hk, rfl, rfl, hQM, HQ⟩ := hrel
    by_cases hlt : k < len
    · obtain ⟨b, o, rfl, hbl, hcell⟩ := HC.out (by omega)
      obtain ⟨p1, p2, p3, f1, f2, f3, g1, g2, g3, g4⟩ := HP.at_ k hlt
      have g5 := HP.le (k + 1) (by omega)
      rw [HQ.out] at g1 g4
      have HQ1 := Lib.hid g4
      rw [g4] at g5
      clear g4
      have a0 := hcell _ _ f1
      have a1 := hcell _ _ f2
      have a2 := hcell _ _ f3
      simp only [← Nat.add_assoc] at a1 a2
      have G1 : (p1 : Int) * 64 + p2 ≤ (X : Int) + Q := by omega
      have G2 : (X : Int) + Q ≤ (p1 : Int) * 64 + p2 := by omega
      have p1b : p1 ≤ 64 := by omega
      clear hcell f1 f2 f3 g1
      go_wp2
      go_loop [9, 11] (fun t s => ∃ q : Nat, q ≤ p3 ∧ s = .int .i64 q ∧ t = .int .i64 ((X : Int) + Q + q)) (fun _ s => p3 - (intOf s).toNat)
      case atStart => exact ⟨0, by omega, rfl, by simp⟩
      case round =>
        obtain ⟨q, hq, rfl, rfl⟩ := hrel
        by_cases hql : q < p3
        · go_wp2
          go_round
          case rel => exact ⟨q + 1, by omega, by go_num, by go_num⟩
          case measure => simp [intOf]; omega
        · obtain rfl : q = p3 := by omega
          go_wp2
          go_round
          case rel => exact ⟨k + 1, Q + q, by omega, by go_num, by go_num, g5, HQ1⟩
          case measure => simp [intOf]; omega
    · have hlk : k = len := by omega
      have hQe : Q = M := by rw [← HQ.out, hlk]; exact HP.all
      have HQE := Lib.hid hQe
      clear hlk hQe
      have q1 : (X : Int) + Q ≤ X + M := by omega
      have q2 : (X : Int) + M ≤ X + Q := by have := HQE.out; omega
      go_wp2
      go_ret
      exact ⟨by simp; omega, bb'⟩

end Go.Proofs.Ytcdioceleiolaaa
