/-
  Layer 1's law AddrParts: it answers true for every input.
-/
import Derived.Test.YtcdioceleiolaaaAddr
namespace Go.Proofs.Ytcdioceleiolaaa
open Go.RowKit
set_option linter.unusedVariables false

set_option maxHeartbeats 1000000 in
theorem law_AddrParts (a n t : Int) (w0 : (Lit.int .i64 a).wf = true) (w1 : (Lit.int .i64 n).wf = true) (w2 : (Lit.int .i64 t).wf = true) (w : World) :
    Calls Try.prog 6 #[.int .i64 a, .int .i64 n, .int .i64 t] w fun e w' => e = .returned (.bool true) ∧ Below w.heap.size w w' := by
  have hX := band a 1023 (by omega) (by omega)
  have hM := band n 511 (by omega) (by omega)
  have hU := u64b t
  generalize hX' : bits BinOp.and IntKind.i64 a 1023 = X at hX
  generalize hM' : bits BinOp.and IntKind.i64 n 511 = M at hM
  generalize hU' : IntKind.u64.wrap t = U at hU
  obtain ⟨hX0, hX1⟩ := hX
  obtain ⟨hM0, hM1⟩ := hM
  obtain ⟨hU0, hU1⟩ := hU
  have hC0 : 0 ≤ U % (M + 1) := Int.emod_nonneg _ (by omega)
  have hC1 : U % (M + 1) < M + 1 := Int.emod_lt_of_pos _ (by omega)
  generalize hC' : U % (M + 1) = C at hC0 hC1
  clear w0 w1 w2
  go_enter Try.func6, Try.ntmps6
  go_wp2_with fail
  refine (awake_any _).mono ?_
  rintro e wa ⟨rfl, ba⟩
  go_wp2_with fail
  clear hX' hM' hU' hC' hU0 hU1
  obtain ⟨X, rfl⟩ := Int.eq_ofNat_of_zero_le hX0
  obtain ⟨M, rfl⟩ := Int.eq_ofNat_of_zero_le hM0
  obtain ⟨C, rfl⟩ := Int.eq_ofNat_of_zero_le hC0
  have hcut := spl_cut X M C (by omega)
  refine (split_yes _ _ _ (by omega) (by omega) (by omega)).mono ?_
  rintro e wb ⟨v, rfl, ho, bb⟩
  simp only [Int.toNat_natCast] at ho
  have HP := pcs_of X M
  generalize hlen : (spl X M).length = len at *
  generalize spl X M = L at *
  have hs := Sl.own ho
  have bb' := Below.down ba bb ba.size
  clear ho bb ba hlen
  obtain ⟨Aa, c, rfl, hc, _, hcell⟩ := hs
  have hln := HP.short
  have HC := Lib.hid hcell; clear hcell
  go_wp2_with fail
  refine (split_yes _ _ _ (by omega) (by omega) (by omega)).mono ?_
  rintro e wc ⟨vy, rfl, oy, by_⟩
  simp only [Int.toNat_natCast] at oy
  have hly := spl_len C X
  generalize (spl X C).length = ly at *
  obtain ⟨Ay, cy, rfl, hcy, _, _⟩ := Sl.own oy
  clear oy
  go_wp2_with fail
  refine (split_yes _ _ _ (by omega) (by omega) (by omega)).mono ?_
  rintro e wd ⟨vz, rfl, oz, bz⟩
  rw [show ((X : Int) + C).toNat = X + C from by omega, show ((M : Int) - C).toNat = M - C from by omega] at oz
  have hlz := spl_len (M - C) (X + C)
  generalize (spl (X + C) (M - C)).length = lz at *
  obtain ⟨Az, cz, rfl, hcz, _, _⟩ := Sl.own oz
  clear oz
  have bd : Below w.heap.size w wd := Below.down (Below.down bb' by_ bb'.size) bz (Nat.le_trans bb'.size by_.size)
  have bd2 : Below wb.heap.size wb wd := Below.down by_ bz by_.size
  clear bb' by_ bz
  have hcases : ((X + C) % 64 ≠ 0 ∧ 0 < C ∧ C < M ∧ len + 1 = ly + lz) ∨ ((X + C) % 64 = 0 ∧ len = ly + lz) ∨ ((X + C) % 64 ≠ 0 ∧ C = 0 ∧ len = ly + lz) ∨ ((X + C) % 64 ≠ 0 ∧ 0 < C ∧ ¬ C < M ∧ len = ly + lz) := by
    have h1 := hcut.1
    have h2 := hcut.2
    by_cases q1 : (X + C) % 64 = 0
    · exact .inr (.inl ⟨q1, h2 (by omega)⟩)
    · by_cases q2 : 0 < C
      · by_cases q3 : C < M
        · exact .inl ⟨q1, q2, q3, h1 ⟨q1, q2, q3⟩⟩
        · exact .inr (.inr (.inr ⟨q1, q2, q3, h2 (by omega)⟩))
      · exact .inr (.inr (.inl ⟨q1, by omega, h2 (by omega)⟩))
  clear hcut
  rcases hcases with ⟨q1, q2, q3, q4⟩ | ⟨q1, q4⟩ | ⟨q1, q2, q4⟩ | ⟨q1, q2, q3, q4⟩
  · have q5 : len + 1 ≤ ly + lz := by omega
    have q6 : ly + lz ≤ len + 1 := by omega
    have q7 : (((X : Int) + C) % 64 != 0) = true := by simp; omega
    have q8 : decide ((C : Int) < M) = true := by simp; omega
    have q9 : decide (0 < (C : Int)) = true := by simp; omega
    clear q1 q4
    go_wp2_with (go_at_call 11; refine (num_any _ _).mono ?_; rintro e w2 ⟨rfl, rfl⟩)
    go_loop [18, 19] (fun t i => ∃ k Q : Nat, k ≤ len ∧ i = .int .i64 k ∧ t = .int .i64 (Q : Int) ∧ Q ≤ M ∧ Hid (pre L k = Q)) (fun _ i => len - (intOf i).toNat)
    case atStart => exact ⟨0, 0, by omega, rfl, rfl, by omega, Lib.hid (pre_zero L)⟩
    case round =>
      obtain ⟨k, Q, hk, rfl, rfl, hQM, HQ⟩ := hrel
      by_cases hlt : k < len
      · obtain ⟨b, o, rfl, hbl, hcell⟩ := HC.out (by omega)
        obtain ⟨p1, p2, p3, f1, f2, f3, g1, g2, g3, g4⟩ := HP.at_ k hlt
        have g5 := HP.le (k + 1) (by omega)
        rw [HQ.out] at g4
        have HQ1 := Lib.hid g4
        rw [g4] at g5
        clear g4
        have a2 := (bd2.cell (p := ⟨b, o + (k * 3 + 2), none⟩) hbl).trans (hcell _ _ f3)
        simp only [← Nat.add_assoc] at a2
        clear hcell f1 f2 f3 g1
        go_wp2
        go_round
        case rel => exact ⟨k + 1, Q + p3, by omega, by go_num, by go_num, g5, HQ1⟩
        case measure => simp [intOf]; omega
      · have hlk : k = len := by omega
        have hQe : Q = M := by rw [← HQ.out, hlk]; exact HP.all
        have HQE := Lib.hid hQe
        clear hlk hQe
        have q11 : (Q : Int) ≤ M := by omega
        have q12 : (M : Int) ≤ Q := by have := HQE.out; omega
        go_wp2
        go_ret
        exact ⟨by simp; omega, bd⟩
  · have q5 : len ≤ ly + lz := by omega
    have q6 : ly + lz ≤ len := by omega
    have q7 : (((X : Int) + C) % 64 != 0) = false := by simp; omega
    clear q1 q4
    go_wp2_with (go_at_call 11; refine (num_any _ _).mono ?_; rintro e w2 ⟨rfl, rfl⟩)
    go_loop [18, 19] (fun t i => ∃ k Q : Nat, k ≤ len ∧ i = .int .i64 k ∧ t = .int .i64 (Q : Int) ∧ Q ≤ M ∧ Hid (pre L k = Q)) (fun _ i => len - (intOf i).toNat)
    case atStart => exact ⟨0, 0, by omega, rfl, rfl, by omega, Lib.hid (pre_zero L)⟩
    case round =>
      obtain ⟨k, Q, hk, rfl, rfl, hQM, HQ⟩ := hrel
      by_cases hlt : k < len
      · obtain ⟨b, o, rfl, hbl, hcell⟩ := HC.out (by omega)
        obtain ⟨p1, p2, p3, f1, f2, f3, g1, g2, g3, g4⟩ := HP.at_ k hlt
        have g5 := HP.le (k + 1) (by omega)
        rw [HQ.out] at g4
        have HQ1 := Lib.hid g4
        rw [g4] at g5
        clear g4
        have a2 := (bd2.cell (p := ⟨b, o + (k * 3 + 2), none⟩) hbl).trans (hcell _ _ f3)
        simp only [← Nat.add_assoc] at a2
        clear hcell f1 f2 f3 g1
        go_wp2
        go_round
        case rel => exact ⟨k + 1, Q + p3, by omega, by go_num, by go_num, g5, HQ1⟩
        case measure => simp [intOf]; omega
      · have hlk : k = len := by omega
        have hQe : Q = M := by rw [← HQ.out, hlk]; exact HP.all
        have HQE := Lib.hid hQe
        clear hlk hQe
        have q11 : (Q : Int) ≤ M := by omega
        have q12 : (M : Int) ≤ Q := by have := HQE.out; omega
        go_wp2
        go_ret
        exact ⟨by simp; omega, bd⟩
  · have q5 : len ≤ ly + lz := by omega
    have q6 : ly + lz ≤ len := by omega
    have q7 : (((X : Int) + C) % 64 != 0) = true := by simp; omega
    have q9 : decide (0 < (C : Int)) = false := by simp; omega
    have q10 : (C : Int) ≤ 0 := by omega
    clear q1 q4 q2
    go_wp2_with (go_at_call 11; refine (num_any _ _).mono ?_; rintro e w2 ⟨rfl, rfl⟩)
    go_loop [18, 19] (fun t i => ∃ k Q : Nat, k ≤ len ∧ i = .int .i64 k ∧ t = .int .i64 (Q : Int) ∧ Q ≤ M ∧ Hid (pre L k = Q)) (fun _ i => len - (intOf i).toNat)
    case atStart => exact ⟨0, 0, by omega, rfl, rfl, by omega, Lib.hid (pre_zero L)⟩
    case round =>
      obtain ⟨k, Q, hk, rfl, rfl, hQM, HQ⟩ := hrel
      by_cases hlt : k < len
      · obtain ⟨b, o, rfl, hbl, hcell⟩ := HC.out (by omega)
        obtain ⟨p1, p2, p3, f1, f2, f3, g1, g2, g3, g4⟩ := HP.at_ k hlt
        have g5 := HP.le (k + 1) (by omega)
        rw [HQ.out] at g4
        have HQ1 := Lib.hid g4
        rw [g4] at g5
        clear g4
        have a2 := (bd2.cell (p := ⟨b, o + (k * 3 + 2), none⟩) hbl).trans (hcell _ _ f3)
        simp only [← Nat.add_assoc] at a2
        clear hcell f1 f2 f3 g1
        go_wp2
        go_round
        case rel => exact ⟨k + 1, Q + p3, by omega, by go_num, by go_num, g5, HQ1⟩
        case measure => simp [intOf]; omega
      · have hlk : k = len := by omega
        have hQe : Q = M := by rw [← HQ.out, hlk]; exact HP.all
        have HQE := Lib.hid hQe
        clear hlk hQe
        have q11 : (Q : Int) ≤ M := by omega
        have q12 : (M : Int) ≤ Q := by have := HQE.out; omega
        go_wp2
        go_ret
        exact ⟨by simp; omega, bd⟩
  · have q5 : len ≤ ly + lz := by omega
    have q6 : ly + lz ≤ len := by omega
    have q7 : (((X : Int) + C) % 64 != 0) = true := by simp; omega
    have q8 : decide ((C : Int) < M) = false := by simp; omega
    have q9 : decide (0 < (C : Int)) = true := by simp; omega
    clear q1 q4
    go_wp2_with (go_at_call 11; refine (num_any _ _).mono ?_; rintro e w2 ⟨rfl, rfl⟩)
    go_loop [18, 19] (fun t i => ∃ k Q : Nat, k ≤ len ∧ i = .int .i64 k ∧ t = .int .i64 (Q : Int) ∧ Q ≤ M ∧ Hid (pre L k = Q)) (fun _ i => len - (intOf i).toNat)
    case atStart => exact ⟨0, 0, by omega, rfl, rfl, by omega, Lib.hid (pre_zero L)⟩
    case round =>
      obtain ⟨k, Q, hk, rfl, rfl, hQM, HQ⟩ := hrel
      by_cases hlt : k < len
      · obtain ⟨b, o, rfl, hbl, hcell⟩ := HC.out (by omega)
        obtain ⟨p1, p2, p3, f1, f2, f3, g1, g2, g3, g4⟩ := HP.at_ k hlt
        have g5 := HP.le (k + 1) (by omega)
        rw [HQ.out] at g4
        have HQ1 := Lib.hid g4
        rw [g4] at g5
        clear g4
        have a2 := (bd2.cell (p := ⟨b, o + (k * 3 + 2), none⟩) hbl).trans (hcell _ _ f3)
        simp only [← Nat.add_assoc] at a2
        clear hcell f1 f2 f3 g1
        go_wp2
        go_round
        case rel => exact ⟨k + 1, Q + p3, by omega, by go_num, by go_num, g5, HQ1⟩
        case measure => simp [intOf]; omega
      · have hlk : k = len := by omega
        have hQe : Q = M := by rw [← HQ.out, hlk]; exact HP.all
        have HQE := Lib.hid hQe
        clear hlk hQe
        have q11 : (Q : Int) ≤ M := by omega
        have q12 : (M : Int) ≤ Q := by have := HQE.out; omega
        go_wp2
        go_ret
        exact ⟨by simp; omega, bd⟩

end Go.Proofs.Ytcdioceleiolaaa
