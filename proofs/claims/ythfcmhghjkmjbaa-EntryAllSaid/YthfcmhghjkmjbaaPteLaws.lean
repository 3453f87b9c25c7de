/-
  Layer 4's laws EntryAll, EntryRights, EntryBack, EntryForms: they answer true for every input.
-/
import Derived.Test.YthfcmhghjkmjbaaPteAwake
namespace Go.Proofs.Ythfcmhghjkmjbaa
open Go.RowKit
set_option linter.unusedVariables false

set_option maxHeartbeats 1000000 in
theorem law_EntryAll (a b : Int) (w0 : (Lit.int .i64 a).wf = true) (w1 : (Lit.int .i64 b).wf = true) (w : World) :
    Calls Try.prog 6 #[.int .i64 a, .int .i64 b] w fun e w' => e = .returned (.bool true) ∧ Below w.heap.size w w' := by
  have hU := u64b a
  have hV := u64b b
  generalize hU' : IntKind.u64.wrap a = U at hU
  generalize hV' : IntKind.u64.wrap b = V at hV
  obtain ⟨hU0, hU1⟩ := hU
  obtain ⟨hV0, hV1⟩ := hV
  have hI0 : 0 ≤ U % 192 := by omega
  have hI1 : U % 192 < 192 := by omega
  have hJ0 : 0 ≤ V % 192 := by omega
  have hJ1 : V % 192 < 192 := by omega
  generalize hI' : U % 192 = I at hI0 hI1
  generalize hJ' : V % 192 = J at hJ0 hJ1
  clear w0 w1
  go_enter Try.func6, Try.ntmps6
  go_wp2_with fail
  refine (eawake_any _).mono ?_
  rintro e wa ⟨rfl, ba⟩
  have hsa := ba.size
  go_wp2_with fail
  refine (eput_is (I / 3) (1 + I % 3) (1 + 2 * (1 + I % 3) + 4096 * (I / 3)) 0 _ (eN_yes _ _ (by omega) (by omega) (by omega) (by omega)) (by rw [eB_yes _ _ (by omega) (by omega) (by omega) (by omega)]; rfl)).mono ?_
  rintro e wb ⟨rfl, bb⟩
  have bb' := Below.down ba bb hsa
  have hsb := bb'.size
  go_wp2_with fail
  refine (eput_is (J / 3) (1 + J % 3) (1 + 2 * (1 + J % 3) + 4096 * (J / 3)) 0 _ (eN_yes _ _ (by omega) (by omega) (by omega) (by omega)) (by rw [eB_yes _ _ (by omega) (by omega) (by omega) (by omega)]; rfl)).mono ?_
  rintro e wc ⟨rfl, bc⟩
  have bc' := Below.down bb' bc hsb
  have g0 : 0 < 1 + 2 * (1 + I % 3) + 4096 * (I / 3) := by omega
  have g1 : (decide (1 + 2 * (1 + I % 3) + 4096 * (I / 3) < 1 + 2 * (1 + J % 3) + 4096 * (J / 3)) == decide (I < J)) = true := by
    rw [show decide (1 + 2 * (1 + I % 3) + 4096 * (I / 3) < 1 + 2 * (1 + J % 3) + 4096 * (J / 3)) = decide (I < J) from by rw [decide_eq_decide]; omega]
    simp
  have g2 : ((1 + 2 * (1 + I % 3) + 4096 * (I / 3) == 1 + 2 * (1 + J % 3) + 4096 * (J / 3)) == (I == J)) = true := by
    rw [show (1 + 2 * (1 + I % 3) + 4096 * (I / 3) == 1 + 2 * (1 + J % 3) + 4096 * (J / 3)) = (I == J) from by rw [Bool.eq_iff_iff, beq_iff_eq, beq_iff_eq]; omega]
    simp
  generalize 1 + 2 * (1 + I % 3) + 4096 * (I / 3) = X at *
  generalize 1 + 2 * (1 + J % 3) + 4096 * (J / 3) = Y at *
  clear ba bb bc hsa hsb bb'
  go_wp2_with (go_at_call 12; refine (num_any _ _).mono ?_; rintro e w' ⟨rfl, rfl⟩)
  go_ret
  exact ⟨rfl, bc'⟩

theorem or_rights_nat : ∀ f : Fin 64, ∀ p q : Fin 3, bits BinOp.or IntKind.i64 (1 + 2 * (1 + (p.val : Int)) + 4096 * (f.val : Int)) (1 + 2 * (1 + (q.val : Int)) + 4096 * (f.val : Int)) = 1 + 2 * (bits BinOp.or IntKind.i64 (1 + (p.val : Int)) (1 + (q.val : Int))) + 4096 * (f.val : Int) ∧ 1 ≤ bits BinOp.or IntKind.i64 (1 + (p.val : Int)) (1 + (q.val : Int)) ∧ bits BinOp.or IntKind.i64 (1 + (p.val : Int)) (1 + (q.val : Int)) ≤ 3 := by decide +kernel
theorem or_rights (f p q : Int) (hf : 0 ≤ f) (hf1 : f < 64) (hp : 0 ≤ p) (hp1 : p < 3) (hq : 0 ≤ q) (hq1 : q < 3) : bits BinOp.or IntKind.i64 (1 + 2 * (1 + p) + 4096 * f) (1 + 2 * (1 + q) + 4096 * f) = 1 + 2 * (bits BinOp.or IntKind.i64 (1 + p) (1 + q)) + 4096 * f ∧ 1 ≤ bits BinOp.or IntKind.i64 (1 + p) (1 + q) ∧ bits BinOp.or IntKind.i64 (1 + p) (1 + q) ≤ 3 := by
  obtain ⟨f, rfl⟩ := Int.eq_ofNat_of_zero_le hf
  obtain ⟨p, rfl⟩ := Int.eq_ofNat_of_zero_le hp
  obtain ⟨q, rfl⟩ := Int.eq_ofNat_of_zero_le hq
  exact or_rights_nat ⟨f, by omega⟩ ⟨p, by omega⟩ ⟨q, by omega⟩

set_option maxHeartbeats 1000000 in
theorem law_EntryRights (a b c : Int) (w0 : (Lit.int .i64 a).wf = true) (w1 : (Lit.int .i64 b).wf = true) (w2 : (Lit.int .i64 c).wf = true) (w : World) :
    Calls Try.prog 7 #[.int .i64 a, .int .i64 b, .int .i64 c] w fun e w' => e = .returned (.bool true) ∧ Below w.heap.size w w' := by
  have hF := band a 63 (by omega) (by omega)
  have hU := u64b b
  have hV := u64b c
  generalize hF' : bits BinOp.and IntKind.i64 a 63 = F at hF
  generalize hU' : IntKind.u64.wrap b = U at hU
  generalize hV' : IntKind.u64.wrap c = V at hV
  obtain ⟨hF0, hF1⟩ := hF
  obtain ⟨hU0, hU1⟩ := hU
  obtain ⟨hV0, hV1⟩ := hV
  have hI0 : 0 ≤ U % 3 := by omega
  have hI1 : U % 3 < 3 := by omega
  have hJ0 : 0 ≤ V % 3 := by omega
  have hJ1 : V % 3 < 3 := by omega
  generalize hI' : U % 3 = I at hI0 hI1
  generalize hJ' : V % 3 = J at hJ0 hJ1
  have ho := or_rights F I J hF0 (by omega) hI0 hI1 hJ0 hJ1
  generalize hR' : bits BinOp.or IntKind.i64 (1 + I) (1 + J) = R at ho
  obtain ⟨ho, hR0, hR1⟩ := ho
  have HO := Lib.hid ho; have HR := Lib.hid hR'
  clear w0 w1 w2 ho hR'
  go_enter Try.func7, Try.ntmps7
  go_wp2_with fail
  refine (eawake_any _).mono ?_
  rintro e wa ⟨rfl, ba⟩
  have hsa := ba.size
  go_wp2_with fail
  refine (eput_is F (1 + I) (1 + 2 * (1 + I) + 4096 * F) 0 _ (eN_yes _ _ (by omega) (by omega) (by omega) (by omega)) (by rw [eB_yes _ _ (by omega) (by omega) (by omega) (by omega)]; rfl)).mono ?_
  rintro e wb ⟨rfl, bb⟩
  have bb' := Below.down ba bb hsa
  have hsb := bb'.size
  go_wp2_with fail
  refine (eput_is F (1 + J) (1 + 2 * (1 + J) + 4096 * F) 0 _ (eN_yes _ _ (by omega) (by omega) (by omega) (by omega)) (by rw [eB_yes _ _ (by omega) (by omega) (by omega) (by omega)]; rfl)).mono ?_
  rintro e wc ⟨rfl, bc⟩
  have bc' := Below.down bb' bc hsb
  have hsc := bc'.size
  have gx : (1 + 2 * (1 + I) + 4096 * F) / 4096 = F := by omega
  have gy : (1 + 2 * (1 + J) + 4096 * F) / 4096 = F := by omega
  have g2 : ((1 + 2 * (1 + I) + 4096 * F == 1 + 2 * (1 + J) + 4096 * F) == (1 + I == 1 + J)) = true := by
    rw [show (1 + 2 * (1 + I) + 4096 * F == 1 + 2 * (1 + J) + 4096 * F) = (1 + I == 1 + J) from by rw [Bool.eq_iff_iff, beq_iff_eq, beq_iff_eq]; omega]
    simp
  have ho := HO.out
  have hx0 : 0 ≤ 1 + 2 * (1 + I) + 4096 * F := by omega
  have hy0 : 0 ≤ 1 + 2 * (1 + J) + 4096 * F := by omega
  have hz := g_of F R hR0 hR1 hF0 (by omega)
  rw [eN_yes F R hR0 hR1 hF0 (by omega)] at hz
  generalize 1 + 2 * (1 + I) + 4096 * F = X at *
  generalize 1 + 2 * (1 + J) + 4096 * F = Y at *
  generalize 1 + 2 * R + 4096 * F = Z at *
  obtain ⟨hz0, hz1, hz2⟩ := hz
  have HZ0 := Lib.hid hz0; have HZ1 := Lib.hid hz1; have HZ2 := Lib.hid hz2
  clear ba bb bc hsa hsb bb' hz0 hz1 hz2 HO
  go_wp2_with fail
  refine (eget_is Z F R 0 _ HZ1.out HZ2.out (by rw [HZ0.out]; rfl)).mono ?_
  rintro e wd ⟨rfl, bd⟩
  have bd' := Below.down bc' bd hsc
  have hR' := HR.out
  clear bc' bd ho
  have t := two_at (Blk.new wd 23 [.int .i64 F, .int .i64 R])
  obtain ⟨t0, t1, _, _⟩ := t
  go_wp2_with (go_at_call 12; refine (num_any _ _).mono ?_; rintro e w' ⟨rfl, rfl⟩)
  go_ret
  exact ⟨rfl, bd'.alloc bd'.size _⟩

theorem xor_ne (x b : Nat) (hx : x < 9223372036854775808) (hb : b < 63) : bits BinOp.xor IntKind.i64 (x : Int) ((2 ^ b : Nat) : Int) ≠ (x : Int) := by
  have hm : (2 : Nat) ^ b ≤ 2 ^ 62 := Nat.pow_le_pow_right (by omega) (by omega)
  have hp : 0 < 2 ^ b := Nat.pow_pos (by omega)
  have hx' : (BitVec.ofInt 64 (x : Int)).toNat = x := by
    rw [BitVec.ofInt_natCast, BitVec.toNat_ofNat]; exact Nat.mod_eq_of_lt (by omega)
  have hy : (BitVec.ofInt 64 ((2 ^ b : Nat) : Int)).toNat = 2 ^ b := by
    rw [BitVec.ofInt_natCast, BitVec.toNat_ofNat]; exact Nat.mod_eq_of_lt (by omega)
  have e : bits BinOp.xor IntKind.i64 (x : Int) ((2 ^ b : Nat) : Int) = IntKind.i64.wrap ((BitVec.ofInt 64 (x : Int) ^^^ BitVec.ofInt 64 ((2 ^ b : Nat) : Int)).toNat : Int) := rfl
  rw [e, BitVec.toNat_xor, hx', hy, IntKind.wrap_i64]
  have hlt : x ^^^ 2 ^ b < 2 ^ 63 := Nat.xor_lt_two_pow (by omega) (by omega)
  have hne : x ^^^ 2 ^ b ≠ x := by
    intro h
    have h2 : x ^^^ (x ^^^ 2 ^ b) = x ^^^ x := by rw [h]
    rw [← Nat.xor_assoc, Nat.xor_self, Nat.zero_xor] at h2
    omega
  omega

end Go.Proofs.Ythfcmhghjkmjbaa
