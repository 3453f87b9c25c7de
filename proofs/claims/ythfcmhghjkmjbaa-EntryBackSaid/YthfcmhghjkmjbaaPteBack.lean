/-
  Layer 4's law EntryBack: it answers true for every input.
-/
import Derived.Test.YthfcmhghjkmjbaaPteLaws
namespace Go.Proofs.Ythfcmhghjkmjbaa
open Go.RowKit
set_option linter.unusedVariables false

set_option maxHeartbeats 1000000 in
theorem law_EntryBack (a b c : Int) (w0 : (Lit.int .i64 a).wf = true) (w1 : (Lit.int .i64 b).wf = true) (w2 : (Lit.int .i64 c).wf = true) (w : World) :
    Calls Try.prog 4 #[.int .i64 a, .int .i64 b, .int .i64 c] w fun e w' => e = .returned (.bool true) ∧ Below w.heap.size w w' := by
  have hF := band a 63 (by omega) (by omega)
  have hB := band c 31 (by omega) (by omega)
  have hU := u64b b
  generalize hF' : bits BinOp.and IntKind.i64 a 63 = F at hF
  generalize hB' : bits BinOp.and IntKind.i64 c 31 = B at hB
  generalize hU' : IntKind.u64.wrap b = U at hU
  obtain ⟨hF0, hF1⟩ := hF
  obtain ⟨hB0, hB1⟩ := hB
  obtain ⟨hU0, hU1⟩ := hU
  have hI0 : 0 ≤ U % 3 := by omega
  have hI1 : U % 3 < 3 := by omega
  generalize hI' : U % 3 = I at hI0 hI1
  clear w0 w1 w2
  go_enter Try.func4, Try.ntmps4
  go_wp2_with fail
  refine (eawake_any _).mono ?_
  rintro e wa ⟨rfl, ba⟩
  have hsa := ba.size
  have tb := Blk.new wa 23 [.int .i64 F, .int .i64 (1 + I)]
  have bb := ba.alloc hsa (.cells #[.int .i64 F, .int .i64 (1 + I)] 23)
  go_wp2_with fail
  generalize hwb : wa.alloc (.cells #[.int .i64 F, .int .i64 (1 + I)] 23) = wb at *
  generalize hg : wa.heap.size = g at *
  have hsb := bb.size
  clear hwb hg ba hsa
  refine (eput_is F (1 + I) (1 + 2 * (1 + I) + 4096 * F) 0 _ (eN_yes _ _ (by omega) (by omega) (by omega) (by omega)) (by rw [eB_yes _ _ (by omega) (by omega) (by omega) (by omega)]; rfl)).mono ?_
  rintro e wc ⟨rfl, bc⟩
  have tc := tb.below bc tb.lt
  have bc' := Below.down bb bc hsb
  have hsc := bc'.size
  have hz := g_of F (1 + I) (by omega) (by omega) hF0 (by omega)
  have hN := eN_yes F (1 + I) (by omega) (by omega) hF0 (by omega)
  rw [hN] at hz
  have hX0 : 0 < 1 + 2 * (1 + I) + 4096 * F := by omega
  have hX1 : 1 + 2 * (1 + I) + 4096 * F < 262144 := by omega
  generalize 1 + 2 * (1 + I) + 4096 * F = X at *
  obtain ⟨hz0, hz1, hz2⟩ := hz
  have HN := Lib.hid hN
  have HZ0 := Lib.hid hz0; have HZ1 := Lib.hid hz1; have HZ2 := Lib.hid hz2
  clear hz0 hz1 hz2 bb hsb bc tb hN
  go_wp2_with fail
  refine (eget_is X F (1 + I) 0 _ HZ1.out HZ2.out (by rw [HZ0.out]; rfl)).mono ?_
  rintro e wd ⟨rfl, bd⟩
  have bd' := Below.down bc' bd hsc
  have hsd := bd'.size
  have td := (tc.below bd tc.lt).alloc (.cells #[.int .i64 F, .int .i64 (1 + I)] 23)
  have be := bd'.alloc hsd (.cells #[.int .i64 F, .int .i64 (1 + I)] 23)
  have ud := Blk.new wd 23 [.int .i64 F, .int .i64 (1 + I)]
  clear bc' bd hsc tc bd'
  go_wp2_with fail
  have hne : bits BinOp.xor IntKind.i64 X (wrap64 (2 ^ B.toNat)) ≠ X := by
    obtain ⟨x, rfl⟩ := Int.eq_ofNat_of_zero_le (show 0 ≤ X by omega)
    have hm : (2 : Nat) ^ B.toNat ≤ 2 ^ 31 := Nat.pow_le_pow_right (by omega) (by omega)
    have hw : wrap64 (2 ^ B.toNat) = ((2 ^ B.toNat : Nat) : Int) := by
      rw [show ((2 : Int) ^ B.toNat) = ((2 ^ B.toNat : Nat) : Int) by push_cast; rfl]
      generalize 2 ^ B.toNat = q at hm
      unfold wrap64
      omega
    rw [hw]
    exact xor_ne x B.toNat (by omega) (by omega)
  generalize hZ : bits BinOp.xor IntKind.i64 X (wrap64 (2 ^ B.toNat)) = Z at *
  have HNE := Lib.hid hne; clear hne hZ
  by_cases hg : gB Z = true
  · have hd : gF Z ≠ F ∨ (gF Z = F ∧ gP Z ≠ 1 + I) := by
      by_cases h1 : gF Z = F
      · refine .inr ⟨h1, fun h2 => HNE.out ?_⟩
        rw [← (e_of Z hg).1, h1, h2, HN.out]
      · exact .inl h1
    refine (eget_is Z (gF Z) (gP Z) 0 _ rfl rfl (by rw [hg]; rfl)).mono ?_
    rintro e we ⟨rfl, b6⟩
    generalize hZF : gF Z = F' at *
    generalize hZP : gP Z = P' at *
    have t6 := (td.below b6 td.lt).alloc (.cells #[.int .i64 F', .int .i64 P'] 23)
    have u6 := (ud.below b6 ud.lt).alloc (.cells #[.int .i64 F', .int .i64 P'] 23)
    have v6 := Blk.new we 23 [.int .i64 F', .int .i64 P']
    have b7 := (Below.down be b6 be.size).alloc (Below.down be b6 be.size).size (.cells #[.int .i64 F', .int .i64 P'] 23)
    obtain ⟨t0, t1, _, _⟩ := two_at t6
    obtain ⟨u0, u1, _, _⟩ := two_at u6
    obtain ⟨v0, v1, _, _⟩ := two_at v6
    clear td ud t6 u6 v6 be b6 HN HNE HZ0 HZ1 HZ2 hZF hZP hg
    rcases hd with hd | ⟨rfl, hd⟩
    all_goals
      go_wp2_with (go_at_call 12; refine (num_any _ _).mono ?_; rintro e w' ⟨rfl, rfl⟩)
      go_ret
      exact ⟨rfl, b7⟩
  · have hg' : gB Z = false := by simpa using hg
    refine (eget_is Z 0 0 400 _ (gF_no Z hg') (gP_no Z hg') (by rw [hg']; rfl)).mono ?_
    rintro e we ⟨rfl, b6⟩
    have t6 := (td.below b6 td.lt).alloc (.cells #[.int .i64 0, .int .i64 0] 23)
    have u6 := (ud.below b6 ud.lt).alloc (.cells #[.int .i64 0, .int .i64 0] 23)
    have b7 := (Below.down be b6 be.size).alloc (Below.down be b6 be.size).size (.cells #[.int .i64 0, .int .i64 0] 23)
    obtain ⟨t0, t1, _, _⟩ := two_at t6
    obtain ⟨u0, u1, _, _⟩ := two_at u6
    clear td ud t6 u6 be b6 HN HNE HZ0 HZ1 HZ2 hg hg'
    go_wp2_with (go_at_call 12; refine (num_any _ _).mono ?_; rintro e w' ⟨rfl, rfl⟩)
    go_ret
    exact ⟨rfl, b7⟩

end Go.Proofs.Ythfcmhghjkmjbaa
