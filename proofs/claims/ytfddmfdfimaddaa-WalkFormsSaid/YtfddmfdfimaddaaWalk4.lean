/-
  Layer 5's laws: the contract of filled: two memories with the same words.
-/
import Derived.Test.YtfddmfdfimaddaaWalk3
namespace Go.Proofs.Ytfddmfdfimaddaa
open Go.RowKit
set_option linter.unusedVariables false

/-- Words put at places of a memory of M words. -/
def fillL (zs qs : List Int) (M : Nat) (l : List UInt8) : Nat → List UInt8
  | 0 => l
  | k + 1 => pwL (fillL zs qs M l k) ((IntKind.u64.wrap (zs.getD k 0) % (M : Int)) * 4) (qs.getD k 0)
theorem fillL_len (zs qs : List Int) (M : Nat) (l : List UInt8) (k : Nat) : (fillL zs qs M l k).length = l.length := by
  induction k with
  | zero => rfl
  | succ k ih => unfold fillL; rw [pwL_len, ih]

theorem filled_no (c : Int) (v1 v2 : Value) (w : World) (h : ¬ (1 ≤ c ∧ c ≤ 64)) :
    Calls Try.prog 7 #[.int .i64 c, v1, v2] w fun e w' => e = .returned (.tuple #[.pointer none, .pointer none]) ∧ w = w' := by
  have H := Lib.hid h; clear h
  go_enter Try.func7, Try.ntmps7
  go_wp2_with fail
  refine (new_no _ _ H.out).mono ?_
  rintro e w' ⟨rfl, rfl⟩
  go_wp2_with fail
  refine (rnew_no _ _ H.out).mono ?_
  rintro e w' ⟨rfl, rfl⟩
  go_wp2_with fail
  refine (num_any _ _).mono ?_
  rintro e w' ⟨rfl, rfl⟩
  go_wp2_with fail
  go_ret2
  exact ⟨rfl, rfl⟩

set_option maxRecDepth 100000 in
set_option maxHeartbeats 4000000 in
theorem filled_yes (c : Nat) (v1 v2 : Value) (n1 n2 : Nat) (zs qs : List Int) (w : World) (h1 : Sl w v1 n1 1 (ints zs)) (h2 : Sl w v2 n2 1 (ints qs)) (hn1 : n1 ≤ maxLen) (hn2 : n2 ≤ maxLen) (hl1 : zs.length = n1) (hl2 : qs.length = n2) (hc1 : 1 ≤ c) (hc2 : c ≤ 64) :
    Calls Try.prog 7 #[.int .i64 c, v1, v2] w fun e w' => ∃ g r b, e = .returned (.tuple #[.pointer (some ⟨g, 0, none⟩), .pointer (some ⟨r, 0, none⟩)]) ∧ w.heap.size ≤ g ∧ w.heap.size ≤ r ∧ w.heap.size ≤ b ∧
      PM w' g (fillL zs qs (16 * c) (zeros (64 * c)) (min n1 (min n2 40))) ∧ RM w' r b (fillL zs qs (16 * c) (zeros (64 * c)) (min n1 (min n2 40))) ∧ Below w.heap.size w w' := by
  obtain ⟨A, cap1, rfl, hcap1, hzl1, hA1⟩ := h1
  obtain ⟨B, cap2, rfl, hcap2, hzl2, hA2⟩ := h2
  unfold maxLen at hn1 hn2
  have HA1 := Lib.hid hA1; have HA2 := Lib.hid hA2; have HL1 := Lib.hid hl1; have HL2 := Lib.hid hl2
  clear hA1 hA2 hzl1 hzl2 hl1 hl2
  go_enter Try.func7, Try.ntmps7
  go_wp2_with fail
  refine (new_yes _ _ (by omega) (by omega)).mono ?_
  rintro e w1 ⟨rfl, t1, b1⟩
  rw [Int.toNat_natCast] at t1
  have hs1 := b1.size
  have hgl := t1.lt
  go_wp2_with fail
  refine (rnew_yes _ _ (by omega) (by omega)).mono ?_
  rintro e w2 ⟨rfl, r2, b2⟩
  rw [Int.toNat_natCast] at r2
  have t2 := t1.below b2 hgl
  have b2' := Below.down b1 b2 hs1
  have hzl := fillL_len zs qs (16 * c) (zeros (64 * c))
  have hz0 : fillL zs qs (16 * c) (zeros (64 * c)) 0 = zeros (64 * c) := rfl
  have hzs : ∀ k, fillL zs qs (16 * c) (zeros (64 * c)) (k + 1) = pwL (fillL zs qs (16 * c) (zeros (64 * c)) k) ((IntKind.u64.wrap (zs.getD k 0) % ((16 * c : Nat) : Int)) * 4) (qs.getD k 0) := fun k => rfl
  rw [zeros_len] at hzl
  generalize hfl : fillL zs qs (16 * c) (zeros (64 * c)) = L at *
  rw [← hz0] at t2 r2
  have HFL := Lib.hid hfl; clear hfl
  have HZS := Lib.hid hzs; have HZL := Lib.hid hzl
  generalize hg : w.heap.size = g at *
  have hgw : g ≤ w.heap.size := by omega
  have hwg : w.heap.size ≤ g := by omega
  generalize hb : w1.heap.size = b at *
  have hwb : w.heap.size ≤ b := by omega
  have hgb : g < b := by omega
  have HG := Lib.hid hg; clear hg hb hzl t1 b1 b2 hz0 hzs
  go_wp2_with fail
  refine (num_any _ _).mono ?_
  rintro e w' ⟨rfl, rfl⟩
  go_wp2_with fail
  go_loopw [12] (fun i wq => ∃ (k : Nat), k ≤ n1 ∧ k ≤ n2 ∧ k ≤ 40 ∧ i = .int .i64 k ∧ PM wq g (L k) ∧ RM wq (b + 1) b (L k) ∧ Below w.heap.size w wq) (fun i _ => n1 - (intOf i).toNat)
  case atStart => exact ⟨0, by omega, by omega, by omega, rfl, t2, r2, by rw [HG.out]; exact b2'⟩
  case round =>
    clear t2 r2 b2'
    obtain ⟨k, hk1, hk2, hk3, rfl, ht, hr, hbel⟩ := hrel
    by_cases hgo : k < n1 ∧ k < n2 ∧ k < 40
    · obtain ⟨hkn, hkm, hk40⟩ := hgo
      obtain ⟨ab, ao, rfl, hblt, hcell⟩ := HA1.out (by omega)
      obtain ⟨bb, bo, rfl, hblt2, hcell2⟩ := HA2.out (by omega)
      replace hblt : ab < w.heap.size := by rw [HG.out]; exact hblt
      replace hblt2 : bb < w.heap.size := by rw [HG.out]; exact hblt2
      have c0 := (hbel.cell (p := ⟨ab, ao + k, none⟩) hblt).trans (hcell _ _ (ints_get zs k (by rw [HL1.out]; exact hkn)))
      have c1 := (hbel.cell (p := ⟨bb, bo + k, none⟩) hblt2).trans (hcell2 _ _ (ints_get qs k (by rw [HL2.out]; exact hkm)))
      have hst := HZS.out k
      have hlen := HZL.out k
      clear hcell hcell2
      generalize zs.getD k 0 = Z at *
      generalize qs.getD k 0 = Q at *
      have hU := u64b Z
      generalize hU' : IntKind.u64.wrap Z = U at *
      have hrow := hr.row
      rw [hlen] at hrow
      have i1 : (k : Int) < n1 := by omega
      have i2 : (k : Int) < n2 := by omega
      have i3 : (k : Int) < 40 := by omega
      go_wp2_with fail
      go_quiet (fail)
      have hq : wrap64 (wrap64 (U % (64 * (c : Int) / 4)) * 4) = U % ((16 * c : Nat) : Int) * 4 := by
        rw [show 64 * (c : Int) / 4 = ((16 * c : Nat) : Int) by omega]
        have h0 : 0 ≤ U % ((16 * c : Nat) : Int) := Int.emod_nonneg _ (by omega)
        have h1 : U % ((16 * c : Nat) : Int) < ((16 * c : Nat) : Int) := Int.emod_lt_of_pos _ (by omega)
        generalize U % ((16 * c : Nat) : Int) = V at *
        unfold wrap64; omega
      rw [hq]
      generalize U % ((16 * c : Nat) : Int) * 4 = P at *
      replace c1 : (wr.drewN nq).cell? ⟨bb, bo + k, none⟩ = some (.int .i64 Q) := c1
      replace ht := ht.drewN nq
      replace hr := hr.drewN nq
      replace hbel := bdrewN hbel nq
      generalize wr.drewN nq = wx at *
      have HST := Lib.hid hst
      clear c0 hrow hq hU hU' hst hlen
      go_wp2_with fail
      refine (pputword_any g (L k) P Q _ ht).mono ?_
      rintro e w3 ⟨rfl, t3, g3⟩
      have r3 := hr.grown g3 (by intro e; injection e with e; omega) (by intro e; injection e with e; omega)
      have b3 := bone hbel g3 hbel.size (by omega)
      have c3 : w3.cell? ⟨bb, bo + k, none⟩ = some (.int .i64 Q) := (World.cell?_of_block (g3.block bb (Nat.lt_of_lt_of_le hblt2 hbel.size) (by intro e; injection e with e; omega))).trans c1
      rw [← HST.out] at t3
      clear ht hr hbel c1 g3
      go_wp2_with fail
      refine (rputword_any (b + 1) b (L k) P Q _ r3).mono ?_
      rw [← HST.out]
      rintro e w4 ⟨rfl, r4, g4⟩
      have t4 := t3.grown g4 (by intro e; injection e with e; omega)
      have b4 := bone b3 g4 b3.size hwb
      clear t3 r3 b3 c3 g4
      go_wp2_with fail
      go_roundw
      case rel => exact ⟨k + 1, by omega, by omega, by omega, by go_num, t4, r4, b4⟩
      case measure => simp [intOf]; omega
    · obtain hkk : k = min n1 (min n2 40) := by omega
      have hx : (k : Int) ≥ n1 ∨ ((k : Int) < n1 ∧ (k : Int) ≥ n2) ∨ ((k : Int) < n1 ∧ (k : Int) < n2 ∧ (k : Int) ≥ 40) := by omega
      have HK := Lib.hid hkk; clear hkk hgo
      rcases hx with hx | ⟨hx, hx2⟩ | ⟨hx, hx2, hx3⟩
      all_goals
        go_wp2_with fail
        go_ret2
        exact ⟨g, b + 1, b, rfl, hwg, by omega, hwb, by rw [HFL.out, ← HK.out]; exact ht, by rw [HFL.out, ← HK.out]; exact hr, hbel⟩

end Go.Proofs.Ytfddmfdfimaddaa
