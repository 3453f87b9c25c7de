/-
  Layer 2's law Owners: it answers true for every input.
-/
import Derived.Test.YtcplbjidilddiaaOwnLast
import Derived.StillTailTactics
namespace Go.Proofs.Ytcplbjidilddiaa
open Go.RowKit
set_option linter.unusedVariables false

theorem num_still (n : Int) (w : World) : Calls Try.prog 9 #[.int .i64 n] w fun e w' => e = .returned (.int .i64 n) ∧ w' = w := (num_any n w).mono fun _ _ ⟨he, hw⟩ => ⟨he, hw.symm⟩

theorem tab_own {w : World} {g : Nat} {l : List Int} {B n : Nat} {v : Value} {xs : List Value} (h : Tab w g l) (ho : w.ownsRow B 3 1 v n xs) : v.ownBlock ≠ some g := by
  obtain ⟨_, _, _, hh⟩ := h
  exact own_apart_blk ho hh (by decide)

/-- Both tables say the same. -/
def Both (g r : Nat) (c : Nat) (w wq : World) : Prop := ∃ (l : List Int) (v : Value) (B : Nat), Hid (l.length = c) ∧ Hid (∀ x ∈ l, -2 ≤ x ∧ x ≤ 3) ∧ Tab wq g l ∧ RTab wq B r v l ∧ w.heap.size ≤ B ∧ Below w.heap.size w wq

set_option maxRecDepth 100000 in
set_option maxHeartbeats 2000000 in
theorem owners_no (c : Int) (v : Value) (w : World) (hc : ¬ (1 ≤ c ∧ c ≤ 64)) :
    Calls Try.prog 3 #[.int .i64 c, v] w fun e w' => e = .returned (.bool true) ∧ Below w.heap.size w w' := by
  have HC := Lib.hid hc; clear hc
  go_enter Try.func3, Try.ntmps3
  go_wp2_with fail
  refine (new_no _ _ HC.out).mono ?_
  rintro e w' ⟨rfl, rfl⟩
  go_wp2_with fail
  refine (rnew_no _ _ HC.out).mono ?_
  rintro e w' ⟨rfl, rfl⟩
  go_wp2_with fail
  refine (num_any _ _).mono ?_
  rintro e w' ⟨rfl, rfl⟩
  go_wp2_with fail
  refine (awake_any _).mono ?_
  rintro e wa ⟨rfl, ba⟩
  go_wp2_with fail
  go_ret
  exact ⟨rfl, ba⟩

set_option maxRecDepth 100000 in
set_option maxHeartbeats 2000000 in
theorem owners_yes (c : Int) (v : Value) (n : Nat) (zs : List Int) (w : World) (hv : Sl w v n 2 (ints zs)) (hn : n ≤ maxLen) (h1 : 1 ≤ c) (h2 : c ≤ 64) :
    Calls Try.prog 3 #[.int .i64 c, v] w fun e w' => e = .returned (.bool true) ∧ Below w.heap.size w w' := by
  obtain ⟨A, cap, rfl⟩ : ∃ A cap, v = .slice A n cap := by obtain ⟨A, c, e, _⟩ := hv; exact ⟨A, c, e⟩
  unfold maxLen at hn
  have HV := Lib.hid hv; clear hv
  obtain ⟨c, rfl⟩ := Int.eq_ofNat_of_zero_le (show 0 ≤ c by omega)
  go_enter Try.func3, Try.ntmps3
  go_wp2_with fail
  refine (pnew _ _ (by omega) (by omega)).mono ?_
  rintro e w1 ⟨rfl, t1, b1⟩
  rw [Int.toNat_natCast] at t1
  have hs1 := b1.size
  have hgl := t1.lt
  go_wp2_with fail
  refine (rnew _ _ (by omega) (by omega)).mono ?_
  rintro e w2 ⟨rfl, ⟨rv, r2⟩, b2⟩
  rw [Int.toNat_natCast] at r2
  have t2 := t1.below b2 hgl
  have b2' := Below.down b1 b2 hs1
  have hfl := free_len c
  have hfr := free_range c
  generalize free c = q at *
  generalize hg : w.heap.size = g at *
  have hgw : g ≤ w.heap.size := by omega
  have hwg : w.heap.size ≤ g := by omega
  generalize hr : w1.heap.size = r at *
  have hwr : w.heap.size ≤ r := by omega
  have hgr : g ≠ r := by omega
  have HG := Lib.hid hg; clear hg
  have HR := Lib.hid hr; clear hr
  have HFL := Lib.hid hfl; have HFR := Lib.hid hfr; clear hfl hfr t1 b1
  go_wp2_with (go_at_call 9; refine (num_any _ _).mono ?_; rintro e w' ⟨rfl, rfl⟩)
  go_loopw [9] (fun i wq => ∃ (k : Nat), k ≤ n ∧ i = .int .i64 k ∧ Both g r c w wq) (fun i _ => n - (intOf i).toNat)
  case atStart => exact ⟨0, by omega, rfl, q, rv, r, HFL, HFR, t2, r2, hwr, by rw [HG.out]; exact b2'⟩
  case round =>
    clear t2 r2 b2' HFL HFR hs1 hgl
    obtain ⟨k, hk, rfl, l, rv, B, HFL, HFR, ht, hr, hB, hbel⟩ := hrel
    by_cases hgo : k < n ∧ k < 60
    · obtain ⟨hkn, hk60⟩ := hgo
      have hd : decide ((k : Int) < 60) = true := by simp; omega
      obtain ⟨b, o, rfl, hblt, c0, c1⟩ := rec2 HV.out k hkn
      replace c0 := (hbel.cell (p := ⟨b, o + k * 2, none⟩) hblt).trans c0
      replace c1 := (hbel.cell (p := ⟨b, o + k * 2 + 1, none⟩) hblt).trans c1
      generalize zs.getD (k * 2) 0 = F at c0
      generalize zs.getD (k * 2 + 1) 0 = O at c1
      go_wp2_with fail
      go_still_tail 11, (by kernel_rfl)
      change wpList _ _ _ _ _ wr.drew
      have ht1 : Tab wr.drew g l := ht
      have hr1 : RTab wr.drew B r rv l := hr.drewN 1
      have bel1 : Below w.heap.size w wr.drew := hbel.drew
      have d0 : wr.drew.cell? ⟨b, o + k * 2, none⟩ = some (.int .i64 F) := c0
      have d1 : wr.drew.cell? ⟨b, o + k * 2 + 1, none⟩ = some (.int .i64 O) := c1
      clear ht hr hbel c0 c1
      generalize wr.drew = wd at *
      go_wp2_with fail
      refine (pset_any g l _ _ _ ht1).mono ?_
      rintro e w3 ⟨rfl, t3, g3⟩
      have r3 := hr1.grown g3 (by intro e; injection e with e; exact hgr e.symm) (.inr (tab_own ht1 hr1.own))
      have bel3 := bone bel1 g3 bel1.size hwg
      have e0 : w3.cell? ⟨b, o + k * 2, none⟩ = some (.int .i64 F) := (World.cell?_of_block (g3.block b (Nat.lt_of_lt_of_le hblt bel1.size) (by intro e; injection e with e; omega))).trans d0
      have e1 : w3.cell? ⟨b, o + k * 2 + 1, none⟩ = some (.int .i64 O) := (World.cell?_of_block (g3.block b (Nat.lt_of_lt_of_le hblt bel1.size) (by intro e; injection e with e; omega))).trans d1
      clear ht1 hr1 bel1 d0 d1 g3
      have hl3 : (setL l F O).length = c := by rw [setL_len, HFL.out]
      have hr3 := setL_range l F O HFR.out
      generalize hL : setL l F O = l3 at *
      generalize hC : setC l.length F O = C
      have HC := Lib.hid hC; have HL := Lib.hid hL; have H3 := Lib.hid hl3; have HR3 := Lib.hid hr3
      clear hC hL hl3 hr3
      go_wp2_with fail
      refine (pof_any g l3 _ _ t3).mono ?_
      rintro e w' ⟨rfl, rfl⟩
      generalize hx : ofN l3 F = x
      generalize hy : ofC l3.length F = y
      have HX := Lib.hid hx; have HY := Lib.hid hy; clear hx hy
      go_wp2_with fail
      go_still_tail 13, (by kernel_rfl)
      still_call (num_still _ _)
      repeat still_step
      refine wpStill_nil ?_
      change wpList _ _ _ _ _ w3.drew
      have t4 : Tab w3.drew g l3 := t3
      have r4 : RTab w3.drew B r rv l := r3.drewN 1
      have bel4 : Below w.heap.size w w3.drew := bel3.drew
      have f0 : w3.drew.cell? ⟨b, o + k * 2, none⟩ = some (.int .i64 F) := e0
      have f1 : w3.drew.cell? ⟨b, o + k * 2 + 1, none⟩ = some (.int .i64 O) := e1
      clear t3 r3 bel3 e0 e1
      generalize w3.drew = w4 at *
      go_wp2_with fail
      refine (rset_any B r rv l _ _ _ r4).mono ?_
      rw [HL.out, HC.out]
      rintro e w5 ⟨rfl, r5, g5⟩
      have t5 := t4.grown g5 (fun e => tab_own t4 r4.own e.symm)
      have rlt := r4.own.lt
      have bel5 := gbelow bel4 g5 bel4.size (fun i hi => Nat.le_trans hB (rlt i hi).1)
      have f0 : w5.cell? ⟨b, o + k * 2, none⟩ = some (.int .i64 F) := (World.cell?_of_block (g5.block b (Nat.lt_of_lt_of_le hblt bel4.size) (by intro e; have := (rlt b e.symm).1; omega))).trans f0
      clear t4 r4 bel4 f1 g5 rlt
      go_wp2_with fail
      refine (rof_any B r rv l3 _ _ r5).mono ?_
      rw [HX.out, HY.out]
      rintro e w' ⟨rfl, rfl⟩
      clear f0
      go_wp2_with (go_at_call 9; refine (num_any _ _).mono ?_; rintro e w' ⟨rfl, rfl⟩)
      go_loopw [15, 16] (fun s i wq => ∃ (m : Nat), m ≤ 6 ∧ i = .int .i64 (-2 + m) ∧ s = .int .i64 (manyTo l3 (-2) m) ∧ Tab wq g l3 ∧ RTab wq B r rv l3 ∧ Below w.heap.size w wq) (fun _ i _ => (4 - intOf i).toNat)
      case atStart => exact ⟨0, by omega, rfl, rfl, t5, r5, bel5⟩
      case round =>
        clear t5 r5 bel5
        obtain ⟨m, hm, rfl, rfl, ht, hr, hbel⟩ := hrel
        by_cases hm6 : m < 6
        · have hol := ownL_len l3 (-2 + (m : Int))
          rw [H3.out] at hol
          have hml := many_le l3 (-2) m
          rw [H3.out] at hml
          replace hml : manyTo l3 (-2) m ≤ 384 := Nat.le_trans hml (Nat.mul_le_mul (show m ≤ 6 by omega) (show c ≤ 64 by omega))
          have hms : Hid (manyTo l3 (-2) (m + 1) = manyTo l3 (-2) m + (ownL l3 (-2 + (m : Int))).length) := Lib.hid rfl
          generalize hM : manyTo l3 (-2) m = M at hml hms
          clear hM
          go_wp2_with fail
          refine (all_any g l3 _ _ ht).mono ?_
          rintro e w6 ⟨v3, rfl, o3, b3⟩
          go_wp2_with fail
          refine (row_any B r rv l3 _ _ (hr.below b3)).mono ?_
          rintro e w7 ⟨v4, rfl, o4, b4⟩
          have s3 := (Sl.own o3).below b4
          have s4 := Sl.own o4
          have ht7 := (ht.below b3 ht.lt).below b4 (Nat.lt_of_lt_of_le ht.lt b3.size)
          have hr7 := (hr.below b3).below b4
          have bel7 := Below.down (Below.down hbel b3 hbel.size) b4 (Nat.le_trans hbel.size b3.size)
          have o37 := own_below o3 b4
          have htl := ht.lt
          have hrl := hr.blk.lt
          have hvl := hr.own.lt
          have hwl := hbel.size
          obtain ⟨A3, c3, hv3, _⟩ := s3
          subst hv3
          have s3 := (Sl.own o3).below b4
          clear ht hr hbel o3 o4 b3 b4
          generalize ownL l3 (-2 + (m : Int)) = L at *
          go_wp2_with fail
          refine (same_ints _ _ L _ s3 s4 (by omega)).mono ?_
          rintro e w' ⟨rfl, nq, rfl⟩
          clear s3 s4
          replace ht7 := ht7.drewN nq
          replace hr7 := hr7.drewN nq
          replace bel7 := bdrewN bel7 nq
          replace o37 := own_drewN o37 nq
          generalize w7.drewN nq = w8 at *
          go_wp2_with fail
          refine (spoil_ints _ _ _ _ _ o37 (AllInts.ints L) (by omega)).mono ?_
          rintro e w9 ⟨rfl, g9⟩
          have olt : ∀ i, (Value.slice A3 L.length c3).ownBlock = some i → wr.heap.size ≤ i := fun i hi => (o37.lt i hi).1
          have ht9 := ht7.grown g9 (fun e => by have := olt g e.symm; omega)
          have hr9 := hr7.grown g9 (fun e => by have := olt r e.symm; omega) (by
            cases hh : rv.ownBlock with
            | none => exact .inl rfl
            | some i => exact .inr fun e => by have h1 := olt i e.symm; have h2 := (hvl i hh).2; omega)
          have bel9 := gbelow bel7 g9 bel7.size (fun i hi => by have := olt i hi; omega)
          clear ht7 hr7 bel7 o37 g9 olt hvl
          go_wp2_with fail
          go_roundw
          case rel => exact ⟨m + 1, by omega, by go_num, by rw [hms.out]; go_num, ht9, hr9, bel9⟩
          case measure => simp [intOf]; omega
        · obtain rfl : m = 6 := by omega
          rw [many_all l3 HR3.out, H3.out]
          go_wp2_with fail
          go_roundw
          case rel => exact ⟨k + 1, by omega, by go_num, l3, rv, B, H3, HR3, ht, hr, hB, hbel⟩
          case measure => simp [intOf]; omega
    · have hx : (k : Int) ≥ n ∨ ((k : Int) < n ∧ decide ((k : Int) < 60) = false) := by
        by_cases h1 : k < n
        · exact .inr ⟨by omega, by simp; omega⟩
        · exact .inl (by omega)
      clear hgo ht hr
      have hsz := hbel.size
      rcases hx with hx | ⟨hx, hx2⟩
      all_goals
        go_wp2_with fail
        refine (awake_any _).mono ?_
        rintro e wa ⟨rfl, ba⟩
        go_wp2_with fail
        go_ret
        exact ⟨rfl, Below.down hbel ba hsz⟩

theorem law_Owners (c : Int) (v : Value) (n : Nat) (zs : List Int) (w : World) (hv : Sl w v n 2 (ints zs)) (hn : n ≤ maxLen) :
    Calls Try.prog 3 #[.int .i64 c, v] w fun e w' => e = .returned (.bool true) ∧ Below w.heap.size w w' := by
  by_cases hc : 1 ≤ c ∧ c ≤ 64
  · exact owners_yes c v n zs w hv hn hc.1 hc.2
  · exact owners_no c v w hc

end Go.Proofs.Ytcplbjidilddiaa
