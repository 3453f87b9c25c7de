/-
  Layer 5's law WalkFinds: it answers true for every input.
-/
import Derived.Test.YtfddmfdfimaddaaWalkAwake
import Derived.Test.YtfddmfdfimaddaaFinds0
import Derived.StillTailTactics
namespace Go.Proofs.Ytfddmfdfimaddaa
open Go.RowKit
set_option linter.unusedVariables false

theorem reput_is (f p n c : Int) (w : World) (hn : eN f p = n) (hc : e4 (eB f p) = c) :
    Calls Try.prog 14 #[.agg #[.int .i64 f, .int .i64 p]] w fun e w' => e = .returned (.tuple #[.int .i64 n, .int .i64 c]) ∧ Below w.heap.size w w' := by
  subst hn hc; exact reput_any f p w

/-- The cells of a new table: kept closed to the walk. -/
def zWant : Array Value := (ints noWant).toArray
theorem zWant_ne : ¬ (zWant = #[]) := by simp [zWant, noWant, ints]
theorem zWant_run (w : World) : Sem.run Try.prog (zeroValue 47) w = .ok (.agg zWant) w := by
  have hi : (Try.prog.info? 47).map (fun i => i.zero) = some (some (.agg zWant)) := by kernel_rfl
  cases h : Try.prog.info? 47 with
  | none => rw [h] at hi; cases hi
  | some i =>
    rw [h] at hi
    simp only [Option.map_some, Option.some.injEq] at hi
    simp [zeroValue, typeInfo, h, hi]

/-- The program's memory and the law's own table say the same. -/
def Finds (h g : Nat) (w wq : World) : Prop := ∃ q a : List Int, Fnd q a ∧ Blk wq h 47 (ints a) ∧ PM wq g (wds q) ∧ Below w.heap.size w wq

set_option maxRecDepth 100000 in
set_option maxHeartbeats 4000000 in
theorem law_WalkFinds (v : Value) (n : Nat) (zs : List Int) (x : Int) (w : World) (hv : Sl w v n 1 (ints zs)) (hn : n ≤ maxLen) (hl : zs.length = n) :
    Calls Try.prog 4 #[v, .int .i64 x] w fun e w' => e = .returned (.bool true) ∧ Below w.heap.size w w' := by
  obtain ⟨A, cap, rfl, hcap, hzl, hA⟩ := hv
  unfold maxLen at hn
  have hJ := band x 127 (by omega) (by omega)
  generalize hJ' : bits BinOp.and IntKind.i64 x 127 = J at hJ
  obtain ⟨hJ0, hJ1⟩ := hJ
  have HA := Lib.hid hA; have HL := Lib.hid hl; clear hA hl hzl
  go_enter Try.func4, Try.ntmps4
  go_wp2_with fail
  refine (wawake_any _).mono ?_
  rintro e wa ⟨rfl, ba⟩
  have hsa := ba.size
  go_wp2_with fail
  refine (new_yes 8 _ (by omega) (by omega)).mono ?_
  rintro e w1 ⟨rfl, t1, b1⟩
  have b1' := Below.down ba b1 hsa
  have hs1' := b1'.size
  have hs1 := b1.size
  generalize hg : wa.heap.size = g at *
  have hgw : w.heap.size ≤ g := by omega
  have HG := Lib.hid hg; clear hg b1 ba
  have t1 : PM w1 g (zeros 512) := t1
  rw [root0] at t1
  go_wp2_with fail
  refine (num_any _ _).mono ?_
  rintro e w' ⟨rfl, rfl⟩
  go_wp2_with fail
  go_loopw [7] (fun i wq => ∃ (k : Nat), k ≤ 4 ∧ i = .int .i64 k ∧ PM wq g (wds (rootK k)) ∧ Below w.heap.size w wq) (fun i _ => 4 - (intOf i).toNat)
  case atStart => exact ⟨0, by omega, rfl, t1, b1'⟩
  case round =>
    clear t1 b1'
    obtain ⟨k, hk, rfl, ht, hb⟩ := hrel
    by_cases hlt : k < 4
    · have hk0 : (0 : Int) ≤ k := by omega
      have hk4 : (k : Int) < 4 := by omega
      go_wp2_with fail
      have hen := eN_yes (1 + (k : Int)) 3 (by omega) (by omega) (by omega) (by omega)
      have hpw := wds_pw (rootK k) k (1 + 2 * 3 + 4096 * (1 + (k : Int))) (by rw [rootK_len]; omega) (by omega) (by omega)
      have hks : (rootK k).set k (1 + 2 * 3 + 4096 * (1 + (k : Int))) = rootK (k + 1) := rfl
      rw [hks] at hpw
      generalize 1 + 2 * 3 + 4096 * (1 + (k : Int)) = N at hen hpw
      have HP := Lib.hid hpw; have HE := Lib.hid hen
      clear hpw hks hen
      refine (reput_is (1 + (k : Int)) 3 N 0 _ HE.out (by rw [eB_yes _ _ (by omega) (by omega) (by omega) (by omega)]; rfl)).mono ?_
      rintro e w2 ⟨rfl, b2⟩
      have t2 := ht.below b2 ht.lt
      have b2' := Below.down hb b2 hb.size
      clear ht hb b2
      go_wp2_with fail
      refine (pputword_is g (wds (rootK k)) (wds (rootK (k + 1))) (4 * (k : Int)) N 0 _ t2 HP.out.1 HP.out.2).mono ?_
      rintro e w3 ⟨rfl, t3, g3⟩
      have b3 := bone b2' g3 b2'.size hgw
      clear t2 b2' g3
      go_wp2_with fail
      refine (num_any _ _).mono ?_
      rintro e w' ⟨rfl, rfl⟩
      go_wp2_with fail
      go_roundw
      case rel => exact ⟨k + 1, by omega, by go_num, t3, b3⟩
      case measure => simp [intOf]; omega
    · obtain rfl : k = 4 := by omega
      have hz := zWant_run
      have hne := zWant_ne
      go_wp2_with fail
      clear hz hne
      have hs := hb.size
      have hh : Blk (wr.alloc (.cells zWant 47)) wr.heap.size 47 (ints noWant) := Blk.new _ _ _
      have t2 := ht.alloc (.cells zWant 47)
      have b2 := hb.alloc hs (.cells zWant 47)
      have hgl := ht.lt
      generalize wr.alloc (.cells zWant 47) = w2 at *
      generalize hh' : wr.heap.size = h at *
      have HH := Lib.hid hh'; clear hh' ht hb
      have hgh : g ≠ h := by omega
      have hwh : w.heap.size ≤ h := by omega
      rw [show ((4 : Nat) : Int) = 4 from rfl]
      go_loopw [12] (fun i wq => ∃ (k : Nat), k ≤ n ∧ k ≤ 30 ∧ i = .int .i64 k ∧ Finds h g w wq) (fun i _ => n - (intOf i).toNat)
      case atStart => exact ⟨0, by omega, by omega, rfl, _, _, fnd_root, hh, t2, b2⟩
      case round =>
        clear hh t2 b2
        obtain ⟨k, hk, hk30, rfl, q, a, hf, hh, ht, hb⟩ := hrel
        by_cases hgo : k < n ∧ k < 30
        · obtain ⟨hkn, hk30⟩ := hgo
          obtain ⟨b, o, rfl, hblt, hcell⟩ := HA.out (by omega)
          have c0 := (hb.cell (p := ⟨b, o + k, none⟩) hblt).trans (hcell _ _ (ints_get zs k (by rw [HL.out]; exact hkn)))
          clear hcell
          generalize zs.getD k 0 = Z at c0
          have hK := band Z 63 (by omega) (by omega)
          generalize hK' : bits BinOp.and IntKind.i64 Z 63 = K at hK
          obtain ⟨hK0, hK1⟩ := hK
          obtain ⟨K, rfl⟩ := Int.eq_ofNat_of_zero_le hK0
          have hF := band (Z / 64) 7 (by omega) (by omega)
          generalize hF' : bits BinOp.and IntKind.i64 (Z / 64) 7 = F at hF
          obtain ⟨hF0, hF1⟩ := hF
          have hP := band (Z / 512) 3 (by omega) (by omega)
          generalize hP' : bits BinOp.and IntKind.i64 (Z / 512) 3 = Q at hP
          obtain ⟨hP0, hP1⟩ := hP
          have i1 : (0 : Int) ≤ k := by omega
          have i2 : (k : Int) < n := by omega
          have i3 : (k : Int) < 30 := by omega
          have hKn : K < 64 := by omega
          have i4 : (K : Int) < 64 := by omega
          have hc0 := hh.int (k := K * 2) (by rw [hf.al]; omega)
          have hc1 := hh.int (k := K * 2 + 1) (by rw [hf.al]; omega)
          generalize a.getD (K * 2) 0 = u0 at hc0
          generalize a.getD (K * 2 + 1) 0 = u1 at hc1
          have hf0 := hh.frozen (K * 2)
          have hf1 := hh.frozen (K * 2 + 1)
          go_wp2_with fail
          go_still_tail 17, (by kernel_rfl)
          change wpList _ _ _ _ _ wr.drew
          replace c0 : wr.drew.cell? ⟨b, o + k, none⟩ = some (.int .i64 Z) := c0
          replace hc0 : wr.drew.cell? ⟨h, K * 2, none⟩ = some (.int .i64 u0) := hc0
          replace hc1 : wr.drew.cell? ⟨h, K * 2 + 1, none⟩ = some (.int .i64 u1) := hc1
          replace hf0 : wr.drew.frozen? ⟨h, K * 2, none⟩ = false := hf0
          replace hf1 : wr.drew.frozen? ⟨h, K * 2 + 1, none⟩ = false := hf1
          replace hh := hh.drewN 1
          replace ht := ht.drewN 1
          replace hb := bdrewN hb 1
          change Blk wr.drew _ _ _ at hh
          change PM wr.drew _ _ at ht
          change Below _ _ wr.drew at hb
          generalize wr.drew = wd at *
          have hP3 : 0 ≤ 1 + Q % 3 ∧ 1 ≤ 1 + Q % 3 ∧ 1 + Q % 3 ≤ 3 := by omega
          go_wp2_with fail
          generalize 1 + Q % 3 = P at *
          obtain ⟨_, hP1', hP3'⟩ := hP3
          have hh2 := (hh.setInt (K * 2) F).setInt (K * 2 + 1) P
          have t2 := (ht.far (p := ⟨h, K * 2, none⟩) hgh (.int .i64 F)).far (p := ⟨h, K * 2 + 1, none⟩) hgh (.int .i64 P)
          have b2 := (hb.setCell (p := ⟨h, K * 2, none⟩) hwh (.int .i64 F)).setCell (p := ⟨h, K * 2 + 1, none⟩) hwh (.int .i64 P)
          have HFN := Lib.hid (hf.put K F P hKn hF0 (by omega) hP1' hP3')
          have HPW := Lib.hid (wds_pw q (16 + K) (1 + 2 * P + 4096 * F) (by rw [hf.ql]; omega) (by omega) (by omega))
          have HEN := Lib.hid (eN_yes F P hP1' hP3' hF0 (by omega))
          have hat : (1 + (K : Int) / 16) * 64 + 4 * ((K : Int) % 16) = 4 * ((16 + K : Nat) : Int) := by omega
          have HAT := Lib.hid hat
          clear hh ht hb hat c0 hf
          generalize 1 + 2 * P + 4096 * F = N at HFN HPW HEN
          generalize (wd.setCell ⟨h, K * 2, none⟩ (.int .i64 F)).setCell ⟨h, K * 2 + 1, none⟩ (.int .i64 P) = w3 at *
          clear hc0 hc1 hf0 hf1
          refine (reput_is F P N 0 _ HEN.out (by rw [eB_yes _ _ hP1' hP3' hF0 (by omega)]; rfl)).mono ?_
          rintro e w4 ⟨rfl, b4⟩
          have hh4 := hh2.below b4 hh2.lt
          have t4 := t2.below b4 t2.lt
          have b4' := Below.down b2 b4 b2.size
          clear hh2 t2 b2 b4
          go_wp2_with fail
          rw [HAT.out]
          refine (pputword_is g (wds q) (wds (q.set (16 + K) N)) _ N 0 _ t4 HPW.out.1 HPW.out.2).mono ?_
          rintro e w5 ⟨rfl, t5, g5⟩
          have hh5 := hh4.grown g5 (by intro e; injection e with e; omega)
          have b5 := bone b4' g5 b4'.size hgw
          clear hh4 t4 b4' g5
          go_wp2_with fail
          refine (num_any _ _).mono ?_
          rintro e w' ⟨rfl, rfl⟩
          go_wp2_with fail
          go_roundw
          case rel => exact ⟨k + 1, by omega, by omega, by go_num, _, _, HFN.out, hh5, t5, b5⟩
          case measure => simp [intOf]; omega
        · have hx : (k : Int) ≥ n ∨ ((k : Int) < n ∧ decide ((k : Int) < 30) = false) := by
            by_cases h1 : k < n
            · exact .inr ⟨by omega, by simp; omega⟩
            · exact .inl (by omega)
          have HW := Lib.hid hf
          clear hgo hf
          rcases hx with hx | ⟨hx, hx2⟩
          all_goals
            go_wp2_with fail
            go_loopw [17] (fun i wq => ∃ (j : Nat), j ≤ 64 ∧ i = .int .i64 j ∧ Blk wq h 47 (ints a) ∧ PM wq g (wds q) ∧ Below w.heap.size w wq) (fun i _ => 64 - (intOf i).toNat)
            case atStart => exact ⟨0, by omega, rfl, hh, ht, hb⟩
            case round =>
              clear hh ht hb
              obtain ⟨j, hj, rfl, hh, ht, hb⟩ := hrel
              by_cases hj64 : j < 64
              · have j0 : (0 : Int) ≤ j := by omega
                have j1 : (j : Int) < 64 := by omega
                have hw := HW.out.walk j hj64
                generalize hfe : a.getD (j * 2) 0 = f at hw
                generalize hpe : a.getD (j * 2 + 1) 0 = p at hw
                have HFE := Lib.hid hfe; have HPE := Lib.hid hpe; clear hfe hpe
                obtain ⟨hw1, hw2, hw3, hp0, hp3⟩ := hw
                have hlt := hh.lt
                by_cases hz : p = 0
                · subst hz
                  rw [if_pos rfl] at hw3
                  have HWW := Lib.hid (And.intro hw1 (And.intro hw2 hw3)); clear hw1 hw2 hw3 hp0 hp3
                  go_wp2_with fail
                  refine (walk_is g (wds q) 0 j f 0 501 _ ht HWW.out.1 HWW.out.2.1 HWW.out.2.2).mono ?_
                  rintro e w6 ⟨rfl, b6⟩
                  have hh6 := (hh.below b6 hh.lt).alloc (.cells #[.int .i64 f, .int .i64 0] 29)
                  have t6 := (ht.below b6 ht.lt).alloc (.cells #[.int .i64 f, .int .i64 0] 29)
                  have b6' := (Below.down hb b6 hb.size).alloc (Below.down hb b6 hb.size).size (.cells #[.int .i64 f, .int .i64 0] 29)
                  obtain ⟨e0, e1, _, _⟩ := two_at (Blk.new w6 29 [.int .i64 f, .int .i64 0])
                  clear hh ht hb b6
                  go_wp2_with fail
                  generalize w6.alloc (.cells #[.int .i64 f, .int .i64 0] 29) = w7 at *
                  generalize w6.heap.size = g6 at *
                  have d0 := hh6.int (k := j * 2) (by rw [HW.out.al]; omega)
                  have d1 := hh6.int (k := j * 2 + 1) (by rw [HW.out.al]; omega)
                  rw [HFE.out] at d0
                  rw [HPE.out] at d1
                  go_quiet ((go_at_call 11; first | exact quiet_ (fun W => num_any 501 W) | exact quiet_a (fun W => num_any 501 W)))
                  replace hh6 := hh6.drewN nq
                  replace t6 := t6.drewN nq
                  replace b6' := bdrewN b6' nq
                  clear d0 d1 e0 e1
                  generalize w7.drewN nq = w8 at *
                  go_wp2_with fail
                  go_roundw
                  case rel => exact ⟨j + 1, by omega, by go_num, hh6, t6, b6'⟩
                  case measure => simp [intOf]; omega
                · rw [if_neg hz] at hw3
                  have HWW := Lib.hid (And.intro hw1 (And.intro hw2 hw3)); clear hw1 hw2 hw3 hp0 hp3
                  have hz1 : (p == 0) = false := by simpa using hz
                  have hz2 : (p != 0) = true := by simpa using hz
                  clear hz
                  go_wp2_with fail
                  refine (walk_is g (wds q) 0 j f p 0 _ ht HWW.out.1 HWW.out.2.1 HWW.out.2.2).mono ?_
                  rintro e w6 ⟨rfl, b6⟩
                  have hh6 := (hh.below b6 hh.lt).alloc (.cells #[.int .i64 f, .int .i64 p] 29)
                  have t6 := (ht.below b6 ht.lt).alloc (.cells #[.int .i64 f, .int .i64 p] 29)
                  have b6' := (Below.down hb b6 hb.size).alloc (Below.down hb b6 hb.size).size (.cells #[.int .i64 f, .int .i64 p] 29)
                  obtain ⟨e0, e1, _, _⟩ := two_at (Blk.new w6 29 [.int .i64 f, .int .i64 p])
                  clear hh ht hb b6
                  go_wp2_with fail
                  generalize w6.alloc (.cells #[.int .i64 f, .int .i64 p] 29) = w7 at *
                  generalize w6.heap.size = g6 at *
                  have d0 := hh6.int (k := j * 2) (by rw [HW.out.al]; omega)
                  have d1 := hh6.int (k := j * 2 + 1) (by rw [HW.out.al]; omega)
                  rw [HFE.out] at d0
                  rw [HPE.out] at d1
                  go_quiet ((go_at_call 11; first | exact quiet_ (fun W => num_any 0 W) | exact quiet_a (fun W => num_any 0 W)))
                  replace hh6 := hh6.drewN nq
                  replace t6 := t6.drewN nq
                  replace b6' := bdrewN b6' nq
                  clear d0 d1 e0 e1
                  generalize w7.drewN nq = w8 at *
                  go_wp2_with fail
                  go_roundw
                  case rel => exact ⟨j + 1, by omega, by go_num, hh6, t6, b6'⟩
                  case measure => simp [intOf]; omega
              · obtain rfl : j = 64 := by omega
                have hw := HW.out.far (64 + J) (by omega) (by omega)
                have HWW := Lib.hid hw; clear hw
                go_wp2_with fail
                refine (walk_is g (wds q) 0 (64 + J) 0 0 501 _ ht HWW.out.1 HWW.out.2.1 HWW.out.2.2).mono ?_
                rintro e w6 ⟨rfl, b6⟩
                have b6' := (Below.down hb b6 hb.size).alloc (Below.down hb b6 hb.size).size (.cells #[.int .i64 0, .int .i64 0] 29)
                clear hh ht hb b6
                go_wp2_with fail
                refine (num_any _ _).mono ?_
                rintro e w' ⟨rfl, rfl⟩
                go_wp2_with fail
                go_ret
                exact ⟨rfl, b6'⟩

end Go.Proofs.Ytfddmfdfimaddaa
