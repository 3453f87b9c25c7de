/-
  Layer 14's law FileWalks: it answers true for every input.
-/
import Derived.Test.YtocjkanhciohmaaRgForms
import Derived.Test.YtocjkanhciohmaaSli
import Derived.IntWalk
import Derived.StillTailTactics
import Derived.Deep.DeepCutAuto
import Derived.Deep.CutBlock
namespace Go.Proofs.Ytocjkanhciohmaa
open Go.RowKit
set_option linter.unusedVariables false
set_option maxRecDepth 100000

theorem tmod_posG {t m : Int} (h0 : 0 ≤ t) (h1 : 1 ≤ m) (h2 : m ≤ 64) : IntKind.i64.wrap (t.tmod m) = t % m ∧ 0 ≤ t % m ∧ t % m < m ∧ t.tmod m = t % m := by
  have e : t.tmod m = t % m := Int.tmod_eq_emod_of_nonneg h0
  have a := Int.emod_nonneg t (show m ≠ 0 by omega)
  have b := Int.emod_lt_of_pos t (show 0 < m by omega)
  rw [e]
  exact ⟨IntWalk.i64_in _ (by omega), a, b, rfl⟩

/-- The law's table: kept closed to the walk. -/
def zW24 : Array Value := (itc noI 24).toArray
theorem zW24_ne : ¬ (zW24 = #[]) := by simp [zW24, itc]
theorem zW24_run (w : World) : Sem.run Try.prog (zeroValue 47) w = .ok (.agg zW24) w := by
  have hi : (Try.prog.info? 47).map (fun i => i.zero) = some (some (.agg zW24)) := by kernel_rfl
  cases h : Try.prog.info? 47 with
  | none => rw [h] at hi; cases hi
  | some i =>
    rw [h] at hi
    simp only [Option.map_some, Option.some.injEq] at hi
    simp [zeroValue, typeInfo, h, hi]
theorem w24_wipe {w : World} {c : Nat} {F : Nat → Int} (h : Blk w c 47 (itc F 24)) (i : Nat) (hi : i < 3) : ∃ w3, Sem.run Try.prog (storeCells ⟨c, i * 8, none⟩ zReg.toList) w = .ok () w3 ∧ Blk w3 c 47 (itc (zF F i) 24) ∧ w.grownBy w3 (some c) := by
  have hl := itc_len F 24
  have hst := run_storeCells_at Try.prog c (i * 8) 47 zReg.toList 0 _ w h (by simp only [List.size_toArray]; rw [hl, show zReg.toList.length = 8 from rfl]; omega) (itc_one noI 8)
  refine ⟨_, hst, ?_, grown_setRow _ _ _⟩
  have e := itc_wipe F 24 i [] (by omega)
  simp only [List.length_nil, Nat.zero_add, List.nil_append] at e
  simp only [Nat.add_zero, zReg]
  rw [e]
  exact h.row _

/-- The registers and the law's table. -/
def wkG (g c : Nat) (F G : Nat → Int) : List Ob := [obB c 47 (itc G 24), obPG g 3 F]
/-- They are alike. -/
def Wk (wa : World) (g c : Nat) (w : World) : Prop := ∃ F, Tk nos wa (wkG g c F F) w
theorem Wk.of {wa w : World} {g c : Nat} {F G : Nat → Int} (t : Tk nos wa (wkG g c F G) w) (h : ∀ i, i < 24 → G i = F i) : Wk wa g c w := by
  refine ⟨F, ?_⟩
  unfold wkG at t ⊢
  rw [itc_congr h] at t
  exact t

set_option maxHeartbeats 8000000 in
theorem law_FileWalks (v : Value) (n : Nat) (zs : List Int) (w : World) (hv : Sl w v n 1 (ints zs)) (hn : n ≤ maxLen) :
    Calls Try.prog 5 #[v] w fun e w' => e = .returned (.bool true) ∧ Below w.heap.size w w' := by
  obtain ⟨A, cap, rfl⟩ : ∃ A cap, v = .slice A n cap := by obtain ⟨A, c, e, _⟩ := hv; exact ⟨A, c, e⟩
  unfold maxLen at hn
  have HV := Lib.hid hv; clear hv
  have hz := zW24_run
  have hne := zW24_ne
  go_enter Try.func5, Try.ntmps5
  go_wp2_with fail
  refine (rgawake_any _).mono ?_
  rintro e wa ⟨rfl, ba⟩
  have BA := Lib.hid ba
  clear ba
  go_wp2_with fail
  have hN : Calls Try.prog 6 #[.int .i64 3] wa fun e w' => ∃ g, e = .returned (.tuple #[.pointer (some ⟨g, 0, none⟩), .int .i64 0]) ∧ Tk nos wa [obPG g 3 noI] w' := gnew_yes 3 wa (by decide) (by decide)
  refine hN.mono ?_
  clear hN
  rintro e w1 ⟨g, rfl, t⟩
  have L0 := Lib.hid t
  clear t
  go_wp2_with fail
  refine (num_any _ _).mono ?_
  rintro e w' ⟨rfl, rfl⟩
  go_wp2_with fail
  have S0 : Hid (Wk wa g w1.heap.size (w1.alloc (.cells zW24 47))) := Lib.hid ⟨noI, L0.out.alloc 47 (itc noI 24)⟩
  clear L0 hz hne
  generalize w1.alloc (.cells zW24 47) = w2 at *
  generalize w1.heap.size = c at *
  go_loopw [6] (fun i wr => ∃ (k : Nat), k ≤ n ∧ k ≤ 40 ∧ i = .int .i64 k ∧ Hid (Wk wa g c wr)) (fun i _ => 40 - (intOf i).toNat)
  case atStart => exact ⟨0, by omega, by omega, rfl, S0⟩
  case round =>
    clear S0
    obtain ⟨k, hkn, hk40, rfl, HS⟩ := hrel
    by_cases hgo : k < n ∧ k < 40
    · obtain ⟨hlt, h40⟩ := hgo
      obtain ⟨F, tk⟩ := HS.out
      have hsl := HV.out.below (Below.down BA.out tk.below BA.out.size)
      obtain ⟨b, o, cap', e, hbw, hcell⟩ := sli_at hsl k hlt
      simp only [Value.slice.injEq] at e
      obtain ⟨rfl, -, -⟩ := e
      obtain ⟨q, hq⟩ : ∃ q, zs.getD k 0 = q := ⟨_, rfl⟩
      rw [hq] at hcell
      have HQ := Lib.hid hq
      clear hq
      have hltI : (k : Int) < n := by omega
      have h40I : (k : Int) < 40 := by omega
      have hD := band q 1023 (by omega) (by omega)
      have hR := band (q / 4) 7 (by omega) (by omega)
      have hT := band (q / 32) 7 (by omega) (by omega)
      have hX := band q 65535 (by omega) (by omega)
      generalize hD' : bits BinOp.and IntKind.i64 q 1023 = M at hD
      generalize hR' : bits BinOp.and IntKind.i64 (q / 4) 7 = R at hR
      generalize hT' : bits BinOp.and IntKind.i64 (q / 32) 7 = T at hT
      generalize hX' : bits BinOp.and IntKind.i64 q 65535 = X at hX
      obtain ⟨hm0, hm1, hm2, hm3⟩ := tmod_posG (t := M) (m := 3) hD.1 (by omega) (by omega)
      generalize M % 3 = dI at hm0 hm1 hm2 hm3
      obtain ⟨d, rfl⟩ := Int.eq_ofNat_of_zero_le hm1
      obtain ⟨r, rfl⟩ := Int.eq_ofNat_of_zero_le hR.1
      have hd3 : d < 3 := by omega
      have hr8 : r < 8 := by omega
      have hr8I : (r : Int) < 8 := by omega
      have hT0 := hT.1
      have hT1 := hT.2
      have hX0 := hX.1
      have hX1 := hX.2
      have L1 := Lib.hid tk
      clear hsl tk hD hR hT hX HS
      go_wp2_with fail
      go_quiet (fail)
      have L2 := Lib.hid (L1.out.drewN nq)
      clear L1
      replace hcell : (wr.drewN nq).cell? ⟨b, o + k, none⟩ = some (.int .i64 q) := hcell
      replace hbw : b < (wr.drewN nq).heap.size := hbw
      generalize wr.drewN nq = wx at *
      by_cases hT7 : T = 7
      · as_aux_lemma =>
          subst hT7
          have e1 : grC 3 (d : Int) = 0 ∧ grF 3 F (d : Int) = zF F d := by
            have : rcB 3 (d : Int) = true := by simp [rcB]; omega
            simp [grC, grF, this]
          have cR := tk_greset_is (i := 1) (os' := wkG g c (zF F d) F) d 0 wx L2.out rfl e1.1 (by rw [e1.2]; rfl)
          clear e1 L2
          go_wp2_with fail
          refine cR.mono ?_
          rintro e w3 ⟨rfl, t3⟩
          clear cR hcell hD' hR' hT' hX' hbw
          obtain ⟨w4, hst, hb4, g4⟩ := w24_wipe (t3.blk (i := 0) rfl) d hd3
          have L4 := Lib.hid (show Tk nos wa (wkG g c (zF F d) (zF F d)) w4 from t3.turn (i := 0) rfl g4 hb4)
          have HZ := zReg_run
          have hne := zReg_ne
          have hsz := zReg_size
          clear t3 hb4 g4
          go_wp2_with fail
          refine (num_any _ _).mono ?_
          rintro e w' ⟨rfl, rfl⟩
          clear hst HZ hne hsz
          go_wp2_with fail
          go_loop [11] (fun i => ∃ (a : Nat), a ≤ 3 ∧ i = .int .i64 a) (fun i => 3 - (intOf i).toNat)
          case atStart => exact ⟨0, by omega, rfl⟩
          case round =>
            obtain ⟨a, ha3, rfl⟩ := hrel
            by_cases hla : a < 3
            · go_wp2_with fail
              go_loop [12] (fun i => ∃ (j : Nat), j ≤ 8 ∧ i = .int .i64 j) (fun i => 8 - (intOf i).toNat)
              case atStart => exact ⟨0, by omega, rfl⟩
              case round =>
                obtain ⟨j, hj8, rfl⟩ := hrel
                by_cases hlj : j < 8
                · obtain ⟨r1, r2⟩ := gx_ok (D := 3) (F := zF F d) (d := a) (r := j) (by omega) (by omega)
                  have c1 := tk_gread_is (i := 1) a j _ 0 w4 L4.out rfl r2 r1
                  have cc : w4.cell? ⟨c, a * 8 + j, none⟩ = some (.int .i64 (zF F d (ixR a j))) := by
                    rw [(L4.out.blk (i := 0) rfl).cell, itc_get _ _ _ (by omega)]
                    simp [ixR]
                  have haI : (a : Int) < 3 := by omega
                  have hjI : (j : Int) < 8 := by omega
                  generalize (zF F d) (ixR a j) = X9 at *
                  clear r1 r2
                  go_wp2_with fail
                  refine c1.mono ?_
                  rintro e w' ⟨rfl, rfl⟩
                  go_wp2_with fail
                  refine (num_any _ _).mono ?_
                  rintro e w' ⟨rfl, rfl⟩
                  go_wp2_with fail
                  go_round
                  case rel => exact ⟨j + 1, by omega, by go_num⟩
                  case measure => simp [intOf]; omega
                · have e : j = 8 := by omega
                  subst e
                  rw [show ((8 : Nat) : Int) = 8 from rfl]
                  go_wp2_with fail
                  go_round
                  case rel => exact ⟨a + 1, by omega, by go_num⟩
                  case measure => simp [intOf]; omega
            · have e : a = 3 := by omega
              subst e
              rw [show ((3 : Nat) : Int) = 3 from rfl]
              go_wp2_with fail
              go_roundw
              case rel => exact ⟨k + 1, by omega, by omega, by go_num, Lib.hid ⟨_, L4.out⟩⟩
              case measure => simp [intOf]; omega
      · as_aux_lemma =>
          obtain ⟨e1, e2⟩ := gw_ok (D := 3) (F := F) (d := d) (r := r) (x := X) (by omega) (by omega) (by omega)
          rw [show ixR d r = d * 8 + r by simp [ixR]] at e2
          have cR := tk_gwrite_is (i := 1) (os' := wkG g c (iF F (d * 8 + r) X) F) d r X 0 wx L2.out rfl e1 (by rw [e2]; rfl)
          have hT8 : (T == 7) = false := by simpa using hT7
          have HB := Lib.hid (show Tk nos wa (wkG g c F F) wx from L2.out)
          clear e1 e2 L2 hT7
          go_wp2_with fail
          refine cR.mono ?_
          rintro e w3 ⟨rfl, t3⟩
          have hsl := HV.out.below (Below.down BA.out t3.below BA.out.size)
          obtain ⟨b3, o3, cap3, e, hbw3, hcell3⟩ := sli_at hsl k hlt
          simp only [Value.slice.injEq, Option.some.injEq, Addr.mk.injEq] at e
          obtain ⟨⟨rfl, rfl, -⟩, -, -⟩ := e
          rw [HQ.out] at hcell3
          have hb3 := t3.blk (i := 0) rfl
          have f0 := hb3.frozen (d * 8 + r)
          have c0 : w3.cell? ⟨c, d * 8 + r, none⟩ = some (.int .i64 (F (d * 8 + r))) := by rw [hb3.cell, itc_get _ _ _ (by omega)]
          have t5 := (t3.drewN 1).store (i := 0) rfl (d * 8 + r) (.int .i64 X)
          rw [itc_set] at t5
          have L5 := Lib.hid (show Tk nos wa (wkG g c (iF F (d * 8 + r) X) (iF F (d * 8 + r) X)) (w3.drew.setCell ⟨c, d * 8 + r, none⟩ (.int .i64 X)) from t5)
          have L3 := Lib.hid t3
          clear t3 t5 hsl hb3 hcell hbw cR HB
          go_wp2_with fail
          go_still_tail 9, (by kernel_rfl)
          change wpList _ _ _ _ _ w3.drew
          replace c0 : w3.drew.cell? ⟨c, d * 8 + r, none⟩ = some (.int .i64 (F (d * 8 + r))) := c0
          replace f0 : w3.drew.frozen? ⟨c, d * 8 + r, none⟩ = false := f0
          clear L3 hcell3 hbw3
          generalize w3.drew = w4 at *
          go_wp2_with fail
          refine (num_any _ _).mono ?_
          rintro e w' ⟨rfl, rfl⟩
          clear c0 f0
          generalize w4.setCell ⟨c, d * 8 + r, none⟩ (.int .i64 X) = w5 at *
          go_wp2_with fail
          go_loop [11] (fun i => ∃ (a : Nat), a ≤ 3 ∧ i = .int .i64 a) (fun i => 3 - (intOf i).toNat)
          case atStart => exact ⟨0, by omega, rfl⟩
          case round =>
            obtain ⟨a, ha3, rfl⟩ := hrel
            by_cases hla : a < 3
            · go_wp2_with fail
              go_loop [12] (fun i => ∃ (j : Nat), j ≤ 8 ∧ i = .int .i64 j) (fun i => 8 - (intOf i).toNat)
              case atStart => exact ⟨0, by omega, rfl⟩
              case round =>
                obtain ⟨j, hj8, rfl⟩ := hrel
                by_cases hlj : j < 8
                · obtain ⟨r1, r2⟩ := gx_ok (D := 3) (F := iF F (d * 8 + r) X) (d := a) (r := j) (by omega) (by omega)
                  have c1 := tk_gread_is (i := 1) a j _ 0 w5 L5.out rfl r2 r1
                  have cc : w5.cell? ⟨c, a * 8 + j, none⟩ = some (.int .i64 (iF F (d * 8 + r) X (ixR a j))) := by
                    rw [(L5.out.blk (i := 0) rfl).cell, itc_get _ _ _ (by omega)]
                    simp [ixR]
                  have haI : (a : Int) < 3 := by omega
                  have hjI : (j : Int) < 8 := by omega
                  generalize (iF F (d * 8 + r) X) (ixR a j) = X9 at *
                  clear r1 r2
                  go_wp2_with fail
                  refine c1.mono ?_
                  rintro e w' ⟨rfl, rfl⟩
                  go_wp2_with fail
                  refine (num_any _ _).mono ?_
                  rintro e w' ⟨rfl, rfl⟩
                  go_wp2_with fail
                  go_round
                  case rel => exact ⟨j + 1, by omega, by go_num⟩
                  case measure => simp [intOf]; omega
                · have e : j = 8 := by omega
                  subst e
                  rw [show ((8 : Nat) : Int) = 8 from rfl]
                  go_wp2_with fail
                  go_round
                  case rel => exact ⟨a + 1, by omega, by go_num⟩
                  case measure => simp [intOf]; omega
            · have e : a = 3 := by omega
              subst e
              rw [show ((3 : Nat) : Int) = 3 from rfl]
              go_wp2_with fail
              go_roundw
              case rel => exact ⟨k + 1, by omega, by omega, by go_num, Lib.hid ⟨_, L5.out⟩⟩
              case measure => simp [intOf]; omega
    · have hx : (k : Int) ≥ n ∨ ((k : Int) < n ∧ decide ((k : Int) < 40) = false) := by
        by_cases h1 : k < n
        · exact .inr ⟨by omega, by simp; omega⟩
        · exact .inl (by omega)
      have HB : Hid (Below w.heap.size w wr) := by
        obtain ⟨F, tk⟩ := HS.out
        exact Lib.hid (Below.down BA.out tk.below BA.out.size)
      clear hgo HS
      rcases hx with hx | ⟨hx, hx2⟩
      all_goals
        go_wp2_with fail
        go_ret
        exact ⟨rfl, HB.out⟩
end Go.Proofs.Ytocjkanhciohmaa
