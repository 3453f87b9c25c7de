/-
  Layer 19's law DiskQuota: it answers true for every input.
-/
import Derived.Test.YtjccdimmfhkipaaDkAwake
import Derived.Test.YtjccdimmfhkipaaSli
import Derived.IntWalk
import Derived.BigQuiet
import Derived.StillTailTactics
import Derived.Deep.CutBlock
import Derived.Deep.DeepCutAuto
namespace Go.Proofs.Ytjccdimmfhkipaa
open Go.RowKit
set_option linter.unusedVariables false
set_option linter.unusedSimpArgs false
set_option maxRecDepth 100000

theorem tmod_posQ {t m : Int} (h0 : 0 ≤ t) (h1 : 1 ≤ m) (h2 : m ≤ 64) : IntKind.i64.wrap (t.tmod m) = t % m ∧ 0 ≤ t % m ∧ t % m < m ∧ t.tmod m = t % m := by
  have e : t.tmod m = t % m := Int.tmod_eq_emod_of_nonneg h0
  have a := Int.emod_nonneg t (show m ≠ 0 by omega)
  have b := Int.emod_lt_of_pos t (show 0 < m by omega)
  rw [e]
  exact ⟨IntWalk.i64_in _ (by omega), a, b, rfl⟩

/-- The disk and the law's own row say the same of what each has left. -/
def Qs (wa : World) (g c : Nat) (q : Int) (l : List UInt8) (wx : World) : Prop := ∃ L : Nat → Int, Tk nos wa [obB c 3 (itc L 3), obPD g shP q L l] wx
theorem in3 (d : Nat) (hd : d < 3) : inP 3 (d : Int) = true := (inP_iff _ _).2 ⟨d, rfl, hd⟩

set_option maxHeartbeats 8000000 in
theorem law_DiskQuota (y : Int) (v : Value) (n : Nat) (zs : List Int) (w : World) (hv : Sl w v n 1 (ints zs)) (hn : n ≤ maxLen) :
    Calls Try.prog 5 #[.int .i64 y, v] w fun e w' => e = .returned (.bool true) ∧ Below w.heap.size w w' := by
  obtain ⟨A, cap, rfl⟩ : ∃ A cap, v = .slice A n cap := by obtain ⟨A, c, e, _⟩ := hv; exact ⟨A, c, e⟩
  unfold maxLen at hn
  have HV := Lib.hid hv; clear hv
  have hU := u64b y
  generalize hU' : IntKind.u64.wrap y = U at hU
  obtain ⟨hU0, hU1⟩ := hU
  have hI0 : 0 ≤ U % 65 := by omega
  have hI1 : U % 65 ≤ 64 := by omega
  generalize hI' : U % 65 = Q at hI0 hI1
  go_enter Try.func5, Try.ntmps5
  go_wp2_with fail
  refine (dkawake_any _).mono ?_
  rintro e wa ⟨rfl, ba⟩
  have BA := Lib.hid ba
  clear ba
  go_wp2_with fail
  refine (shared_any Q _ hI0 hI1).mono ?_
  rintro e w1 ⟨g, rfl, t⟩
  have HT := Lib.hid t
  clear t hU' hI' hU0 hU1
  obtain ⟨Z, hZ⟩ : ∃ Z, zeros 1024 = Z := ⟨_, rfl⟩
  rw [hZ] at HT
  have S0 : Hid (Qs wa g w1.heap.size Q Z (w1.alloc (.cells #[.int .i64 Q, .int .i64 Q, .int .i64 Q] 3))) := Lib.hid ⟨qF Q 3, HT.out.alloc 3 (itc (qF Q 3) 3)⟩
  clear HT hZ
  go_wp2_with fail
  generalize w1.alloc (.cells #[.int .i64 Q, .int .i64 Q, .int .i64 Q] 3) = w2 at *
  generalize w1.heap.size = c at *
  go_loopw [8] (fun i wr => ∃ (k : Nat), k ≤ n ∧ k ≤ 40 ∧ i = .int .i64 k ∧ Hid (Qs wa g c Q Z wr)) (fun i _ => 40 - (intOf i).toNat)
  case atStart => exact ⟨0, by omega, by omega, rfl, S0⟩
  case round =>
    clear S0
    obtain ⟨k, hkn, hk40, rfl, HS⟩ := hrel
    by_cases hgo : k < n ∧ k < 40
    · obtain ⟨hlt, h40⟩ := hgo
      obtain ⟨L, tk⟩ := HS.out
      have hsl := HV.out.below (Below.down BA.out tk.below BA.out.size)
      obtain ⟨b, o, cap', e, hbw, hcell⟩ := sli_at hsl k hlt
      simp only [Value.slice.injEq] at e
      obtain ⟨rfl, -, -⟩ := e
      generalize zs.getD k 0 = q at hcell
      have hltI : (k : Int) < n := by omega
      have h40I : (k : Int) < 40 := by omega
      have hD := band q 1023 (by omega) (by omega)
      have hR := band (q / 1024) 3 (by omega) (by omega)
      have hT := band (q / 4) 7 (by omega) (by omega)
      generalize hD' : bits BinOp.and IntKind.i64 q 1023 = M at hD
      generalize hR' : bits BinOp.and IntKind.i64 (q / 1024) 3 = R at hR
      generalize hT' : bits BinOp.and IntKind.i64 (q / 4) 7 = T at hT
      obtain ⟨hm0, hm1, hm2, hm3⟩ := tmod_posQ (t := M) (m := 3) hD.1 (by omega) (by omega)
      generalize M % 3 = dI at hm0 hm1 hm2 hm3
      obtain ⟨d, rfl⟩ := Int.eq_ofNat_of_zero_le hm1
      have hd3 : d < 3 := by omega
      obtain ⟨hR0, hR1⟩ := hR
      have hT0 := hT.1
      have hT1 := hT.2
      have L1 := Lib.hid tk
      clear hsl tk hD hT HS
      go_wp2_with fail
      go_quiet (fail)
      have L2 := Lib.hid (L1.out.drewN nq)
      clear L1
      replace hcell : (wr.drewN nq).cell? ⟨b, o + k, none⟩ = some (.int .i64 q) := hcell
      replace hbw : b < (wr.drewN nq).heap.size := hbw
      generalize wr.drewN nq = wx at *
      go_upto_if 55 with fail
      go_cut [] (fun wz => Hid (Qs wa g c Q Z wz))
      case first =>
        have hdI : (d : Int) < 3 := by omega
        obtain ⟨hh, pd, -⟩ := L2.out.pd (i := 1) rfl
        obtain ⟨x0, x1⟩ := pd.lb d
        clear pd hh
        by_cases hT7 : T = 7
        · subst hT7
          have HC : Hid (doC shP.length (d : Int) = 0 ∧ doF shP.length Q L (d : Int) = iF L d Q) := Lib.hid (by unfold doC doF; rw [show shP.length = 3 from rfl, in3 d hd3]; exact ⟨rfl, rfl⟩)
          go_wp2_with fail
          refine (tk_dopen (i := 1) (d : Int) _ L2.out rfl 0 HC.out.1 (by rw [HC.out.2])).mono ?_
          rintro e w3 ⟨rfl, t3⟩
          have hb3 := t3.blk (i := 0) rfl
          have f0 := hb3.frozen d
          have c0 : w3.cell? ⟨c, d, none⟩ = some (.int .i64 (L d)) := by rw [hb3.cell, itc_get _ _ _ (by omega)]
          have t5 := t3.store (i := 0) rfl d (.int .i64 Q)
          rw [itc_set] at t5
          have L5 : Hid (Qs wa g c Q Z (w3.setCell ⟨c, d, none⟩ (.int .i64 Q))) := Lib.hid ⟨iF L d Q, t5⟩
          generalize L d = X at *
          clear t3 t5 hb3 L2
          go_wp2_with fail
          refine (num_any _ _).mono ?_
          rintro e w' ⟨rfl, rfl⟩
          go_wp2_with fail
          go_meet
          exact L5
        · have hT8 : (T == 7) = false := by simpa using hT7
          by_cases hle : R ≤ L d
          · have HC : Hid (dsC shP.length L (d : Int) R = 0 ∧ dsF shP.length L (d : Int) R = iF L d (L d - R)) := Lib.hid (by unfold dsC dsF; rw [show shP.length = 3 from rfl, in3 d hd3, decide_eq_true hR0, Int.toNat_natCast]; simp only [Bool.and_self, if_true]; rw [if_pos hle, if_pos hle]; exact ⟨rfl, rfl⟩)
            have n1 : IntKind.i64.wrap (L d - R) = L d - R := by rw [IntKind.wrap_i64]; omega
            go_wp2_with fail
            refine (tk_dspend (i := 1) (d : Int) R _ L2.out rfl 0 HC.out.1 (by rw [HC.out.2])).mono ?_
            rintro e w3 ⟨rfl, t3⟩
            have hb3 := t3.blk (i := 0) rfl
            have f0 := hb3.frozen d
            have c0 : w3.cell? ⟨c, d, none⟩ = some (.int .i64 (L d)) := by rw [hb3.cell, itc_get _ _ _ (by omega)]
            have t5 := t3.store (i := 0) rfl d (.int .i64 (L d - R))
            rw [itc_set] at t5
            have L5 : Hid (Qs wa g c Q Z (w3.setCell ⟨c, d, none⟩ (.int .i64 (L d - R)))) := Lib.hid ⟨_, t5⟩
            generalize L d = X at *
            clear t3 t5 hb3 L2 HC
            go_wp2_with fail
            refine (num_any _ _).mono ?_
            rintro e w' ⟨rfl, rfl⟩
            go_wp2_with fail
            go_meet
            exact L5
          · have HC : Hid (dsC shP.length L (d : Int) R = 1901 ∧ dsF shP.length L (d : Int) R = L) := Lib.hid (by unfold dsC dsF; rw [show shP.length = 3 from rfl, in3 d hd3, decide_eq_true hR0, Int.toNat_natCast]; simp only [Bool.and_self, if_true]; rw [if_neg hle, if_neg hle]; exact ⟨rfl, rfl⟩)
            have hlt2 : L d < R := by omega
            go_wp2_with fail
            refine (tk_dspend (i := 1) (d : Int) R _ L2.out rfl 1901 HC.out.1 (by rw [HC.out.2])).mono ?_
            rintro e w3 ⟨rfl, t3⟩
            have hb3 := t3.blk (i := 0) rfl
            have c0 : w3.cell? ⟨c, d, none⟩ = some (.int .i64 (L d)) := by rw [hb3.cell, itc_get _ _ _ (by omega)]
            have L5 : Hid (Qs wa g c Q Z w3) := Lib.hid ⟨_, t3⟩
            generalize L d = X at *
            clear t3 hb3 L2 HC hle
            go_wp2_with fail
            refine (num_any _ _).mono ?_
            rintro e w' ⟨rfl, rfl⟩
            go_wp2_with fail
            go_meet
            exact L5
      case rest =>
        clear L2 hcell hbw hm0 hm1 hm2 hm3 hD' hR' hT'
        have HQ := hcut
        clear hcut
        generalize wc = w4 at *
        obtain ⟨L3, tk⟩ := HQ.out
        have hb := tk.blk (i := 0) rfl
        have c0 : w4.cell? ⟨c, 0, none⟩ = some (.int .i64 (L3 0)) := by rw [hb.cell, itc_get _ _ _ (by omega)]
        have c1 : w4.cell? ⟨c, 1, none⟩ = some (.int .i64 (L3 1)) := by rw [hb.cell, itc_get _ _ _ (by omega)]
        have c2 : w4.cell? ⟨c, 2, none⟩ = some (.int .i64 (L3 2)) := by rw [hb.cell, itc_get _ _ _ (by omega)]
        have HL := Lib.hid (fun (p : Int) m => tk_dleft (i := 1) p (w4.drewN m) (tk.drewN m) rfl (dlX shP.length L3 p) rfl)
        replace c0 : w4.cell? ⟨c, 0, none⟩ = some (.int .i64 (dlX shP.length L3 0)) := c0
        replace c1 : w4.cell? ⟨c, 1, none⟩ = some (.int .i64 (dlX shP.length L3 1)) := c1
        replace c2 : w4.cell? ⟨c, 2, none⟩ = some (.int .i64 (dlX shP.length L3 2)) := c2
        generalize dlX shP.length L3 = D at *
        clear hb tk
        go_wp2_with fail
        go_quiet ((go_at_call 22; first | exact quiet_at (HL.out _) | exact quiet_at_a (HL.out _)))
        have HQ2 : Hid (Qs wa g c Q Z (w4.drewN nq)) := by obtain ⟨L4, t4⟩ := HQ.out; exact Lib.hid ⟨L4, t4.drewN nq⟩
        clear c0 c1 c2 HL HQ
        generalize w4.drewN nq = w5 at *
        go_wp2_with fail
        go_roundw
        case rel => exact ⟨k + 1, by omega, by omega, by go_num, HQ2⟩
        case measure => simp [intOf]; omega
    · have hx : (k : Int) ≥ n ∨ ((k : Int) < n ∧ decide ((k : Int) < 40) = false) := by
        by_cases h1 : k < n
        · exact .inr ⟨by omega, by simp; omega⟩
        · exact .inl (by omega)
      have HB : Hid (Below w.heap.size w wr) := by
        obtain ⟨F, tk⟩ := HS.out
        exact Lib.hid (Below.down BA.out tk.below BA.out.size)
      clear hgo HS
      rcases hx with hx | ⟨hx, hx2⟩
      all_goals
        go_wp2_with fail
        go_ret
        exact ⟨rfl, HB.out⟩
end Go.Proofs.Ytjccdimmfhkipaa
