/-
  Layer 19's law DiskWalks: it answers true for every input.
-/
import Derived.Test.YtjccdimmfhkipaaDkAwake
import Derived.Test.YtjccdimmfhkipaaDkW0
import Derived.Test.YtjccdimmfhkipaaDkQuota
import Derived.BigRegion
import Derived.Deep.RegionWith
namespace Go.Proofs.Ytjccdimmfhkipaa
open Go.RowKit
set_option linter.unusedVariables false
set_option linter.unusedSimpArgs false
set_option maxRecDepth 100000

/-- The law's table of texts: kept closed to the walk. -/
def zT12 : Array Value := (txc (z16 0) 12).toArray
theorem zT12_ne : ¬ (zT12 = #[]) := by simp [zT12, txc]
theorem zT12_run (w : World) : Sem.run Try.prog (zeroValue 55) w = .ok (.agg zT12) w := by
  have hi : (Try.prog.info? 55).map (fun i => i.zero) = some (some (.agg zT12)) := by kernel_rfl
  cases h : Try.prog.info? 55 with
  | none => rw [h] at hi; cases hi
  | some i =>
    rw [h] at hi
    simp only [Option.map_some, Option.some.injEq] at hi
    simp [zeroValue, typeInfo, h, hi]

/-- The things of the law: its table, its counts, the disk. -/
def wkD (g c cc : Nat) (F : Nat → List UInt8) (l : List UInt8) : List Ob := [obB c 55 (txc F 12), obB cc 3 (itc cPI 3), obPD g shP 5 (qF 5 3) l]
def WkS (wa : World) (g c cc : Nat) (wx : World) : Prop := ∃ F l, Tab3 F l ∧ Tk nos wa (wkD g c cc F l) wx

set_option maxHeartbeats 8000000 in
theorem law_DiskWalks (v : Value) (n : Nat) (zs : List Int) (w : World) (hv : Sl w v n 1 (ints zs)) (hn : n ≤ maxLen) :
    Calls Try.prog 4 #[v] w fun e w' => e = .returned (.bool true) ∧ Below w.heap.size w w' := by
  obtain ⟨A, cap, rfl⟩ : ∃ A cap, v = .slice A n cap := by obtain ⟨A, c, e, _⟩ := hv; exact ⟨A, c, e⟩
  unfold maxLen at hn
  have HV := Lib.hid hv; clear hv
  have hz := zT12_run
  have hne := zT12_ne
  go_enter Try.func4, Try.ntmps4
  go_wp2_with fail
  refine (dkawake_any _).mono ?_
  rintro e wa ⟨rfl, ba⟩
  have BA := Lib.hid ba
  clear ba
  go_wp2_with fail
  refine (shared_any 5 _ (by decide) (by decide)).mono ?_
  rintro e w1 ⟨g, rfl, t⟩
  have HT := Lib.hid t
  clear t
  have S0 : Hid (Tk nos wa (wkD g (w1.heap.size + 1) w1.heap.size (z16 0) (zeros 1024)) ((w1.alloc (.cells #[.int .i64 4, .int .i64 4, .int .i64 2] 3)).alloc (.cells zT12 55))) := Lib.hid (by
    have t2 := HT.out.alloc 3 (itc cPI 3)
    have t3 := t2.alloc 55 (txc (z16 0) 12)
    rw [World.size_alloc] at t3
    exact t3)
  obtain ⟨Z, hZ⟩ : ∃ Z, zeros 1024 = Z := ⟨_, rfl⟩
  have HZ := Lib.hid hZ
  rw [hZ] at S0
  clear HT hZ
  go_wp2_with fail
  clear hz hne
  generalize (w1.alloc (.cells #[.int .i64 4, .int .i64 4, .int .i64 2] 3)).alloc (.cells zT12 55) = w2 at *
  generalize w1.heap.size + 1 = c at *
  generalize w1.heap.size = cc at *
  have hm16 := make16
  have hc16 := fun W => make_str W 16 (by omega)
  obtain ⟨Z16, hZ16⟩ : ∃ Z16, zeros 16 = Z16 := ⟨_, rfl⟩
  rw [hZ16] at hm16 hc16
  obtain ⟨S16, hS16⟩ : ∃ S16, str Z16 = S16 := ⟨_, rfl⟩
  rw [hS16] at hc16
  have HS16 : Hid (str (zeros 16) = S16) := Lib.hid (by rw [hZ16]; exact hS16)
  clear hZ16 hS16
  go_loopw [6] (fun i wr => ∃ p : Nat, p ≤ 3 ∧ i = .int .i64 p ∧ Hid (Tk nos wa (wkD g c cc (z16 (p * 4)) Z) wr)) (fun i _ => 3 - (intOf i).toNat)
  case atStart => exact ⟨0, by omega, rfl, S0⟩
  case round =>
    clear S0
    obtain ⟨p, hp, rfl, HT⟩ := hrel
    by_cases hlt : p < 3
    · have hpI : (p : Int) < 3 := by omega
      go_wp2_with fail
      go_loopw [7] (fun i wr => ∃ j : Nat, j ≤ 4 ∧ i = .int .i64 j ∧ Hid (Tk nos wa (wkD g c cc (z16 (p * 4 + j)) Z) wr)) (fun i _ => 4 - (intOf i).toNat)
      case atStart => exact ⟨0, by omega, rfl, HT⟩
      case round =>
        clear HT
        obtain ⟨j, hj, rfl, HT⟩ := hrel
        by_cases hltj : j < 4
        · have hjI : (j : Int) < 4 := by omega
          have t1 := (HT.out.drewN 1).next ((Below.refl _ (wr.drewN 1)).alloc (Nat.le_refl _) (.cells (bts Z16).toArray 5))
          have hcv : (convert 56 9 (.slice (some ⟨wr.heap.size, 0, none⟩) 16 16)).run Try.prog (wr.alloc (.cells (bts Z16).toArray 5)).drew = .ok (.string S16) (wr.alloc (.cells (bts Z16).toArray 5)).drew := hc16 wr.drew
          have hb := t1.blk (i := 0) rfl
          have f0 : (wr.alloc (.cells (bts Z16).toArray 5)).drew.frozen? ⟨c, p * 4 + j, none⟩ = false := hb.frozen (p * 4 + j)
          have c0 : (wr.alloc (.cells (bts Z16).toArray 5)).drew.cell? ⟨c, p * 4 + j, none⟩ = some (.string (str (z16 (p * 4 + j) (p * 4 + j)))) := by
            have := hb.cell (p * 4 + j)
            rw [txc_get _ _ _ (by omega)] at this
            exact this
          have t2 := t1.store (i := 0) rfl (p * 4 + j) (.string (str (zeros 16)))
          rw [txc_set, z16_step, HS16.out] at t2
          have T2 : Hid (Tk nos wa (wkD g c cc (z16 (p * 4 + (j + 1))) Z) ((wr.alloc (.cells (bts Z16).toArray 5)).drew.setCell ⟨c, p * 4 + j, none⟩ (.string S16))) := Lib.hid t2
          generalize str (z16 (p * 4 + j) (p * 4 + j)) = X0 at c0
          clear t1 t2 hb HT
          go_wp2_with fail
          go_region
          all_goals
            clear c0 f0 hcv
            go_wp2_with fail
            go_roundw
            case rel => exact ⟨j + 1, by omega, by go_num, T2⟩
            case measure => simp [intOf]; omega
        · obtain rfl : j = 4 := by omega
          rw [show ((4 : Nat) : Int) = 4 from rfl]
          go_wp2_with fail
          go_roundw
          case rel => exact ⟨p + 1, by omega, by go_num, by rw [show (p + 1) * 4 = p * 4 + 4 by omega]; exact HT⟩
          case measure => simp [intOf]; omega
    · obtain rfl : p = 3 := by omega
      have S0 : Hid (WkS wa g c cc wr) := Lib.hid ⟨_, _, by rw [← HZ.out]; exact Tab3.zero, HT.out⟩
      clear HT hm16 hc16
      rw [show ((3 : Nat) : Int) = 3 from rfl]
      go_wp2_with fail
      generalize wr = w3 at *
      go_loopw [8] (fun i wr => ∃ (k : Nat), k ≤ n ∧ k ≤ 30 ∧ i = .int .i64 k ∧ Hid (WkS wa g c cc wr)) (fun i _ => 30 - (intOf i).toNat)
      case atStart => exact ⟨0, by omega, by omega, rfl, S0⟩
      case round =>
        clear S0
        obtain ⟨k, hkn, hk30, rfl, HS⟩ := hrel
        by_cases hgo : k < n ∧ k < 30
        · obtain ⟨hlt, h30⟩ := hgo
          obtain ⟨F, l, htab, tk⟩ := HS.out
          have hsl := HV.out.below (Below.down BA.out tk.below BA.out.size)
          obtain ⟨b, o, cap', e, hbw, hcell⟩ := sli_at hsl k hlt
          simp only [Value.slice.injEq] at e
          obtain ⟨rfl, -, -⟩ := e
          generalize zs.getD k 0 = q at hcell
          have hltI : (k : Int) < n := by omega
          have h30I : (k : Int) < 30 := by omega
          have hD := band q 1023 (by omega) (by omega)
          have hR := band (q / 4) 3 (by omega) (by omega)
          generalize hD' : bits BinOp.and IntKind.i64 q 1023 = M at hD
          generalize hR' : bits BinOp.and IntKind.i64 (q / 4) 3 = R at hR
          obtain ⟨hm0, hm1, hm2, hm3⟩ := tmod_posQ (t := M) (m := 3) hD.1 (by omega) (by omega)
          generalize M % 3 = dI at hm0 hm1 hm2 hm3
          obtain ⟨d, rfl⟩ := Int.eq_ofNat_of_zero_le hm1
          obtain ⟨j, rfl⟩ := Int.eq_ofNat_of_zero_le hR.1
          have hd3 : d < 3 := by omega
          have hj4 : j < 4 := by omega
          have L1 := Lib.hid tk; have HTB := Lib.hid htab
          clear hsl tk hD hR HS htab
          go_wp2_with fail
          refine (sector_any ((k : Int) + 1) _ (by omega) (by omega)).mono ?_
          rintro e w4 ⟨rfl, b4⟩
          have L2 := Lib.hid (L1.out.next b4)
          clear b4 L1 hcell hbw
          have HLEN : Hid ((secK ((k : Int) + 1) 16).length = 16) := Lib.hid (secK_len _ _)
          obtain ⟨T, hT⟩ : ∃ T, secK ((k : Int) + 1) 16 = T := ⟨_, rfl⟩
          rw [hT] at HLEN ⊢
          have HTK := Lib.hid hT
          have HX : Hid ((str T).data.toList = T ∧ (str T).size = 16) := Lib.hid ⟨str_list _, by rw [str_size, HLEN.out]⟩
          obtain ⟨X, hX⟩ : ∃ X, str T = X := ⟨_, rfl⟩
          rw [hX] at HX ⊢
          have HXT := Lib.hid hX
          clear hT hX
          have hdI : (d : Int) < 3 := by omega
          by_cases hjc : j < cP d
          · have HONE := Lib.hid (shW_yes hd3 hjc)
            go_wp2_with fail
            refine (tk_dwrite (i := 2) (d : Int) (j : Int) X _ L2.out rfl (by rw [HX.out.2]; decide) 0 (by rw [HX.out.1, dwC_16 HLEN.out, HONE.out]) rfl).mono ?_
            rintro e w5 ⟨rfl, t5⟩
            rw [HX.out.1, dwL_16 HLEN.out HONE.out] at t5
            have L5 : Hid (Tk nos wa (wkD g c cc F (put l ((fP d + j) * 16) T)) w5) := Lib.hid t5
            have HTB2 := Lib.hid (HTB.out.set hd3 hjc HLEN.out)
            generalize put l ((fP d + j) * 16) T = l5 at *
            clear t5 L2 HTB HONE
            have cc0 : w5.cell? ⟨cc, d, none⟩ = some (.int .i64 (cP d : Int)) := by
              rw [(L5.out.blk (i := 1) rfl).cell, itc_get _ _ _ hd3]; rfl
            have hcj : (j : Int) < (cP d : Int) := by omega
            generalize (cP d : Int) = N at cc0 hcj
            go_wp2_with fail
            clear cc0 hcj hm0 hm1 hm2 hm3 hD' hR'
            have hk1 : IntKind.i64.wrap ((k : Int) + 1) = (k : Int) + 1 := IntWalk.i64_in _ (by omega)
            go_region_with (go_at_call 25; refine (sector_any ((k : Int) + 1) _ (by omega) (by omega)).mono ?_; rintro e w6 ⟨rfl, b6⟩; rw [HTK.out, HXT.out]; have t6 := (L5.out.drewN 1).next b6; have hb6 := t6.blk (i := 0) rfl; have f0 := hb6.frozen (d * 4 + j); have c0 : w6.cell? ⟨c, d * 4 + j, none⟩ = some (.string (str (F (d * 4 + j)))) := by { rw [hb6.cell, txc_get _ _ _ (by omega)] })
            all_goals
              have t7 := t6.store (i := 0) rfl (d * 4 + j) (.string (str T))
              rw [txc_set, HXT.out] at t7
              have L7 : Hid (Tk nos wa (wkD g c cc (xF F (d * 4 + j) T) l5) (w6.setCell ⟨c, d * 4 + j, none⟩ (.string X))) := Lib.hid t7
              generalize xF F (d * 4 + j) T = G at *
              clear t6 hb6 t7 b6 f0 c0 L5
              generalize w6.setCell ⟨c, d * 4 + j, none⟩ (.string X) = w7 at *
              go_wp2_with (go_at_call 11; refine (num_any _ _).mono ?_; rintro e w' ⟨rfl, rfl⟩)
              go_loopw [12] (fun i wr => ∃ q : Nat, q ≤ 3 ∧ i = .int .i64 q ∧ Hid (Tk nos wa (wkD g c cc G l5) wr)) (fun i _ => 3 - (intOf i).toNat)
              case atStart => exact ⟨0, by omega, rfl, L7⟩
              case round =>
                clear L7
                obtain ⟨q2, hq, rfl, L7⟩ := hrel
                by_cases hltq : q2 < 3
                · have hqI : (q2 : Int) < 3 := by omega
                  have hc4 := cP_4 q2
                  have hcat := HTB2.out.cat hltq (cP q2) (Nat.le_refl _)
                  have HCAT := Lib.hid hcat
                  have HALL := Lib.hid (shW_all hltq)
                  have cc0 : wr.cell? ⟨cc, q2, none⟩ = some (.int .i64 (cP q2 : Int)) := by
                    rw [(L7.out.blk (i := 1) rfl).cell, itc_get _ _ _ hltq]; rfl
                  obtain ⟨Y, hY⟩ : ∃ Y, str (cat G (q2 * 4) (cP q2)) = Y := ⟨_, rfl⟩
                  have HY := Lib.hid hY
                  clear hcat hY
                  go_wp2_with fail
                  refine (tk_dread (i := 2) (q2 : Int) 0 (cP q2 : Int) _ L7.out rfl Y 0 (by rw [drT_at rfl HALL.out, HCAT.out]; exact HY.out) (by rw [HALL.out])).mono ?_
                  rintro e w8 ⟨rfl, t8⟩
                  have L8 := Lib.hid t8
                  have cc1 : w8.cell? ⟨cc, q2, none⟩ = some (.int .i64 (cP q2 : Int)) := by
                    rw [(t8.blk (i := 1) rfl).cell, itc_get _ _ _ hltq]; rfl
                  have hat : ∀ m, m < 4 → w8.cell? ⟨c, q2 * 4 + m, none⟩ = some (.string (str (G (q2 * 4 + m)))) := fun m hm => by
                    rw [(t8.blk (i := 0) rfl).cell, txc_get _ _ _ (by omega)]
                  have HAT := Lib.hid hat
                  clear t8 cc0 L7 hat
                  obtain ⟨N, hN⟩ : ∃ N, cP q2 = N := ⟨_, rfl⟩
                  rw [hN] at cc1 hc4 HY
                  rw [hN]
                  go_wp2_with fail
                  go_loop [15, 16] (fun s i => ∃ (m : Nat) (X2 : ByteArray), m ≤ N ∧ s = .string X2 ∧ i = .int .i64 m ∧ Hid (str (cat G (q2 * 4) m) = X2)) (fun _ i => N - (intOf i).toNat)
                  case atStart => exact ⟨0, _, by omega, rfl, rfl, Lib.hid rfl⟩
                  case round =>
                    obtain ⟨m, X2, hm, rfl, rfl, HX2⟩ := hrel
                    by_cases hltm : m < N
                    · have hmI : (m : Int) < N := by omega
                      have hm4 : (m : Int) < 4 := by omega
                      have c0 := HAT.out m (by omega)
                      have hX2 : X2 ++ str (G (q2 * 4 + m)) = str (cat G (q2 * 4) (m + 1)) := by rw [← HX2.out, str_append]; rfl
                      have hs : X2.size + (str (G (q2 * 4 + m))).size ≤ 9223372036854775807 := by
                        rw [← HX2.out, str_size, str_size, HTB2.out.len hltq m (by omega), HTB2.out.2.1 _ (by omega)]; omega
                      obtain ⟨X3, hX3⟩ : ∃ X3, str (cat G (q2 * 4) (m + 1)) = X3 := ⟨_, rfl⟩
                      rw [hX3] at hX2
                      have HX3 := Lib.hid hX3
                      generalize str (G (q2 * 4 + m)) = X4 at *
                      clear hX3
                      go_wp2_with fail
                      go_round
                      case rel => exact ⟨m + 1, X3, by omega, rfl, by go_num, HX3⟩
                      case measure => simp [intOf]; omega
                    · obtain rfl : m = N := by omega
                      obtain rfl : Y = X2 := by rw [← HY.out, ← HX2.out]
                      go_wp2_with (go_at_call 11; refine (num_any _ _).mono ?_; rintro e w' ⟨rfl, rfl⟩)
                      go_roundw
                      case rel => exact ⟨q2 + 1, by omega, by go_num, L8⟩
                      case measure => simp [intOf]; omega
                · obtain rfl : q2 = 3 := by omega
                  rw [show ((3 : Nat) : Int) = 3 from rfl]
                  go_wp2_with fail
                  go_roundw
                  case rel => exact ⟨k + 1, by omega, by omega, by go_num, Lib.hid ⟨G, l5, HTB2.out, L7.out⟩⟩
                  case measure => simp [intOf]; omega
          · have HONE := Lib.hid (shW_no hd3 (show cP d ≤ j by omega))
            go_wp2_with fail
            refine (tk_dwrite (i := 2) (d : Int) (j : Int) X _ L2.out rfl (by rw [HX.out.2]; decide) 1801 (by rw [HX.out.1, dwC_16 HLEN.out, HONE.out]) rfl).mono ?_
            rintro e w5 ⟨rfl, t5⟩
            rw [HX.out.1, dwL_16no HLEN.out (by rw [HONE.out]; decide)] at t5
            have L5 : Hid (Tk nos wa (wkD g c cc F l) w5) := Lib.hid t5
            clear t5 L2 HONE
            have cc0 : w5.cell? ⟨cc, d, none⟩ = some (.int .i64 (cP d : Int)) := by
              rw [(L5.out.blk (i := 1) rfl).cell, itc_get _ _ _ hd3]; rfl
            have hcj : (cP d : Int) ≤ (j : Int) := by omega
            generalize (cP d : Int) = N at cc0 hcj
            go_wp2_with (go_at_call 11; refine (num_any _ _).mono ?_; rintro e w' ⟨rfl, rfl⟩)
            go_roundw
            case rel => exact ⟨k + 1, by omega, by omega, by go_num, Lib.hid ⟨F, l, HTB.out, L5.out⟩⟩
            case measure => simp [intOf]; omega
        · have hx : (k : Int) ≥ n ∨ ((k : Int) < n ∧ decide ((k : Int) < 30) = false) := by
            by_cases h1 : k < n
            · exact .inr ⟨by omega, by simp; omega⟩
            · exact .inl (by omega)
          have HB : Hid (Below w.heap.size w wr) := by
            obtain ⟨F, l, _, tk⟩ := HS.out
            exact Lib.hid (Below.down BA.out tk.below BA.out.size)
          clear hgo HS
          rcases hx with hx | ⟨hx, hx2⟩
          all_goals
            go_wp2_with fail
            go_ret
            exact ⟨rfl, HB.out⟩

end Go.Proofs.Ytjccdimmfhkipaa
