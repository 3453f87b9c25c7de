/-
  Layer 19's law DiskShares: it answers true for every input.
-/
import Derived.Test.YtjccdimmfhkipaaDkAwake
import Derived.Test.YtjccdimmfhkipaaDkP
import Derived.Test.YtjccdimmfhkipaaStx
import Derived.Test.YtjccdimmfhkipaaExApart
import Derived.IntWalk
import Derived.BigQuiet
namespace Go.Proofs.Ytjccdimmfhkipaa
open Go.RowKit
set_option linter.unusedVariables false
set_option linter.unusedSimpArgs false
set_option maxRecDepth 100000

def hashS : ByteArray := ⟨#[35, 35, 35, 35, 35, 35, 35, 35, 35, 35, 35, 35, 35, 35, 35, 35]⟩
/-- The text that is written. -/
def tx16 (s : ByteArray) : List UInt8 := (s.data.toList ++ hashS.data.toList).take 16
theorem tx16_len (s : ByteArray) : (tx16 s).length = 16 := by
  unfold tx16
  rw [List.length_take, List.length_append, show hashS.data.toList.length = 16 from rfl]; omega

/-- A share whole. -/
theorem toC_whole {ps : List (Int × Int)} (h : extB ps 64 = true) {q : Nat} (hq : q < ps.length) : ∃ f c : Nat, (ps.getD q (0, 0)).1 = f ∧ (ps.getD q (0, 0)).2 = c ∧ f + c ≤ 64 ∧ toC ps q 0 c = ((f : Int), 0) := by
  obtain ⟨r0, r1, r2, r3⟩ := extB_run h q hq
  refine ⟨(ps.getD q (0, 0)).1.toNat, (ps.getD q (0, 0)).2.toNat, by omega, by omega, by omega, ?_⟩
  rw [toC_at h hq, if_pos]
  · rw [Int.add_zero]; congr 1; omega
  · exact decide_eq_true (by omega)
theorem toC_one2 {ps : List (Int × Int)} (h : extB ps 64 = true) {p k : Nat} (hp : p < ps.length) (hk : (k : Int) < (ps.getD p (0, 0)).2) : ∃ f : Nat, (ps.getD p (0, 0)).1 = f ∧ toC ps p k 1 = (((f + k : Nat) : Int), 0) ∧ f + k < 64 := by
  obtain ⟨r0, r1, r2, r3⟩ := extB_run h p hp
  obtain ⟨e, h1, h2⟩ := toC_one h hp hk
  refine ⟨(ps.getD p (0, 0)).1.toNat, by omega, ?_, by omega⟩
  rw [e]; congr 1; omega
/-- Another share's run does not hold it. -/
theorem share_far {ps : List (Int × Int)} (h : extB ps 64 = true) {p q k f fq cq : Nat} (hp : p < ps.length) (hq : q < ps.length) (hne : p ≠ q) (hk : (k : Int) < (ps.getD p (0, 0)).2) (hf : (ps.getD p (0, 0)).1 = f) (hfq : (ps.getD q (0, 0)).1 = fq) (hcq : (ps.getD q (0, 0)).2 = cq) : f + k + 1 ≤ fq ∨ fq + cq ≤ f + k := by
  have hg := (extB_parts h).2.2.2.2
  rcases Nat.lt_or_ge (f + k) fq with h1 | h1
  · exact .inl h1
  · rcases Nat.lt_or_ge (f + k) (fq + cq) with h2 | h2
    · exfalso
      rcases Nat.lt_or_gt_of_ne hne with hlt | hlt
      · exact goB_two 64 ps noB hg p q hlt hq (f + k) (by omega) (by omega) (by omega) (by omega)
      · exact goB_two 64 ps noB hg q p hlt hp (f + k) (by omega) (by omega) (by omega) (by omega)
    · exact .inr h2

set_option maxHeartbeats 4000000 in
theorem law_DiskShares (u : Value) (a b : Int) (s : ByteArray) (w : World) (h : ∃ l, PaS w u l ∧ PaZ l) (hs : s.size ≤ 140737488351232) :
    Calls Try.prog 7 #[u, .int .i64 a, .int .i64 b, .string s] w fun e w' => e = .returned (.bool true) ∧ Below w.heap.size w w' := by
  obtain ⟨l, hsl, hz⟩ := h
  have hp := hsl.pts hz
  generalize l.map Pa.fc = ps at hp
  clear hsl hz l
  have HP := Lib.hid hp
  obtain ⟨A, cap, rfl, hn, hA⟩ := hp
  obtain ⟨n, hl⟩ : ∃ n, ps.length = n := ⟨_, rfl⟩
  have HL := Lib.hid hl
  have HA := Lib.hid hA
  rw [hl] at hn HP ⊢
  unfold maxLen at hn
  obtain ⟨E, hE⟩ : ∃ E, extB ps 64 = E := ⟨_, rfl⟩
  have HE := Lib.hid hE
  have hU := u64b a
  have hV := u64b b
  generalize hU' : IntKind.u64.wrap a = U at hU
  generalize hV' : IntKind.u64.wrap b = V at hV
  obtain ⟨hU0, hU1⟩ := hU
  obtain ⟨hV0, hV1⟩ := hV
  clear hE hl hA
  go_enter Try.func7, Try.ntmps7
  go_wp2_with fail
  refine (dkawake_any _).mono ?_
  rintro e w1 ⟨rfl, b1⟩
  have HB := Lib.hid b1
  clear b1
  go_wp2_with fail
  cases E
  · refine (dnew_no _ ps _ _ _ (HP.out.below HB.out) (by rw [HE.out]; intro h; cases h.1)).mono ?_
    rintro e w2 ⟨rfl, b2⟩
    have HB := Lib.hid (Below.down HB.out b2 HB.out.size)
    clear b2
    go_wp2_with (go_at_call 11; refine (num_any _ _).mono ?_; rintro e w' ⟨rfl, rfl⟩)
    go_ret
    exact ⟨rfl, HB.out⟩
  · obtain ⟨hn1, hn4⟩ : 1 ≤ n ∧ n ≤ 4 := by have := extB_parts HE.out; rw [HL.out] at this; exact ⟨this.1, this.2.1⟩
    refine (tk_dnew _ _ _ _ ((Tk.empty w).next HB.out) (HP.out.below HB.out) HE.out (by decide) (by decide)).mono ?_
    rintro e w2 ⟨g, rfl, t⟩
    obtain ⟨Z, hZ⟩ : ∃ Z, zeros 1024 = Z := ⟨_, rfl⟩
    have HZ := Lib.hid hZ
    rw [hZ] at t
    have HT := Lib.hid t
    clear t hZ HB
    have hI0 : 0 ≤ U % (n : Int) := Int.emod_nonneg _ (by omega)
    have hI1 : U % (n : Int) < n := Int.emod_lt_of_pos _ (by omega)
    obtain ⟨p, hpI⟩ := Int.eq_ofNat_of_zero_le hI0
    rw [hpI] at hI1
    have hpn : p < n := by omega
    obtain ⟨bk, o, rfl, hb, hcell⟩ := HA.out (by rw [HL.out]; omega)
    have HQ : Hid (∀ W, Below w.heap.size w W → ∀ q, q < n → W.cell? ⟨bk, o + q * 5 + 4, none⟩ = some (.int .i64 (ps.getD q (0, 0)).2)) := Lib.hid fun W hW q hq => by
      obtain ⟨_, _, _, _, _, _, _, _, _, a4⟩ := hcell q (by rw [HL.out]; exact hq)
      exact (hW.cell (p := ⟨bk, _, none⟩) hb).trans a4
    clear hcell HA hI0
    obtain ⟨f0, c, hf0, hc, hfc, -⟩ := toC_whole HE.out (q := p) (by rw [HL.out]; exact hpn)
    have c4 := HQ.out _ HT.out.below p hpn
    rw [hc] at c4
    have hc64 : c ≤ 64 := by omega
    have HF0 := Lib.hid hf0; have HC := Lib.hid hc
    clear hf0 hc
    by_cases hc0 : c = 0
    · subst hc0
      have HR : Hid (toC ps p 0 1 = (0, 1801)) := Lib.hid (by
        rw [toC_at HE.out (by rw [HL.out]; exact hpn), HC.out, if_neg]
        show ¬ decide _ = true
        rw [decide_eq_true_eq]; omega)
      have c4 : w2.cell? ⟨bk, o + p * 5 + 4, none⟩ = some (.int .i64 0) := c4
      go_wp2_with (go_at_call 11; refine (num_any _ _).mono ?_; rintro e w' ⟨rfl, rfl⟩)
      refine (tk_dread (i := 0) (p : Int) 0 1 _ HT.out rfl ⟨#[]⟩ 1801 (by rw [drT_no (by rw [HR.out]; decide)]; rfl) (by rw [HR.out])).mono ?_
      rintro e w3 ⟨rfl, t3⟩
      have HT := Lib.hid t3
      clear t3
      go_wp2_with (go_at_call 11; refine (num_any _ _).mono ?_; rintro e w' ⟨rfl, rfl⟩)
      go_ret
      exact ⟨rfl, HT.out.below⟩
    · have hJ0 : 0 ≤ V % (c : Int) := Int.emod_nonneg _ (by omega)
      have hJ1 : V % (c : Int) < c := Int.emod_lt_of_pos _ (by omega)
      obtain ⟨k, hkI⟩ := Int.eq_ofNat_of_zero_le hJ0
      rw [hkI] at hJ1
      have hkc : k < c := by omega
      have hcne : ((c : Int) == 0) = false := by simp; omega
      clear hJ0
      obtain ⟨f, hf, hone, hfk⟩ := toC_one2 HE.out (p := p) (k := k) (by rw [HL.out]; exact hpn) (by rw [HC.out]; omega)
      have hlen := tx16_len s
      have hadd : ∀ wx, (Op.stringOp .add s hashS).run Try.prog wx = .ok (.string (str (s.data.toList ++ hashS.data.toList))) wx := fun wx => by
        have := stx_add s.data.toList hashS.data.toList (by rw [list_len, show hashS.data.toList.length = 16 from rfl]; omega) wx
        rw [str_of, str_of] at this; exact this
      have hcut : ∀ wx, (Instr.slice 9 (.string (str (s.data.toList ++ hashS.data.toList))) none (some (.int .i64 16)) none).run Try.prog wx = .ok (.string (str (tx16 s))) wx := fun wx =>
        stx_h (s.data.toList ++ hashS.data.toList) 16 (by rw [List.length_append, show hashS.data.toList.length = 16 from rfl]; omega) wx
      generalize str (s.data.toList ++ hashS.data.toList) = SS at hadd hcut
      have HX : Hid ((str (tx16 s)).data.toList = tx16 s ∧ (str (tx16 s)).size = 16) := Lib.hid ⟨str_list _, by rw [str_size, hlen]⟩
      have HLEN := Lib.hid hlen
      obtain ⟨T, hT⟩ : ∃ T, tx16 s = T := ⟨_, rfl⟩
      rw [hT] at hcut HX HLEN
      obtain ⟨X, hXT⟩ : ∃ X, str T = X := ⟨_, rfl⟩
      have HXT := Lib.hid hXT
      rw [hXT] at hcut HX
      unfold hashS at hadd
      have HF := Lib.hid hf; have HONE := Lib.hid hone
      clear hT hXT hlen hf hone HF0
      go_wp2_with (go_at_call 11; refine (num_any _ _).mono ?_; rintro e w' ⟨rfl, rfl⟩)
      refine (tk_dwrite (i := 0) (p : Int) (k : Int) X _ HT.out rfl (by rw [HX.out.2]; decide) 0 (by rw [HX.out.1, dwC_16 HLEN.out, HONE.out]) rfl).mono ?_
      rintro e w3 ⟨rfl, t3⟩
      obtain ⟨l1, hl1⟩ : ∃ l1, dwL ps Z (p : Int) (k : Int) X.data.toList = l1 := ⟨_, rfl⟩
      rw [hl1] at t3
      have HL1 : Hid (l1 = put (zeros 1024) ((f + k) * 16) T) := Lib.hid (by rw [← hl1, HX.out.1, dwL_16 HLEN.out HONE.out, HZ.out])
      have HT := Lib.hid (show Tk nos w [obPD g ps 3 (qF 3 ps.length) l1] w3 from t3)
      clear t3 hl1 hadd hcut c4 hcne hU' hV' hU0 hU1 hV0 hV1 hpI hkI HONE hI1 hJ1
      have hk16 : IntKind.i64.wrap ((k : Int) * 16) = (k : Int) * 16 := IntWalk.i64_in _ (by omega)
      have hk1 : IntKind.i64.wrap ((k : Int) + 1) = (k : Int) + 1 := IntWalk.i64_in _ (by omega)
      have hk17 : IntKind.i64.wrap (((k : Int) + 1) * 16) = ((k : Int) + 1) * 16 := IntWalk.i64_in _ (by omega)
      have hnI : (n : Int) ≤ 4 := by omega
      go_wp2_with (go_at_call 11; refine (num_any _ _).mono ?_; rintro e w' ⟨rfl, rfl⟩)
      go_loopw [17] (fun i wr => ∃ q : Nat, q ≤ n ∧ i = .int .i64 q ∧ Hid (Tk nos w [obPD g ps 3 (qF 3 ps.length) l1] wr)) (fun i _ => n - (intOf i).toNat)
      case atStart => exact ⟨0, by omega, rfl, HT⟩
      case round =>
        clear HT
        obtain ⟨q, hqn, rfl, HT⟩ := hrel
        by_cases hlt : q < n
        · obtain ⟨fq, cq, hfq, hcq, hfc2, hwh⟩ := toC_whole HE.out (q := q) (by rw [HL.out]; exact hlt)
          have c4 := HQ.out _ HT.out.below q hlt
          rw [hcq] at c4
          have hcq64 : cq ≤ 64 := by omega
          have hltI : (q : Int) < n := by omega
          obtain ⟨Y, hY⟩ : ∃ Y, str (drT ps l1 (q : Int) 0 (cq : Int)) = Y := ⟨_, rfl⟩
          have HY : Hid (Y = str (seg l1 (fq * 16) (cq * 16))) := Lib.hid (by rw [← hY, drT_at rfl hwh])
          have HW := Lib.hid hwh
          have hmk := fun W => make_u8 W (cq * 16) (by omega)
          have hcv := fun W => make_str W (cq * 16) (by omega)
          rw [show ((cq * 16 : Nat) : Int) = (cq : Int) * 16 by omega] at hmk
          have hc16 : IntKind.i64.wrap ((cq : Int) * 16) = (cq : Int) * 16 := IntWalk.i64_in _ (by omega)
          obtain ⟨ZQ, hZQ⟩ : ∃ ZQ, zeros (cq * 16) = ZQ := ⟨_, rfl⟩
          rw [hZQ] at hmk hcv
          have HZQ := Lib.hid hZQ
          have HH := Lib.hid hY
          clear hY hZQ hwh
          go_wp2_with fail
          refine (tk_dread (i := 0) (q : Int) 0 (cq : Int) _ HT.out rfl Y 0 HH.out (by rw [HW.out])).mono ?_
          rintro e w4 ⟨rfl, t4⟩
          have c4 := HQ.out _ t4.below q hlt
          rw [hcq] at c4
          have HT := Lib.hid (t4.next ((Below.refl _ w4).alloc (Nat.le_refl _) (.cells (bts ZQ).toArray 5)))
          clear t4
          by_cases hqp : q = p
          · subst hqp
            have hff : fq = f ∧ cq = c := by have h1 := HF.out; have h2 := HC.out; omega
            obtain ⟨rfl, rfl⟩ := hff
            have hcl : ZQ.length = cq * 16 := by rw [← HZQ.out, zeros_len]
            have hYS : Y = str ((ZQ.take (k * 16) ++ T) ++ ZQ.drop ((k + 1) * 16)) := by
              rw [HY.out, HL1.out, seg_in (by rw [zeros_len]; omega) (by omega) (by rw [HLEN.out]; omega), seg_zeros (by omega), HZQ.out]
              unfold put
              rw [HLEN.out, show (fq + k) * 16 - fq * 16 = k * 16 by omega, show k * 16 + 16 = (k + 1) * 16 by omega]
            have s1 : ∀ wx, (Instr.slice 9 (.string (str ZQ)) none (some (.int .i64 ((k : Int) * 16))) none).run Try.prog wx = .ok (.string (str (ZQ.take (k * 16)))) wx := fun wx => by
              have := stx_h ZQ (k * 16) (by omega) wx
              rw [show ((k * 16 : Nat) : Int) = (k : Int) * 16 by omega] at this; exact this
            have s2 : ∀ wx, (Instr.slice 9 (.string (str ZQ)) (some (.int .i64 (((k : Int) + 1) * 16))) none none).run Try.prog wx = .ok (.string (str (ZQ.drop ((k + 1) * 16)))) wx := fun wx => by
              have := stx_l ZQ ((k + 1) * 16) (by omega) wx
              rw [show (((k + 1) * 16 : Nat) : Int) = ((k : Int) + 1) * 16 by omega] at this; exact this
            have a1 : ∀ wx, (Op.stringOp .add (str (ZQ.take (k * 16))) X).run Try.prog wx = .ok (.string (str (ZQ.take (k * 16) ++ T))) wx := fun wx => by
              have := stx_add (ZQ.take (k * 16)) T (by rw [List.length_take, HLEN.out]; omega) wx
              rw [HXT.out] at this; exact this
            have a2 : ∀ wx, (Op.stringOp .add (str (ZQ.take (k * 16) ++ T)) (str (ZQ.drop ((k + 1) * 16)))).run Try.prog wx = .ok (.string Y) wx := fun wx => by
              have := stx_add (ZQ.take (k * 16) ++ T) (ZQ.drop ((k + 1) * 16)) (by rw [List.length_append, List.length_take, HLEN.out, List.length_drop]; omega) wx
              rw [← hYS] at this; exact this
            generalize str (ZQ.drop ((k + 1) * 16)) = S4 at *
            generalize str (ZQ.take (k * 16) ++ T) = S3 at *
            generalize str (ZQ.take (k * 16)) = S2 at *
            generalize str ZQ = S1 at *
            clear hYS hcl
            go_wp2_with fail
            go_quiet (fail)
            have HT2 := Lib.hid (HT.out.drewN nq)
            clear HT c4 hmk hcv s1 s2 a1 a2
            go_wp2_with (go_at_call 11; refine (num_any _ _).mono ?_; rintro e w' ⟨rfl, rfl⟩)
            go_roundw
            case rel => exact ⟨q + 1, by omega, by go_num, HT2⟩
            case measure => simp [intOf]; omega
          · have hqb : ((q : Int) == (p : Int)) = false := by simp; omega
            have hYS : Y = str ZQ := by
              have hfar := share_far (k := k) HE.out (by rw [HL.out]; exact hpn) (by rw [HL.out]; exact hlt) (fun e => hqp e.symm) (by rw [HC.out]; omega) HF.out hfq hcq
              rw [HY.out, HL1.out, seg_far (b := fq * 16) (n := cq * 16) (by rw [HLEN.out, zeros_len]; omega) (by rw [HLEN.out]; omega), seg_zeros (by omega), HZQ.out]
            rw [← hYS] at hcv
            clear hYS
            go_wp2_with (go_at_call 11; refine (num_any _ _).mono ?_; rintro e w' ⟨rfl, rfl⟩)
            go_roundw
            case rel => exact ⟨q + 1, by omega, by go_num, HT⟩
            case measure => simp [intOf]; omega
        · go_wp2_with fail
          go_ret
          exact ⟨rfl, HT.out.below⟩

end Go.Proofs.Ytjccdimmfhkipaa
