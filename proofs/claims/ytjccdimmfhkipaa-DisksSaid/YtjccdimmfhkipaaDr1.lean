/-
  Layer 19, the document: Read, Write.
-/
import Derived.Test.YtjccdimmfhkipaaDr0
import Derived.Test.YtjccdimmfhkipaaPhysR
namespace Go.Proofs.Ytjccdimmfhkipaa
open Go.RowKit
set_option linter.unusedVariables false
set_option linter.unusedSimpArgs false
set_option maxRecDepth 100000

section
variable {w : World} {r a ca hb b cb : Nat} {ps : List (Int × Int)} {N : Nat} {Q : Int} {L : Nat → Int} {l : List UInt8}
theorem RD.text (d : RD w r a ca hb b cb ps N Q L l) (x k : Nat) (hk : x + k ≤ N) : ∃ o, (Instr.slice 56 (.slice (some ⟨hb, 0, none⟩) (N * 16) (N * 16)) (some (.int .i64 ((x : Int) * 16))) (some (.int .i64 (((x : Int) + k) * 16))) none).run Try.prog w = .ok (.slice (some ⟨hb, o, none⟩) (k * 16) (N * 16 - x * 16)) w ∧
    (convert 56 9 (.slice (some ⟨hb, o, none⟩) (k * 16) (N * 16 - x * 16))).run Try.prog w = .ok (.string (str (seg l (x * 16) (k * 16)))) w := by
  have hN := d.p4
  obtain ⟨o, ho, hs⟩ := sl_lh w hb (N * 16) (x * 16) (k * 16) (by omega) (by omega)
  rw [show (((x * 16 : Nat) : Int)) = (x : Int) * 16 by omega, show (x : Int) * 16 + ((k * 16 : Nat) : Int) = ((x : Int) + k) * 16 by omega] at hs
  refine ⟨o, hs, ?_⟩
  have hl := seg_len l (x * 16) (k * 16) (by rw [d.ll]; omega)
  have := conv_str (w := w) hb o (N * 16 - x * 16) (seg l (x * 16) (k * 16)) (fun i hi => by
    rw [hl] at hi
    obtain rfl : o = x * 16 := by omega
    rw [d.byte (x * 16 + i) (by omega)]
    simp [seg, List.getD, hi])
  rw [hl] at this
  exact this

set_option maxHeartbeats 1000000 in
theorem rdread_any (p y n : Int) (d : RD w r a ca hb b cb ps N Q L l) :
    Calls Try.prog 17 #[.pointer (some ⟨r, 0, none⟩), .int .i64 p, .int .i64 y, .int .i64 n] w fun e w' => e = .returned (.tuple #[.string (str (drT ps l p y n)), .int .i64 (toC ps p y n).2]) ∧ Below w.heap.size w w' := by
  have HT := Lib.hid (rto_any _ ps p y n w d.pts)
  have HD := Lib.hid d
  obtain ⟨c0, _⟩ := d.heads
  have HX : Hid ((toC ps p y n).2 = 0 → ∃ x k : Nat, (toC ps p y n).1 = x ∧ n = k ∧ (x : Int) + k ≤ N) := Lib.hid (fun e => toC_in d.ext e)
  have HA : Hid (drT ps l p y n = if (toC ps p y n).2 = 0 then seg l ((toC ps p y n).1.toNat * 16) (n.toNat * 16) else []) := Lib.hid rfl
  have hN := d.p4.2.2
  clear d
  obtain ⟨R, hR⟩ : ∃ R, toC ps p y n = R := ⟨_, rfl⟩
  rw [hR] at HT HX HA ⊢
  clear hR
  by_cases h0 : R.2 = 0
  · obtain ⟨x, k, hx, rfl, hk⟩ := HX.out h0
    have HA2 : Hid (drT ps l p y k = seg l (x * 16) (k * 16)) := Lib.hid (by rw [HA.out, if_pos h0, hx, Int.toNat_natCast, Int.toNat_natCast])
    obtain ⟨R1, R2⟩ := R
    simp only at hx h0
    subst hx; subst h0
    have hk2 : x + k ≤ N := by omega
    clear HX HA
    go_enter Try.func17, Try.ntmps17
    go_wp2_with fail
    refine HT.out.mono ?_
    rintro e w1 ⟨rfl, bb⟩
    have d1 := HD.out.below bb
    obtain ⟨o, hs, hv⟩ := d1.text x k hk2
    obtain ⟨_, _, c2, _⟩ := d1.heads
    have HB := Lib.hid bb
    rw [← HA2.out] at hv
    clear bb d1 c0
    go_wp2_with fail
    go_ret2
    exact ⟨rfl, HB.out⟩
  · have HA2 : Hid (drT ps l p y n = []) := Lib.hid (by rw [HA.out, if_neg h0])
    have hne : (R.2 != 0) = true := by simpa using h0
    obtain ⟨R1, R2⟩ := R
    simp only at hne
    clear HX HA h0
    go_enter Try.func17, Try.ntmps17
    go_wp2_with fail
    refine HT.out.mono ?_
    rintro e w1 ⟨rfl, bb⟩
    have HB := Lib.hid bb
    clear bb c0
    go_wp2_with fail
    go_ret2
    exact ⟨by rw [HA2.out]; rfl, HB.out⟩

/-- What of a writing is known. -/
def RWd (r a ca hb b cb : Nat) (ps : List (Int × Int)) (N : Nat) (Q : Int) (L : Nat → Int) (l : List UInt8) (w w' : World) : Prop := RD w' r a ca hb b cb ps N Q L l ∧ w.grownBy w' (some hb)

set_option maxHeartbeats 2000000 in
theorem rdwrite_any (p y : Int) (s : ByteArray) (d : RD w r a ca hb b cb ps N Q L l) (hs : s.size ≤ maxLen) :
    Calls Try.prog 15 #[.pointer (some ⟨r, 0, none⟩), .int .i64 p, .int .i64 y, .string s] w fun e w' => e = .returned (.int .i64 (dwC ps p y s.data.toList)) ∧ RD w' r a ca hb b cb ps N Q L (dwL ps l p y s.data.toList) ∧ w.grownBy w' (some hb) := by
  have HT := Lib.hid (rto_any _ ps p y ((s.size : Int) / 16) w d.pts)
  have HD := Lib.hid d
  obtain ⟨c0, _⟩ := d.heads
  have HX : Hid ((toC ps p y ((s.size : Int) / 16)).2 = 0 → ∃ x k : Nat, (toC ps p y ((s.size : Int) / 16)).1 = x ∧ ((s.size : Int) / 16) = k ∧ (x : Int) + k ≤ N) := Lib.hid (fun e => toC_in d.ext e)
  have HW : Hid (dwC ps p y s.data.toList = if (toC ps p y ((s.size : Int) / 16)).2 = 0 then (if s.size % 16 = 0 then 0 else 1900) else (toC ps p y ((s.size : Int) / 16)).2) := Lib.hid (by unfold dwC; rw [list_len])
  have HL : Hid (dwL ps l p y s.data.toList = if dwC ps p y s.data.toList = 0 then put l ((toC ps p y ((s.size : Int) / 16)).1.toNat * 16) s.data.toList else l) := Lib.hid (by unfold dwL; rw [list_len])
  have hN := d.p4.2.2
  have hll := d.ll
  unfold maxLen at hs
  clear d
  obtain ⟨R, hR⟩ : ∃ R, toC ps p y ((s.size : Int) / 16) = R := ⟨_, rfl⟩
  rw [hR] at HT HX HW HL
  clear hR
  by_cases h0 : R.2 = 0
  · have e0 : (R.2 != 0) = false := by rw [h0]; rfl
    by_cases h6 : s.size % 16 = 0
    · obtain ⟨x, k0, hx, hk, hxk⟩ := HX.out h0
      have hal : x * 16 + s.size ≤ N * 16 := by omega
      have hal2 : x * 16 + s.size ≤ l.length := by rw [hll]; omega
      have e6 : ((s.size : Int) % 16 != 0) = false := by simp; omega
      have HC : Hid (dwC ps p y s.data.toList = 0) := Lib.hid (by rw [HW.out, if_pos h0, if_pos h6])
      have HY : Hid (dwL ps l p y s.data.toList = put l (x * 16) s.data.toList) := Lib.hid (by rw [HL.out, if_pos HC.out, hx, Int.toNat_natCast])
      obtain ⟨R1, R2⟩ := R
      simp only at hx h0 e0
      subst hx; subst h0
      have hx64 : x ≤ 64 := by omega
      have hN16 : (N : Int) * 16 ≤ 1024 := by omega
      clear HX HW HL h6 hk hxk e0
      go_enter Try.func15, Try.ntmps15
      go_wp2_with fail
      refine HT.out.mono ?_
      rintro e w1 ⟨rfl, bb⟩
      have S0 : Hid (RWd r a ca hb b cb ps N Q L (put l (x * 16) (s.data.toList.take 0)) w w1) := Lib.hid ⟨by rw [List.take_zero, put_nil]; exact HD.out.below bb, gof bb _⟩
      clear bb c0
      go_wp2_with fail
      clear e6
      go_loopw [11] (fun i wr => ∃ k : Nat, k ≤ s.size ∧ i = .int .i64 k ∧ Hid (RWd r a ca hb b cb ps N Q L (put l (x * 16) (s.data.toList.take k)) w wr)) (fun i _ => s.size - (intOf i).toNat)
      case atStart => exact ⟨0, by omega, rfl, S0⟩
      case round =>
        clear S0
        obtain ⟨k, hk, rfl, H⟩ := hrel
        by_cases hlt : k < s.size
        · obtain ⟨d, hg⟩ := H.out
          obtain ⟨_, _, c2, _⟩ := d.heads
          have hu := d.byte (x * 16 + k) (by omega)
          have hf := d.byt.frozen (x * 16 + k)
          have hst := (d.drewN 1).setByte (x * 16 + k) s[k]
          rw [put_step l (x * 16) s.data.toList k (by rw [list_len]; exact hlt) (by rw [list_len]; exact hal2) _ (byte_get s k hlt)] at hst
          have HH := Lib.hid hst; have HG := Lib.hid (gdrewN hg 1); clear hst hg d H
          generalize ((put l (x * 16) (s.data.toList.take k)).getD (x * 16 + k) 0).toNat = u at hu
          have i1 : (k : Int) < s.size := by omega
          have i2 : (0 : Int) ≤ k := by omega
          obtain ⟨M, hM⟩ : ∃ M, N * 16 = M := ⟨_, rfl⟩
          rw [hM] at c2
          have i3 : (x : Int) * 16 + k < M := by omega
          clear hM
          have i4 : (0 : Int) ≤ (x : Int) * 16 + k := by omega
          have i5 : IntKind.i64.wrap ((x : Int) * 16 + k) = (x : Int) * 16 + k := IntWalk.i64_in _ (by omega)
          have i7 : IntKind.i64.wrap ((x : Int) * 16) = (x : Int) * 16 := IntWalk.i64_in _ (by omega)
          have i6 : ((x : Int) * 16 + k).toNat = x * 16 + k := by omega
          go_wp2_with fail
          go_still_tail 12, (by kernel_rfl)
          change wpList _ _ _ _ _ wr.drew
          clear i5 i6 i7
          have hu' : wr.drew.cell? ⟨hb, x * 16 + k, none⟩ = some (.int .u8 (u : Int)) := hu
          have hf' : wr.drew.frozen? ⟨hb, x * 16 + k, none⟩ = false := hf
          clear hu hf c2
          have H2 : Hid (RD (wr.drew.setCell ⟨hb, x * 16 + k, none⟩ (.int .u8 (s[k].toNat : Int))) r a ca hb b cb ps N Q L (put l (x * 16) (s.data.toList.take (k + 1)))) := Lib.hid HH.out
          have G2 : Hid (w.grownBy wr.drew (some hb)) := Lib.hid HG.out
          clear HH HG
          generalize wr.drew = wd at *
          go_wp2_with fail
          go_roundw
          case rel => exact ⟨k + 1, by omega, by go_num, Lib.hid ⟨H2.out, gtrans G2.out (gone _)⟩⟩
          case measure => simp [intOf]; omega
        · obtain rfl : k = s.size := by omega
          go_wp2_with fail
          go_ret
          have h1 := H.out.1
          rw [List.take_of_length_le (by rw [list_len]; omega)] at h1
          exact ⟨by rw [HC.out]; rfl, by rw [HY.out]; exact h1, H.out.2⟩
    · have e6 : ((s.size : Int) % 16 != 0) = true := by simp; omega
      have HC : Hid (dwC ps p y s.data.toList = 1900) := Lib.hid (by rw [HW.out, if_pos h0, if_neg h6])
      have HY : Hid (dwL ps l p y s.data.toList = l) := Lib.hid (by rw [HL.out, HC.out, if_neg (by decide)])
      obtain ⟨R1, R2⟩ := R
      simp only at e0
      clear HX HW HL h0 h6
      go_enter Try.func15, Try.ntmps15
      go_wp2_with fail
      refine HT.out.mono ?_
      rintro e w1 ⟨rfl, bb⟩
      have HB := Lib.hid bb
      clear bb c0
      go_wp2_with fail
      go_ret
      exact ⟨by rw [HC.out]; rfl, by rw [HY.out]; exact HD.out.below HB.out, gof HB.out _⟩
  · have e0 : (R.2 != 0) = true := by simpa using h0
    have HC : Hid (dwC ps p y s.data.toList = R.2) := Lib.hid (by rw [HW.out, if_neg h0])
    have HY : Hid (dwL ps l p y s.data.toList = l) := Lib.hid (by rw [HL.out, HC.out, if_neg h0])
    obtain ⟨R1, R2⟩ := R
    simp only at e0 HC
    clear HX HW HL h0
    go_enter Try.func15, Try.ntmps15
    go_wp2_with fail
    refine HT.out.mono ?_
    rintro e w1 ⟨rfl, bb⟩
    have HB := Lib.hid bb
    clear bb c0
    go_wp2_with fail
    go_ret
    exact ⟨by rw [HC.out]; rfl, by rw [HY.out]; exact HD.out.below HB.out, gof HB.out _⟩
end

end Go.Proofs.Ytjccdimmfhkipaa
