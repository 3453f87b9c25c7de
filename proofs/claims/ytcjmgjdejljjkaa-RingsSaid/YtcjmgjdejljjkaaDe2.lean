/-
  Contracts of package desc: number, fieldsOf, Get.
-/
import Derived.Test.YtcjmgjdejljjkaaDe1
import Derived.StillTailTactics
import Derived.BigRegion
namespace Go.Proofs.Ytcjmgjdejljjkaa
open Go.RowKit
set_option linter.unusedVariables false
set_option maxRecDepth 100000

theorem number2_any (a b : UInt8) (w : World) :
    Calls Try.prog 38 #[.int .u8 (a.toNat : Int), .int .u8 (b.toNat : Int)] w fun e w' => e = .returned (.int .i64 ((a.toNat : Int) + 256 * (b.toNat : Int))) ∧ w' = w := by
  have hN := num2 a b
  have ha := a.toNat_lt
  have hb := b.toNat_lt
  generalize hA : (a.toNat : Int) = A at *
  generalize hB : (b.toNat : Int) = B at *
  have ha0 : 0 ≤ A := by omega
  have hb0 : 0 ≤ B := by omega
  have ha1 : A < 256 := by omega
  have hb1 : B < 256 := by omega
  clear hA hB ha hb
  go_enter Try.func38, Try.ntmps38
  go_wp2
  go_ret
  exact ⟨rfl, rfl⟩

set_option maxHeartbeats 1000000 in
theorem fields_de (s : ByteArray) (w : World) (hs : s.size = 8) :
    Calls Try.prog 33 #[.string s] w fun e w' => e = .returned (.agg #[.int .i64 (fo s.data.toList), .int .i64 (fx s.data.toList), .int .i64 (fl s.data.toList), .int .i64 (fb s.data.toList), .int .i64 (fn s.data.toList)]) ∧ Below w.heap.size w w' := by
  have h0 : 0 < s.size := by omega
  have h1 : 1 < s.size := by omega
  have h2 : 2 < s.size := by omega
  have h3 : 3 < s.size := by omega
  have h4 : 4 < s.size := by omega
  have h5 : 5 < s.size := by omega
  have h6 : 6 < s.size := by omega
  have e0 : fo s.data.toList = (s[0].toNat : Int) := by unfold fo; rw [byte_get s 0 h0]
  have e1 : fx s.data.toList = (s[1].toNat : Int) := by unfold fx; rw [byte_get s 1 h1]
  have e2 : fl s.data.toList = (s[2].toNat : Int) + (256 : Int) * (s[3].toNat : Int) := by unfold fl; rw [byte_get s 2 h2, byte_get s 3 h3]
  have e3 : fb s.data.toList = (s[4].toNat : Int) + (256 : Int) * (s[5].toNat : Int) := by unfold fb; rw [byte_get s 4 h4, byte_get s 5 h5]
  have e4 : fn s.data.toList = (s[6].toNat : Int) := by unfold fn; rw [byte_get s 6 h6]
  rw [e0, e1, e2, e3, e4]
  clear e0 e1 e2 e3 e4
  have W0 := Lib.hid (u8_wrap s[0])
  have W1 := Lib.hid (u8_wrap s[1])
  have W6 := Lib.hid (u8_wrap s[6])
  have t0 := Blk.new w 42 [.int .i64 0, .int .i64 0, .int .i64 0, .int .i64 0, .int .i64 0]
  have b0 : Below w.heap.size w (w.alloc (.cells #[.int .i64 0, .int .i64 0, .int .i64 0, .int .i64 0, .int .i64 0] 42)) := (Below.refl _ _).alloc (Nat.le_refl _) _
  go_enter Try.func33, Try.ntmps33
  go_wp2_with fail
  go_still_tail 20, (by kernel_rfl)
  repeat still_step
  still_call (number2_any _ _ _)
  repeat still_step
  still_call (number2_any _ _ _)
  repeat still_step
  refine wpStill_nil ?_
  rw [W0.out, W1.out, W6.out]
  change wpList _ _ _ _ _ (World.drew _)
  replace t0 := t0.drewN 1
  replace b0 := bdrewN b0 1
  change Blk (World.drew _) _ _ _ at t0
  change Below _ _ (World.drew _) at b0
  generalize World.drew _ = wd at *
  have hg := t0.lt
  obtain ⟨c0, c1, c2, c3, c4⟩ := five_at t0
  obtain ⟨f0, f1, f2, f3, f4⟩ := five_fr t0
  have B0 := Lib.hid b0
  generalize hG : w.heap.size = G at *
  have HG := Lib.hid hG
  clear t0 b0 W0 W1 W6 hG
  go_wp2_with fail
  exact bodyPost_ret (v := .agg #[.int .i64 (s[0].toNat : Int), .int .i64 (s[1].toNat : Int), .int .i64 ((s[2].toNat : Int) + (256 : Int) * (s[3].toNat : Int)), .int .i64 ((s[4].toNat : Int) + (256 : Int) * (s[5].toNat : Int)), .int .i64 (s[6].toNat : Int)]) (by simp [results, Try.results33, go_sem, c0, c1, c2, c3, c4]) rfl ⟨rfl, by
    rw [HG.out]; exact ((((B0.out.setCell (Nat.le_refl _) _).setCell (Nat.le_refl _) _).setCell (Nat.le_refl _) _).setCell (Nat.le_refl _) _).setCell (Nat.le_refl _) _⟩

/-- Put, its answer known. -/
theorem deput_is (o x l b n c : Int) (S : ByteArray) (w : World) (hS : str (deL o x l b n) = S) (hc : e16 (deB o x l b n) = c) :
    Calls Try.prog 34 #[.agg #[.int .i64 o, .int .i64 x, .int .i64 l, .int .i64 b, .int .i64 n]] w fun e w' => e = .returned (.tuple #[.string S, .int .i64 c]) ∧ Below w.heap.size w w' := by
  subst hS hc; exact deput_any o x l b n w

theorem str_inj {a b : List UInt8} (h : str a = str b) : a = b := by
  have := congrArg (fun s => s.data.toList) h
  simpa [str_list] using this

/-- The ways of the program's Get. -/
theorem deg_ways (t : List UInt8) (h : t.length = 8) : (dgB t = true ∧ e16 (deB (fo t) (fx t) (fl t) (fb t) (fn t)) = 0 ∧ str (deL (fo t) (fx t) (fl t) (fb t) (fn t)) = str t) ∨
    (dgB t = false ∧ ((e16 (deB (fo t) (fx t) (fl t) (fb t) (fn t)) = 1600) ∨ (e16 (deB (fo t) (fx t) (fl t) (fb t) (fn t)) = 0 ∧ str (deL (fo t) (fx t) (fl t) (fb t) (fn t)) ≠ str t))) := by
  rcases dg_ways t with ⟨hg, hl⟩ | ⟨hg, hl, h7⟩ | ⟨hg, hl, h7, hd⟩ | ⟨hg, hl, h7, hd⟩
  · exact absurd h hl
  · refine .inr ⟨hg, ?_⟩
    cases hb : deB (fo t) (fx t) (fl t) (fb t) (fn t) with
    | false => exact .inl rfl
    | true => exact .inr ⟨rfl, fun e => dg_last t h h7 (by rw [deL_yes hb] at e; exact str_inj e)⟩
  · unfold dfB at hd
    exact .inr ⟨hg, .inl (by rw [hd]; rfl)⟩
  · unfold dfB at hd
    exact .inl ⟨hg, by rw [hd]; rfl, by rw [deL_yes hd, dg_put t h h7]⟩

set_option maxHeartbeats 2000000 in
theorem deget_any (s : ByteArray) (w : World) :
    Calls Try.prog 22 #[.string s] w fun e w' => e = .returned (degV s.data.toList) ∧ Below w.heap.size w w' := by
  have hsz := list_len s
  have t0 := Blk.new w 42 [.int .i64 0, .int .i64 0, .int .i64 0, .int .i64 0, .int .i64 0]
  have z0 : Below w.heap.size w (w.alloc (.cells #[.int .i64 0, .int .i64 0, .int .i64 0, .int .i64 0, .int .i64 0] 42)) := (Below.refl _ _).alloc (Nat.le_refl _) _
  by_cases hl : s.size = 8
  · have HQ := Lib.hid (deg_ways s.data.toList (by omega))
    rw [str_of] at HQ
    have hs : ((s.size : Int) == 8) = true := by simp; omega
    have HY := Lib.hid (fun h => degV_yes (t := s.data.toList) h)
    have HN := Lib.hid (fun h => degV_no (t := s.data.toList) h)
    have HL := Lib.hid hl
    clear hsz hl
    go_enter Try.func22, Try.ntmps22
    go_wp2_with fail
    generalize w.alloc (.cells #[.int .i64 0, .int .i64 0, .int .i64 0, .int .i64 0, .int .i64 0] 42) = w1 at *
    refine (fields_de s _ HL.out).mono ?_
    rintro e w2 ⟨rfl, b2⟩
    generalize fo s.data.toList = o at *
    generalize fx s.data.toList = x at *
    generalize fl s.data.toList = l at *
    generalize fb s.data.toList = b at *
    generalize fn s.data.toList = n at *
    have z2 := Below.down z0 b2 z0.size
    have hs2 := z2.size
    have t2 := (t0.below b2 t0.lt).alloc (.cells #[.int .i64 o, .int .i64 x, .int .i64 l, .int .i64 b, .int .i64 n] 42)
    have c2 := Blk.new w2 42 [.int .i64 o, .int .i64 x, .int .i64 l, .int .i64 b, .int .i64 n]
    have z3 := z2.alloc hs2 (.cells #[.int .i64 o, .int .i64 x, .int .i64 l, .int .i64 b, .int .i64 n] 42)
    have hlt := t0.lt
    have hlt2 : w1.heap.size ≤ w2.heap.size := b2.size
    clear t0 z0 b2 z2
    go_wp2_with fail
    generalize w2.alloc (.cells #[.int .i64 o, .int .i64 x, .int .i64 l, .int .i64 b, .int .i64 n] 42) = w3 at *
    generalize hS : str (deL o x l b n) = S at *
    generalize hC : e16 (deB o x l b n) = C at *
    refine (deput_is o x l b n C S _ hS hC).mono ?_
    rintro e w4 ⟨rfl, b4⟩
    have t4 := t2.below b4 t2.lt
    have c4 := c2.below b4 c2.lt
    have z4 := Below.down z3 b4 z3.size
    obtain ⟨t40, t41, t42, t43, t44⟩ := five_at t4
    obtain ⟨f40, f41, f42, f43, f44⟩ := five_fr t4
    obtain ⟨c40, c41, c42, c43, c44⟩ := five_at c4
    have hne : w2.heap.size ≠ w.heap.size := by omega
    generalize w2.heap.size = G2 at *
    generalize hG : w.heap.size = G at *
    have HG := Lib.hid hG
    have Z4 := Lib.hid z4
    clear t2 c2 z3 b4 hS hC hs2 hlt hlt2 t4 c4 z4 hG
    rcases HQ.out with ⟨hg, rfl, rfl⟩ | ⟨hg, rfl | ⟨rfl, hn⟩⟩
    · have HE := Lib.hid (HY.out hg)
      clear hg
      go_wp2_with fail
      exact bodyPost_ret (v := .tuple #[.agg #[.int .i64 o, .int .i64 x, .int .i64 l, .int .i64 b, .int .i64 n], .int .i64 0]) (by simp [results, Try.results22, go_sem, t40, t41, t42, t43, t44]) rfl ⟨by rw [HE.out], by
        rw [HG.out]; exact ((((Z4.out.setCell (Nat.le_refl _) _).setCell (Nat.le_refl _) _).setCell (Nat.le_refl _) _).setCell (Nat.le_refl _) _).setCell (Nat.le_refl _) _⟩
    · have HE := Lib.hid (HN.out hg)
      clear hg
      go_wp2_with fail
      exact bodyPost_ret (v := .tuple #[.agg #[.int .i64 0, .int .i64 0, .int .i64 0, .int .i64 0, .int .i64 0], .int .i64 1600]) (by simp [results, Try.results22, go_sem, t40, t41, t42, t43, t44]) rfl ⟨by rw [HE.out], by
        rw [HG.out]; exact ((((Z4.out.setCell (Nat.le_refl _) _).setCell (Nat.le_refl _) _).setCell (Nat.le_refl _) _).setCell (Nat.le_refl _) _).setCell (Nat.le_refl _) _⟩
    · have HE := Lib.hid (HN.out hg)
      have hn2 := str_ne hn
      clear hg hn
      go_wp2_with fail
      exact bodyPost_ret (v := .tuple #[.agg #[.int .i64 0, .int .i64 0, .int .i64 0, .int .i64 0, .int .i64 0], .int .i64 1600]) (by simp [results, Try.results22, go_sem, t40, t41, t42, t43, t44]) rfl ⟨by rw [HE.out], by
        rw [HG.out]; exact ((((Z4.out.setCell (Nat.le_refl _) _).setCell (Nat.le_refl _) _).setCell (Nat.le_refl _) _).setCell (Nat.le_refl _) _).setCell (Nat.le_refl _) _⟩
  · have hs : ((s.size : Int) == 8) = false := by simp; omega
    have hg : dgB s.data.toList = false := by
      rcases dg_ways s.data.toList with ⟨hg, _⟩ | ⟨hg, _⟩ | ⟨hg, _⟩ | ⟨_, h, _⟩
      · exact hg
      · exact hg
      · exact hg
      · exact absurd h (by omega)
    rw [degV_no hg]
    clear hg hsz hl t0 z0
    go_enter Try.func22, Try.ntmps22
    go_wp2_with fail
    exact bodyPost_ret (v := .tuple #[.agg #[.int .i64 0, .int .i64 0, .int .i64 0, .int .i64 0, .int .i64 0], .int .i64 1600]) (by simp [results, Try.results22, go_sem]) rfl ⟨rfl, (Below.refl _ _).alloc (Nat.le_refl _) _⟩

end Go.Proofs.Ytcjmgjdejljjkaa
