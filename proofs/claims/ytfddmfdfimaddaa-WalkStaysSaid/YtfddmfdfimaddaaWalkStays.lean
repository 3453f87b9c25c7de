/-
  Layer 5's law WalkStays: it answers true for every input.
-/
import Derived.Test.YtfddmfdfimaddaaWalkAwake
import Derived.Test.YtfddmfdfimaddaaWhole
namespace Go.Proofs.Ytfddmfdfimaddaa
open Go.RowKit
set_option linter.unusedVariables false

set_option maxRecDepth 100000 in
set_option maxHeartbeats 4000000 in
theorem law_WalkStays (v1 v2 : Value) (n1 n2 : Nat) (zs qs : List Int) (p : Int) (w : World) (h1 : Sl w v1 n1 1 (ints zs)) (h2 : Sl w v2 n2 1 (ints qs)) (hn1 : n1 ≤ maxLen) (hn2 : n2 ≤ maxLen) (hl1 : zs.length = n1) (hl2 : qs.length = n2) :
    Calls Try.prog 6 #[v1, v2, .int .i64 p] w fun e w' => e = .returned (.bool true) ∧ Below w.heap.size w w' := by
  have HF := fun W => filled_yes 10 v1 v2 n1 n2 zs qs W
  have H1 := Lib.hid h1; have H2 := Lib.hid h2; have HN1 := Lib.hid hn1; have HN2 := Lib.hid hn2; have HL1 := Lib.hid hl1; have HL2 := Lib.hid hl2
  clear h1 h2 hn1 hn2 hl1 hl2
  have hJ := band p 255 (by omega) (by omega)
  generalize hJ' : bits BinOp.and IntKind.i64 p 255 = J at hJ
  obtain ⟨hJ0, hJ1⟩ := hJ
  go_enter Try.func6, Try.ntmps6
  go_wp2_with fail
  refine (wawake_any _).mono ?_
  rintro e wa ⟨rfl, ba⟩
  have hsa := ba.size
  have S1 := Lib.hid (H1.out.below ba); have S2 := Lib.hid (H2.out.below ba)
  go_wp2_with fail
  refine (HF _ S1.out S2.out HN1.out HN2.out HL1.out HL2.out (by omega) (by omega)).mono ?_
  have hlen := fillL_len zs qs (16 * 10) (zeros (64 * 10)) (min n1 (min n2 40))
  rw [zeros_len] at hlen
  generalize fillL zs qs (16 * 10) (zeros (64 * 10)) (min n1 (min n2 40)) = L at hlen ⊢
  rintro e w1 ⟨g, r, b, rfl, hg, hr, hb, t1, r1, b1⟩
  replace b1 := Below.down ba b1 hsa
  have hwl := rd_whole L
  rw [hlen] at hwl
  generalize str L = S0 at hwl
  have HWL := Lib.hid hwl; have HLEN := Lib.hid hlen; clear hwl hlen ba hsa
  go_wp2_with fail
  refine (pread_is g L 0 640 0 S0 _ t1 HWL.out.1 (by rw [HLEN.out]; exact HWL.out.2)).mono ?_
  rintro e w' ⟨rfl, rfl⟩
  go_wp2_with fail
  go_loopw [11] (fun i wq => ∃ (k : Nat), k ≤ 10 ∧ i = .int .i64 k ∧ PM wq g L ∧ RM wq r b L ∧ Below w.heap.size w wq) (fun i _ => 10 - (intOf i).toNat)
  case atStart => exact ⟨0, by omega, rfl, t1, r1, b1⟩
  case round =>
    clear t1 r1 b1
    obtain ⟨k, hk, rfl, ht, hr, hbel⟩ := hrel
    by_cases hlt : k < 10
    · have hk0 : (0 : Int) ≤ k := by omega
      go_wp2_with fail
      have hsz := hbel.size
      have hww := fun W h => walk_any g L k J W h
      have hrw := fun W h => rwalk_any r b L k J W h
      generalize wF L k J = FF at hww hrw
      generalize wP L k J = PP at hww hrw
      generalize wC L k J = CC at hww hrw
      have HWW := Lib.hid hww; have HRW := Lib.hid hrw; clear hww hrw
      refine (HWW.out _ ht).mono ?_
      rintro e w2 ⟨rfl, b2⟩
      have t2 := (ht.below b2 ht.lt).alloc (.cells #[.int .i64 FF, .int .i64 PP] 29)
      have r2 := (hr.below b2 hr.lt.1 hr.lt.2).alloc (.cells #[.int .i64 FF, .int .i64 PP] 29)
      have d2 := Blk.new w2 29 [.int .i64 FF, .int .i64 PP]
      replace b2 := (Below.down hbel b2 hsz).alloc (Below.down hbel b2 hsz).size (.cells #[.int .i64 FF, .int .i64 PP] 29)
      clear ht hr hbel hsz
      go_wp2_with fail
      generalize w2.alloc (.cells #[.int .i64 FF, .int .i64 PP] 29) = w3 at *
      generalize w2.heap.size = g2 at *
      have hsz := b2.size
      refine (HWW.out _ t2).mono ?_
      rintro e w4 ⟨rfl, b4⟩
      have t4 := (t2.below b4 t2.lt).alloc (.cells #[.int .i64 FF, .int .i64 PP] 29)
      have r4 := (r2.below b4 r2.lt.1 r2.lt.2).alloc (.cells #[.int .i64 FF, .int .i64 PP] 29)
      have d4 := (d2.below b4 d2.lt).alloc (.cells #[.int .i64 FF, .int .i64 PP] 29)
      have e4 := Blk.new w4 29 [.int .i64 FF, .int .i64 PP]
      replace b4 := (Below.down b2 b4 hsz).alloc (Below.down b2 b4 hsz).size (.cells #[.int .i64 FF, .int .i64 PP] 29)
      clear t2 r2 d2 b2 hsz
      go_wp2_with fail
      generalize w4.alloc (.cells #[.int .i64 FF, .int .i64 PP] 29) = w5 at *
      generalize w4.heap.size = g4 at *
      have hsz := b4.size
      refine (HRW.out _ r4).mono ?_
      rintro e w6 ⟨rfl, b6⟩
      have t6 := (t4.below b6 t4.lt).alloc (.cells #[.int .i64 FF, .int .i64 PP] 29)
      have r6 := (r4.below b6 r4.lt.1 r4.lt.2).alloc (.cells #[.int .i64 FF, .int .i64 PP] 29)
      have d6 := two_at ((d4.below b6 d4.lt).alloc (.cells #[.int .i64 FF, .int .i64 PP] 29))
      have e6 := two_at ((e4.below b6 e4.lt).alloc (.cells #[.int .i64 FF, .int .i64 PP] 29))
      have f6 := two_at (Blk.new w6 29 [.int .i64 FF, .int .i64 PP])
      replace b6 := (Below.down b4 b6 hsz).alloc (Below.down b4 b6 hsz).size (.cells #[.int .i64 FF, .int .i64 PP] 29)
      obtain ⟨d0, d1, _, _⟩ := d6
      obtain ⟨e0, e1, _, _⟩ := e6
      obtain ⟨f0, f1, _, _⟩ := f6
      clear t4 r4 d4 e4 b4 hsz
      go_wp2_with (go_at_call 11; refine (num_any _ _).mono ?_; rintro e w' ⟨rfl, rfl⟩)
      go_roundw
      case rel => exact ⟨k + 1, by omega, by go_num, t6, r6, b6⟩
      case measure => simp [intOf]; omega
    · obtain rfl : k = 10 := by omega
      go_wp2_with fail
      refine (pread_is g L 0 640 0 S0 _ ht HWL.out.1 (by rw [HLEN.out]; exact HWL.out.2)).mono ?_
      rintro e w' ⟨rfl, rfl⟩
      go_wp2_with (go_at_call 11; refine (num_any _ _).mono ?_; rintro e w' ⟨rfl, rfl⟩)
      go_ret
      exact ⟨rfl, hbel⟩

end Go.Proofs.Ytfddmfdfimaddaa
