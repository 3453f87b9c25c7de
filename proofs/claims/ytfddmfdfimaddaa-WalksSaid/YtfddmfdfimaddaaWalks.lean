/-
  Layer 5's law Walks: it answers true for every input.
-/
import Derived.Test.YtfddmfdfimaddaaWalkAwake
import Derived.Test.YtfddmfdfimaddaaWhole
namespace Go.Proofs.Ytfddmfdfimaddaa
open Go.RowKit
set_option linter.unusedVariables false

set_option maxRecDepth 100000 in
set_option maxHeartbeats 4000000 in
theorem walks_yes (c : Nat) (v1 v2 : Value) (n1 n2 : Nat) (zs qs : List Int) (R p : Int) (w : World) (h1 : Sl w v1 n1 1 (ints zs)) (h2 : Sl w v2 n2 1 (ints qs)) (hn1 : n1 ≤ maxLen) (hn2 : n2 ≤ maxLen) (hl1 : zs.length = n1) (hl2 : qs.length = n2) (hc1 : 1 ≤ c) (hc2 : c ≤ 64) :
    Calls Try.prog 3 #[.int .i64 c, v1, v2, .int .i64 R, .int .i64 p] w fun e w' => e = .returned (.bool true) ∧ Below w.heap.size w w' := by
  have HF := fun W => filled_yes c v1 v2 n1 n2 zs qs W
  have H1 := Lib.hid h1; have H2 := Lib.hid h2; have HN1 := Lib.hid hn1; have HN2 := Lib.hid hn2; have HL1 := Lib.hid hl1; have HL2 := Lib.hid hl2
  clear h1 h2 hn1 hn2 hl1 hl2
  go_enter Try.func3, Try.ntmps3
  go_wp2_with fail
  refine (HF _ H1.out H2.out HN1.out HN2.out HL1.out HL2.out hc1 hc2).mono ?_
  generalize fillL zs qs (16 * c) (zeros (64 * c)) (min n1 (min n2 40)) = L
  rintro e w1 ⟨g, r, b, rfl, hg, hr, hb, t1, r1, b1⟩
  go_wp2_with fail
  go_loopw [13] (fun i wq => ∃ (k : Nat), k ≤ 20 ∧ i = .int .i64 k ∧ PM wq g L ∧ RM wq r b L ∧ Below w.heap.size w wq) (fun i _ => 20 - (intOf i).toNat)
  case atStart => exact ⟨0, by omega, rfl, t1, r1, b1⟩
  case round =>
    clear t1 r1 b1
    obtain ⟨k, hk, rfl, ht, hr, hbel⟩ := hrel
    by_cases hlt : k < 20
    · have hk0 : (0 : Int) ≤ k := by omega
      go_wp2_with fail
      generalize wrap64 (p + (k : Int) * 13) = q
      have hsz := hbel.size
      refine (walk_any g L R q _ ht).mono ?_
      have hrw := fun W h => rwalk_any r b L R q W h
      generalize wF L R q = FF at hrw ⊢
      generalize wP L R q = PP at hrw ⊢
      generalize wC L R q = CC at hrw ⊢
      have HRW := Lib.hid hrw; clear hrw
      rintro e w2 ⟨rfl, b2⟩
      have t2 := (ht.below b2 ht.lt).alloc (.cells #[.int .i64 FF, .int .i64 PP] 29)
      have r2 := (hr.below b2 hr.lt.1 hr.lt.2).alloc (.cells #[.int .i64 FF, .int .i64 PP] 29)
      have d2 := Blk.new w2 29 [.int .i64 FF, .int .i64 PP]
      replace b2 := (Below.down hbel b2 hsz).alloc (Below.down hbel b2 hsz).size (.cells #[.int .i64 FF, .int .i64 PP] 29)
      clear ht hr hbel hsz
      go_wp2_with fail
      generalize w2.alloc (.cells #[.int .i64 FF, .int .i64 PP] 29) = w3 at *
      generalize w2.heap.size = g2 at *
      have hsz := b2.size
      refine (HRW.out _ r2).mono ?_
      rintro e w4 ⟨rfl, b4⟩
      have t4 := (t2.below b4 t2.lt).alloc (.cells #[.int .i64 FF, .int .i64 PP] 29)
      have r4 := (r2.below b4 r2.lt.1 r2.lt.2).alloc (.cells #[.int .i64 FF, .int .i64 PP] 29)
      have d4 := two_at ((d2.below b4 d2.lt).alloc (.cells #[.int .i64 FF, .int .i64 PP] 29))
      have e4 := two_at (Blk.new w4 29 [.int .i64 FF, .int .i64 PP])
      replace b4 := (Below.down b2 b4 hsz).alloc (Below.down b2 b4 hsz).size (.cells #[.int .i64 FF, .int .i64 PP] 29)
      obtain ⟨d0, d1, _, _⟩ := d4
      obtain ⟨f0, f1, _, _⟩ := e4
      clear t2 r2 d2 b2 hsz
      go_wp2_with (go_at_call 11; refine (num_any _ _).mono ?_; rintro e w' ⟨rfl, rfl⟩)
      go_roundw
      case rel => exact ⟨k + 1, by omega, by go_num, t4, r4, b4⟩
      case measure => simp [intOf]; omega
    · obtain rfl : k = 20 := by omega
      have hrow := hr.row
      have hwh := hr.whole
      have hwl := rd_whole L
      have hL : L.length ≤ 4096 := hr.1
      generalize str L = S0 at hwh hwl
      have HWL := Lib.hid hwl; clear hwl
      have hsz := hbel.size
      go_wp2_with fail
      refine (pread_is g L _ _ 0 S0 _ ht HWL.out.1 HWL.out.2).mono ?_
      rintro e w' ⟨rfl, rfl⟩
      go_wp2_with (go_at_call 11; refine (num_any _ _).mono ?_; rintro e w' ⟨rfl, rfl⟩)
      refine (wawake_any _).mono ?_
      rintro e w5 ⟨rfl, b5⟩
      go_wp2_with fail
      go_ret
      exact ⟨rfl, Below.down hbel b5 hsz⟩

theorem law_Walks (c : Int) (v1 v2 : Value) (n1 n2 : Nat) (zs qs : List Int) (R p : Int) (w : World) (h1 : Sl w v1 n1 1 (ints zs)) (h2 : Sl w v2 n2 1 (ints qs)) (hn1 : n1 ≤ maxLen) (hn2 : n2 ≤ maxLen) (hl1 : zs.length = n1) (hl2 : qs.length = n2) :
    Calls Try.prog 3 #[.int .i64 c, v1, v2, .int .i64 R, .int .i64 p] w fun e w' => e = .returned (.bool true) ∧ Below w.heap.size w w' := by
  by_cases hc : 1 ≤ c ∧ c ≤ 64
  · obtain ⟨c, rfl⟩ := Int.eq_ofNat_of_zero_le (show 0 ≤ c by omega)
    exact walks_yes c v1 v2 n1 n2 zs qs R p w h1 h2 hn1 hn2 hl1 hl2 (by omega) (by omega)
  · have HF := filled_no c v1 v2
    have HC := Lib.hid hc
    clear hc h1 h2
    go_enter Try.func3, Try.ntmps3
    go_wp2_with fail
    refine (HF _ HC.out).mono ?_
    rintro e w1 ⟨rfl, rfl⟩
    go_wp2_with fail
    refine (wawake_any _).mono ?_
    rintro e w5 ⟨rfl, b5⟩
    go_wp2_with fail
    go_ret
    exact ⟨rfl, b5⟩

end Go.Proofs.Ytfddmfdfimaddaa
