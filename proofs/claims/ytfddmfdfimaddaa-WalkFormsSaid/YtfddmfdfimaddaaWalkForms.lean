/-
  Layer 5's law WalkForms: it answers true for every input.
-/
import Derived.Test.YtfddmfdfimaddaaWalkAwake
namespace Go.Proofs.Ytfddmfdfimaddaa
open Go.RowKit
set_option linter.unusedVariables false

def wfL (x y : Int) : List UInt8 := pwL (pwL (zeros 192) 0 x) 84 y
theorem wfL_len (x y : Int) : (wfL x y).length = 64 * 3 := by unfold wfL; rw [pwL_len, pwL_len, zeros_len]

set_option maxRecDepth 100000 in
set_option maxHeartbeats 4000000 in
theorem law_WalkForms (a x : Int) (w0 : (Lit.int .i64 a).wf = true) (w1 : (Lit.int .i64 x).wf = true) (w : World) :
    Calls Try.prog 5 #[.int .i64 a, .int .i64 x] w fun e w' => e = .returned (.bool true) ∧ Below w.heap.size w w' := by
  have hX := band x 1023 (by omega) (by omega)
  have hU := u64b a
  generalize hX' : bits BinOp.and IntKind.i64 x 1023 = X at hX
  generalize hU' : IntKind.u64.wrap a = U at hU
  obtain ⟨hX0, hX1⟩ := hX
  obtain ⟨hU0, hU1⟩ := hU
  have hI0 : 0 ≤ U % 10 := by omega
  have hI1 : U % 10 < 10 := by omega
  generalize hI' : U % 10 = I at hI0 hI1
  clear w0 w1
  go_enter Try.func5, Try.ntmps5
  go_wp2_with fail
  refine (wawake_any _).mono ?_
  rintro e wa ⟨rfl, ba⟩
  have hsa := ba.size
  go_wp2_with fail
  refine (new_yes 3 _ (by omega) (by omega)).mono ?_
  rintro e w1 ⟨rfl, t1, b1⟩
  have b1' := Below.down ba b1 hsa
  have hs1 := b1.size
  have hs1' := b1'.size
  generalize hg : wa.heap.size = g at *
  have hgw : w.heap.size ≤ g := by omega
  have HG := Lib.hid hg; clear hg b1 ba
  have t1 : PM w1 g (zeros 192) := t1
  go_wp2_with fail
  refine (num_any _ _).mono ?_
  rintro e w' ⟨rfl, rfl⟩
  go_wp2_with fail
  · refine (pputword_is g (zeros 192) (pwL (zeros 192) 0 4103) 0 4103 0 _ t1 rfl (by kernel_rfl)).mono ?_
    rintro e w2 ⟨rfl, t2, b2⟩
    have b2' := bone b1' b2 hs1' (by omega)
    have hs2 := b2'.size
    clear t1 b1' b2
    go_wp2_with fail
    refine (pputword_is g (pwL (zeros 192) 0 4103) (wfL 4103 8195) 84 8195 0 _ t2 rfl (by kernel_rfl)).mono ?_
    rintro e w3 ⟨rfl, t3, b3⟩
    have b3' := bone b2' b3 hs2 (by omega)
    have hs3 := b3'.size
    clear t2 b2' b3 hs2
    go_wp2_with fail
    refine (walk_form g (wfL 4103 8195) 3 _ _ _ t3 (wfL_len _ _) (by omega)).mono ?_
    rintro e w4 ⟨rfl, b4⟩
    obtain ⟨d0, d1, _, _⟩ := two_at (Blk.new w4 29 [.int .i64 0, .int .i64 0])
    have b4' := (Below.down b3' b4 hs3).alloc (Below.down b3' b4 hs3).size (.cells #[.int .i64 0, .int .i64 0] 29)
    clear t3 b3' b4 hs3
    go_wp2_with (go_at_call 11; refine (num_any _ _).mono ?_; rintro e w' ⟨rfl, rfl⟩)
    go_ret
    exact ⟨rfl, b4'⟩
  · refine (pputword_is g (zeros 192) (pwL (zeros 192) 0 4103) 0 4103 0 _ t1 rfl (by kernel_rfl)).mono ?_
    rintro e w2 ⟨rfl, t2, b2⟩
    have b2' := bone b1' b2 hs1' (by omega)
    have hs2 := b2'.size
    clear t1 b1' b2
    go_wp2_with fail
    refine (pputword_is g (pwL (zeros 192) 0 4103) (wfL 4103 8195) 84 8195 0 _ t2 rfl (by kernel_rfl)).mono ?_
    rintro e w3 ⟨rfl, t3, b3⟩
    have b3' := bone b2' b3 hs2 (by omega)
    have hs3 := b3'.size
    clear t2 b2' b3 hs2
    go_wp2_with fail
    refine (walk_form g (wfL 4103 8195) 3 _ _ _ t3 (wfL_len _ _) (by omega)).mono ?_
    rintro e w4 ⟨rfl, b4⟩
    obtain ⟨d0, d1, _, _⟩ := two_at (Blk.new w4 29 [.int .i64 0, .int .i64 0])
    have b4' := (Below.down b3' b4 hs3).alloc (Below.down b3' b4 hs3).size (.cells #[.int .i64 0, .int .i64 0] 29)
    clear t3 b3' b4 hs3
    go_wp2_with (go_at_call 11; refine (num_any _ _).mono ?_; rintro e w' ⟨rfl, rfl⟩)
    go_ret
    exact ⟨rfl, b4'⟩
  · refine (pputword_is g (zeros 192) (pwL (zeros 192) 0 4103) 0 4103 0 _ t1 rfl (by kernel_rfl)).mono ?_
    rintro e w2 ⟨rfl, t2, b2⟩
    have b2' := bone b1' b2 hs1' (by omega)
    have hs2 := b2'.size
    clear t1 b1' b2
    go_wp2_with fail
    refine (pputword_is g (pwL (zeros 192) 0 4103) (wfL 4103 8195) 84 8195 0 _ t2 rfl (by kernel_rfl)).mono ?_
    rintro e w3 ⟨rfl, t3, b3⟩
    have b3' := bone b2' b3 hs2 (by omega)
    have hs3 := b3'.size
    clear t2 b2' b3 hs2
    go_wp2_with fail
    refine (walk_form g (wfL 4103 8195) 3 _ _ _ t3 (wfL_len _ _) (by omega)).mono ?_
    rintro e w4 ⟨rfl, b4⟩
    obtain ⟨d0, d1, _, _⟩ := two_at (Blk.new w4 29 [.int .i64 0, .int .i64 0])
    have b4' := (Below.down b3' b4 hs3).alloc (Below.down b3' b4 hs3).size (.cells #[.int .i64 0, .int .i64 0] 29)
    clear t3 b3' b4 hs3
    go_wp2_with (go_at_call 11; refine (num_any _ _).mono ?_; rintro e w' ⟨rfl, rfl⟩)
    go_ret
    exact ⟨rfl, b4'⟩
  · refine (pputword_is g (zeros 192) (pwL (zeros 192) 0 4103) 0 4103 0 _ t1 rfl (by kernel_rfl)).mono ?_
    rintro e w2 ⟨rfl, t2, b2⟩
    have b2' := bone b1' b2 hs1' (by omega)
    have hs2 := b2'.size
    clear t1 b1' b2
    go_wp2_with fail
    refine (pputword_is g (pwL (zeros 192) 0 4103) (wfL 4103 8195) 84 8195 0 _ t2 rfl (by kernel_rfl)).mono ?_
    rintro e w3 ⟨rfl, t3, b3⟩
    have b3' := bone b2' b3 hs2 (by omega)
    have hs3 := b3'.size
    clear t2 b2' b3 hs2
    go_wp2_with fail
    refine (walk_form g (wfL 4103 8195) 3 _ _ _ t3 (wfL_len _ _) (by omega)).mono ?_
    rintro e w4 ⟨rfl, b4⟩
    obtain ⟨d0, d1, _, _⟩ := two_at (Blk.new w4 29 [.int .i64 0, .int .i64 0])
    have b4' := (Below.down b3' b4 hs3).alloc (Below.down b3' b4 hs3).size (.cells #[.int .i64 0, .int .i64 0] 29)
    clear t3 b3' b4 hs3
    go_wp2_with (go_at_call 11; refine (num_any _ _).mono ?_; rintro e w' ⟨rfl, rfl⟩)
    go_ret
    exact ⟨rfl, b4'⟩
  · refine (pputword_is g (zeros 192) (pwL (zeros 192) 0 4099) 0 4099 0 _ t1 rfl (by kernel_rfl)).mono ?_
    rintro e w2 ⟨rfl, t2, b2⟩
    have b2' := bone b1' b2 hs1' (by omega)
    have hs2 := b2'.size
    clear t1 b1' b2
    go_wp2_with fail
    refine (pputword_is g (pwL (zeros 192) 0 4099) (wfL 4099 8195) 84 8195 0 _ t2 rfl (by kernel_rfl)).mono ?_
    rintro e w3 ⟨rfl, t3, b3⟩
    have b3' := bone b2' b3 hs2 (by omega)
    have hs3 := b3'.size
    clear t2 b2' b3 hs2
    go_wp2_with fail
    refine (walk_is g (wfL 4099 8195) 0 5 0 0 502 _ t3 (by kernel_rfl) (by kernel_rfl) (by kernel_rfl)).mono ?_
    rintro e w4 ⟨rfl, b4⟩
    obtain ⟨d0, d1, _, _⟩ := two_at (Blk.new w4 29 [.int .i64 0, .int .i64 0])
    have b4' := (Below.down b3' b4 hs3).alloc (Below.down b3' b4 hs3).size (.cells #[.int .i64 0, .int .i64 0] 29)
    clear t3 b3' b4 hs3
    go_wp2_with (go_at_call 11; refine (num_any _ _).mono ?_; rintro e w' ⟨rfl, rfl⟩)
    go_ret
    exact ⟨rfl, b4'⟩
  · refine (pputword_is g (zeros 192) (pwL (zeros 192) 0 12295) 0 12295 0 _ t1 rfl (by kernel_rfl)).mono ?_
    rintro e w2 ⟨rfl, t2, b2⟩
    have b2' := bone b1' b2 hs1' (by omega)
    have hs2 := b2'.size
    clear t1 b1' b2
    go_wp2_with fail
    refine (pputword_is g (pwL (zeros 192) 0 12295) (wfL 12295 8195) 84 8195 0 _ t2 rfl (by kernel_rfl)).mono ?_
    rintro e w3 ⟨rfl, t3, b3⟩
    have b3' := bone b2' b3 hs2 (by omega)
    have hs3 := b3'.size
    clear t2 b2' b3 hs2
    go_wp2_with fail
    refine (walk_is g (wfL 12295 8195) 0 5 0 0 502 _ t3 (by kernel_rfl) (by kernel_rfl) (by kernel_rfl)).mono ?_
    rintro e w4 ⟨rfl, b4⟩
    obtain ⟨d0, d1, _, _⟩ := two_at (Blk.new w4 29 [.int .i64 0, .int .i64 0])
    have b4' := (Below.down b3' b4 hs3).alloc (Below.down b3' b4 hs3).size (.cells #[.int .i64 0, .int .i64 0] 29)
    clear t3 b3' b4 hs3
    go_wp2_with (go_at_call 11; refine (num_any _ _).mono ?_; rintro e w' ⟨rfl, rfl⟩)
    go_ret
    exact ⟨rfl, b4'⟩
  · refine (pputword_is g (zeros 192) (pwL (zeros 192) 0 2) 0 2 0 _ t1 rfl (by kernel_rfl)).mono ?_
    rintro e w2 ⟨rfl, t2, b2⟩
    have b2' := bone b1' b2 hs1' (by omega)
    have hs2 := b2'.size
    clear t1 b1' b2
    go_wp2_with fail
    refine (pputword_is g (pwL (zeros 192) 0 2) (wfL 2 8195) 84 8195 0 _ t2 rfl (by kernel_rfl)).mono ?_
    rintro e w3 ⟨rfl, t3, b3⟩
    have b3' := bone b2' b3 hs2 (by omega)
    have hs3 := b3'.size
    clear t2 b2' b3 hs2
    go_wp2_with fail
    refine (walk_is g (wfL 2 8195) 0 5 0 0 502 _ t3 (by kernel_rfl) (by kernel_rfl) (by kernel_rfl)).mono ?_
    rintro e w4 ⟨rfl, b4⟩
    obtain ⟨d0, d1, _, _⟩ := two_at (Blk.new w4 29 [.int .i64 0, .int .i64 0])
    have b4' := (Below.down b3' b4 hs3).alloc (Below.down b3' b4 hs3).size (.cells #[.int .i64 0, .int .i64 0] 29)
    clear t3 b3' b4 hs3
    go_wp2_with (go_at_call 11; refine (num_any _ _).mono ?_; rintro e w' ⟨rfl, rfl⟩)
    go_ret
    exact ⟨rfl, b4'⟩
  · refine (pputword_is g (zeros 192) (pwL (zeros 192) 0 4103) 0 4103 0 _ t1 rfl (by kernel_rfl)).mono ?_
    rintro e w2 ⟨rfl, t2, b2⟩
    have b2' := bone b1' b2 hs1' (by omega)
    have hs2 := b2'.size
    clear t1 b1' b2
    go_wp2_with fail
    refine (pputword_is g (pwL (zeros 192) 0 4103) (wfL 4103 12291) 84 12291 0 _ t2 rfl (by kernel_rfl)).mono ?_
    rintro e w3 ⟨rfl, t3, b3⟩
    have b3' := bone b2' b3 hs2 (by omega)
    have hs3 := b3'.size
    clear t2 b2' b3 hs2
    go_wp2_with fail
    refine (walk_is g (wfL 4103 12291) 0 5 0 0 502 _ t3 (by kernel_rfl) (by kernel_rfl) (by kernel_rfl)).mono ?_
    rintro e w4 ⟨rfl, b4⟩
    obtain ⟨d0, d1, _, _⟩ := two_at (Blk.new w4 29 [.int .i64 0, .int .i64 0])
    have b4' := (Below.down b3' b4 hs3).alloc (Below.down b3' b4 hs3).size (.cells #[.int .i64 0, .int .i64 0] 29)
    clear t3 b3' b4 hs3
    go_wp2_with (go_at_call 11; refine (num_any _ _).mono ?_; rintro e w' ⟨rfl, rfl⟩)
    go_ret
    exact ⟨rfl, b4'⟩
  · refine (pputword_is g (zeros 192) (pwL (zeros 192) 0 4103) 0 4103 0 _ t1 rfl (by kernel_rfl)).mono ?_
    rintro e w2 ⟨rfl, t2, b2⟩
    have b2' := bone b1' b2 hs1' (by omega)
    have hs2 := b2'.size
    clear t1 b1' b2
    go_wp2_with fail
    refine (pputword_is g (pwL (zeros 192) 0 4103) (wfL 4103 4096) 84 4096 0 _ t2 rfl (by kernel_rfl)).mono ?_
    rintro e w3 ⟨rfl, t3, b3⟩
    have b3' := bone b2' b3 hs2 (by omega)
    have hs3 := b3'.size
    clear t2 b2' b3 hs2
    go_wp2_with fail
    refine (walk_is g (wfL 4103 4096) 0 5 0 0 502 _ t3 (by kernel_rfl) (by kernel_rfl) (by kernel_rfl)).mono ?_
    rintro e w4 ⟨rfl, b4⟩
    obtain ⟨d0, d1, _, _⟩ := two_at (Blk.new w4 29 [.int .i64 0, .int .i64 0])
    have b4' := (Below.down b3' b4 hs3).alloc (Below.down b3' b4 hs3).size (.cells #[.int .i64 0, .int .i64 0] 29)
    clear t3 b3' b4 hs3
    go_wp2_with (go_at_call 11; refine (num_any _ _).mono ?_; rintro e w' ⟨rfl, rfl⟩)
    go_ret
    exact ⟨rfl, b4'⟩
  · refine (pputword_is g (zeros 192) (pwL (zeros 192) 0 4103) 0 4103 0 _ t1 rfl (by kernel_rfl)).mono ?_
    rintro e w2 ⟨rfl, t2, b2⟩
    have b2' := bone b1' b2 hs1' (by omega)
    have hs2 := b2'.size
    clear t1 b1' b2
    go_wp2_with fail
    refine (pputword_is g (pwL (zeros 192) 0 4103) (wfL 4103 0) 84 0 0 _ t2 rfl (by kernel_rfl)).mono ?_
    rintro e w3 ⟨rfl, t3, b3⟩
    have b3' := bone b2' b3 hs2 (by omega)
    have hs3 := b3'.size
    clear t2 b2' b3 hs2
    go_wp2_with fail
    refine (walk_is g (wfL 4103 0) 0 5 0 0 501 _ t3 (by kernel_rfl) (by kernel_rfl) (by kernel_rfl)).mono ?_
    rintro e w4 ⟨rfl, b4⟩
    obtain ⟨d0, d1, _, _⟩ := two_at (Blk.new w4 29 [.int .i64 0, .int .i64 0])
    have b4' := (Below.down b3' b4 hs3).alloc (Below.down b3' b4 hs3).size (.cells #[.int .i64 0, .int .i64 0] 29)
    clear t3 b3' b4 hs3
    go_wp2_with (go_at_call 11; refine (num_any _ _).mono ?_; rintro e w' ⟨rfl, rfl⟩)
    go_ret
    exact ⟨rfl, b4'⟩

end Go.Proofs.Ytfddmfdfimaddaa
