/-
  The contract of layer 3's awake: it answers true, whatever the world.
-/
import Derived.Test.YtcljcjlfbeplcaaPhysW
import Derived.Test.YtcljcjlfbeplcaaNum
namespace Go.Proofs.Ytcljcjlfbeplcaa
open Go.RowKit
set_option linter.unusedVariables false

/-- A writing whose answer is known. -/
theorem pwrite_is (g : Nat) (l l' : List UInt8) (a c : Int) (s : ByteArray) (w : World) (h : PM w g l) (hs : s.size ≤ maxLen) (hl : wrL l a s.data.toList = l') (hc : errC (mayB a s.size l.length) = c) :
    Calls Try.prog 13 #[.pointer (some ⟨g, 0, none⟩), .int .i64 a, .string s] w fun e w' => e = .returned (.int .i64 c) ∧ PM w' g l' ∧ w.grownBy w' (some g) := by
  have := pwrite_any g l a s w h hs
  rw [hl, hc] at this
  exact this
theorem pputword_is (g : Nat) (l l' : List UInt8) (a x c : Int) (w : World) (h : PM w g l) (hl : pwL l a x = l') (hc : errC (pwB l.length a x) = c) :
    Calls Try.prog 15 #[.pointer (some ⟨g, 0, none⟩), .int .i64 a, .int .i64 x] w fun e w' => e = .returned (.int .i64 c) ∧ PM w' g l' ∧ w.grownBy w' (some g) := by
  have := pputword_any g l a x w h
  rw [hl, hc] at this
  exact this
theorem pzero_is (g : Nat) (l l' : List UInt8) (f c : Int) (w : World) (h : PM w g l) (hl : zeL l f = l') (hc : errC (zeB l.length f) = c) :
    Calls Try.prog 17 #[.pointer (some ⟨g, 0, none⟩), .int .i64 f] w fun e w' => e = .returned (.int .i64 c) ∧ PM w' g l' ∧ w.grownBy w' (some g) := by
  have := pzero_any g l f w h
  rw [hl, hc] at this
  exact this
theorem pread_is (g : Nat) (l : List UInt8) (a n c : Int) (s : ByteArray) (w : World) (h : PM w g l) (hs : str (rdL l a n) = s) (hc : errC (mayB a n l.length) = c) :
    Calls Try.prog 19 #[.pointer (some ⟨g, 0, none⟩), .int .i64 a, .int .i64 n] w fun e w' => e = .returned (.tuple #[.string s, .int .i64 c]) ∧ w = w' := by
  have := pread_any g l a n w h
  rw [hs, hc] at this
  exact this
theorem pword_is (g : Nat) (l : List UInt8) (a x c : Int) (w : World) (h : PM w g l) (hx : wdN l a = x) (hc : errC (wdB l.length a) = c) :
    Calls Try.prog 20 #[.pointer (some ⟨g, 0, none⟩), .int .i64 a] w fun e w' => e = .returned (.tuple #[.int .i64 x, .int .i64 c]) ∧ w = w' := by
  have := pword_any g l a w h
  rw [hx, hc] at this
  exact this

/-- Far below, where only what a block of the call's own holds has turned. -/
theorem bone {B g : Nat} {a b c : World} (h : Below B a b) (k : b.grownBy c (some g)) (hB : B ≤ b.heap.size) (hg : B ≤ g) : Below B a c := h.grown k hB (fun i hi => by injection hi with hi; omega)

def aw0 : List UInt8 := zeros 128
def aw1 : List UInt8 := wrL aw0 62 [97, 98, 99, 100]
def aw2 : List UInt8 := pwL aw1 4 67305985
def aw3 : List UInt8 := zeL aw2 1

set_option maxRecDepth 100000 in
set_option maxHeartbeats 2000000 in
theorem awake_any (w : World) : Calls Try.prog 11 #[] w fun e w' => e = .returned (.bool true) ∧ Below w.heap.size w w' := by
  go_enter Try.func11, Try.ntmps11
  go_wp2_with fail
  refine (new_yes 2 _ (by omega) (by omega)).mono ?_
  rintro e w1 ⟨rfl, t1, b1⟩
  generalize hg : w.heap.size = g at *
  have t1 : PM w1 g aw0 := t1
  have hs1 := b1.size
  have hgw : g ≤ w.heap.size := by omega
  have HG := Lib.hid hg; clear hg
  go_wp2_with fail
  refine (new_no 65 _ (by omega)).mono ?_
  rintro e w' ⟨rfl, rfl⟩
  go_wp2_with fail
  refine (num_any _ _).mono ?_
  rintro e w' ⟨rfl, rfl⟩
  go_wp2_with fail
  refine (pwrite_is g aw0 aw1 _ 0 _ _ t1 (by decide) rfl (by kernel_rfl)).mono ?_
  rintro e w2 ⟨rfl, t2, g2⟩
  have b2 := bone b1 g2 (by omega) (by omega)
  have hs2 := b2.size
  clear t1 g2 b1 hs1
  go_wp2_with fail
  refine (pread_is g aw1 _ _ 0 ⟨#[0, 0, 97, 98, 99, 100, 0, 0]⟩ _ t2 (by kernel_rfl) (by kernel_rfl)).mono ?_
  rintro e w' ⟨rfl, rfl⟩
  go_wp2_with fail
  refine (pputword_is g aw1 aw2 _ _ 0 _ t2 rfl (by kernel_rfl)).mono ?_
  rintro e w3 ⟨rfl, t3, g3⟩
  have b3 := bone b2 g3 (by omega) (by omega)
  have hs3 := b3.size
  clear t2 g3 b2 hs2
  go_wp2_with fail
  refine (pread_is g aw2 _ _ 0 ⟨#[1, 2, 3, 4]⟩ _ t3 (by kernel_rfl) (by kernel_rfl)).mono ?_
  rintro e w' ⟨rfl, rfl⟩
  go_wp2_with fail
  refine (pword_is g aw2 _ 1650524160 0 _ t3 (by kernel_rfl) (by kernel_rfl)).mono ?_
  rintro e w' ⟨rfl, rfl⟩
  go_wp2_with fail
  refine (pword_is g aw2 _ 0 300 _ t3 (by kernel_rfl) (by kernel_rfl)).mono ?_
  rintro e w' ⟨rfl, rfl⟩
  go_wp2_with fail
  refine (pzero_is g aw2 aw3 _ 0 _ t3 rfl (by kernel_rfl)).mono ?_
  rintro e w4 ⟨rfl, t4, g4⟩
  have b4 := bone b3 g4 (by omega) (by omega)
  have hs4 := b4.size
  clear t3 g4 b3 hs3
  go_wp2_with fail
  refine (pread_is g aw3 _ _ 0 ⟨#[97, 98, 0, 0]⟩ _ t4 (by kernel_rfl) (by kernel_rfl)).mono ?_
  rintro e w' ⟨rfl, rfl⟩
  go_wp2_with fail
  refine (pwrite_is g aw3 aw3 _ 300 _ _ t4 (by decide) (by kernel_rfl) (by kernel_rfl)).mono ?_
  rintro e w5 ⟨rfl, t5, g5⟩
  have b5 := bone b4 g5 (by omega) (by omega)
  have hl : aw3.length = 128 := by kernel_rfl
  clear t4 g5 b4 hs4
  go_wp2_with (first | (go_at_call 10; refine (num_any _ _).mono ?_; rintro e w' ⟨rfl, rfl⟩) | (go_at_call 12; refine (psize_any g aw3 _ t5).mono ?_; rintro e w' ⟨rfl, rfl⟩))
  go_ret
  exact ⟨rfl, by rw [HG.out]; exact b5⟩

end Go.Proofs.Ytcljcjlfbeplcaa
