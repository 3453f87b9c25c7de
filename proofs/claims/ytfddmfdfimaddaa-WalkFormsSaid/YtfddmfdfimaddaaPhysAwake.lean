/-
  The contract of layer 3's awake: it answers true, whatever the world.
-/
import Derived.Test.YtfddmfdfimaddaaPhysW
import Derived.Test.YtfddmfdfimaddaaNum
namespace Go.Proofs.Ytfddmfdfimaddaa
open Go.RowKit
set_option linter.unusedVariables false

/-- A writing whose answer is known. -/
theorem pwrite_is (g : Nat) (l l' : List UInt8) (a c : Int) (s : ByteArray) (w : World) (h : PM w g l) (hs : s.size ≤ maxLen) (hl : wrL l a s.data.toList = l') (hc : errC (mayB a s.size l.length) = c) :
    Calls Try.prog 25 #[.pointer (some ⟨g, 0, none⟩), .int .i64 a, .string s] w fun e w' => e = .returned (.int .i64 c) ∧ PM w' g l' ∧ w.grownBy w' (some g) := by
  have := pwrite_any g l a s w h hs
  rw [hl, hc] at this
  exact this
theorem pputword_is (g : Nat) (l l' : List UInt8) (a x c : Int) (w : World) (h : PM w g l) (hl : pwL l a x = l') (hc : errC (pwB l.length a x) = c) :
    Calls Try.prog 15 #[.pointer (some ⟨g, 0, none⟩), .int .i64 a, .int .i64 x] w fun e w' => e = .returned (.int .i64 c) ∧ PM w' g l' ∧ w.grownBy w' (some g) := by
  have := pputword_any g l a x w h
  rw [hl, hc] at this
  exact this
theorem pread_is (g : Nat) (l : List UInt8) (a n c : Int) (s : ByteArray) (w : World) (h : PM w g l) (hs : str (rdL l a n) = s) (hc : errC (mayB a n l.length) = c) :
    Calls Try.prog 12 #[.pointer (some ⟨g, 0, none⟩), .int .i64 a, .int .i64 n] w fun e w' => e = .returned (.tuple #[.string s, .int .i64 c]) ∧ w = w' := by
  have := pread_any g l a n w h
  rw [hs, hc] at this
  exact this
theorem pword_is (g : Nat) (l : List UInt8) (a x c : Int) (w : World) (h : PM w g l) (hx : wdN l a = x) (hc : errC (wdB l.length a) = c) :
    Calls Try.prog 19 #[.pointer (some ⟨g, 0, none⟩), .int .i64 a] w fun e w' => e = .returned (.tuple #[.int .i64 x, .int .i64 c]) ∧ w = w' := by
  have := pword_any g l a w h
  rw [hx, hc] at this
  exact this

/-- Far below, where only what a block of the call's own holds has turned. -/
theorem bone {B g : Nat} {a b c : World} (h : Below B a b) (k : b.grownBy c (some g)) (hB : B ≤ b.heap.size) (hg : B ≤ g) : Below B a c := h.grown k hB (fun i hi => by injection hi with hi; omega)

def aw0 : List UInt8 := zeros 128
def aw1 : List UInt8 := wrL aw0 62 [97, 98, 99, 100]
def aw2 : List UInt8 := pwL aw1 4 67305985
def aw3 : List UInt8 := zeL aw2 1

end Go.Proofs.Ytfddmfdfimaddaa
