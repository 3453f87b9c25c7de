/-
  The contract of layer 5's awake: it answers true, whatever the world.
-/
import Derived.Test.YtfddmfdfimaddaaWalk4
namespace Go.Proofs.Ytfddmfdfimaddaa
open Go.RowKit
set_option linter.unusedVariables false

/-- A block of ints as a slice. -/
theorem Blk.sl {w : World} {g : Nat} {t : TypeId} {l : List Int} (h : Blk w g t (ints l)) {n : Nat} (hn : l.length = n) : Sl w (.slice (some ⟨g, 0, none⟩) n n) n 1 (ints l) :=
  ⟨_, _, rfl, Nat.le_refl _, by rw [ints_len]; omega, fun _ => ⟨g, 0, rfl, h.lt, fun j u hu => by rw [Nat.zero_add, h.cell]; exact hu⟩⟩

theorem walk_is (g : Nat) (l : List UInt8) (r p f q c : Int) (w : World) (h : PM w g l) (hf : wF l r p = f) (hp : wP l r p = q) (hc : wC l r p = c) :
    Calls Try.prog 9 #[.pointer (some ⟨g, 0, none⟩), .int .i64 r, .int .i64 p] w fun e w' => e = .returned (.tuple #[.agg #[.int .i64 f, .int .i64 q], .int .i64 c]) ∧ Below w.heap.size w w' := by
  subst hf hp hc; exact walk_any g l r p w h

def awZ : List Int := [16, 34, 35, 17]
def awQ : List Int := [8199, 12293, 2, 0]
def awL : List UInt8 := fillL awZ awQ (16 * 4) (zeros (64 * 4)) (min 4 (min 4 40))

set_option maxRecDepth 100000 in
set_option maxHeartbeats 4000000 in
theorem wawake_any (w : World) : Calls Try.prog 8 #[] w fun e w' => e = .returned (.bool true) ∧ Below w.heap.size w w' := by
  go_enter Try.func8, Try.ntmps8
  go_wp2_with fail
  have tz : Blk ((w.alloc (.cells (ints awZ).toArray 3)).alloc (.cells (ints awQ).toArray 3)) w.heap.size 3 (ints awZ) := (Blk.new w 3 (ints awZ)).alloc _
  have tq : Blk ((w.alloc (.cells (ints awZ).toArray 3)).alloc (.cells (ints awQ).toArray 3)) (w.heap.size + 1) 3 (ints awQ) := by
    have := Blk.new (w.alloc (.cells (ints awZ).toArray 3)) 3 (ints awQ)
    rw [show (w.alloc (.cells (ints awZ).toArray 3)).heap.size = w.heap.size + 1 by simp] at this
    exact this
  have b0 : Below w.heap.size w ((w.alloc (.cells (ints awZ).toArray 3)).alloc (.cells (ints awQ).toArray 3)) := ((Below.refl _ _).alloc (Nat.le_refl _) _).alloc (by simp) _
  change Calls _ _ _ ((w.alloc (.cells (ints awZ).toArray 3)).alloc (.cells (ints awQ).toArray 3)) _
  generalize (w.alloc (.cells (ints awZ).toArray 3)).alloc (.cells (ints awQ).toArray 3) = w0 at *
  have hs0 := b0.size
  refine (filled_yes 4 _ _ 4 4 awZ awQ _ (tz.sl rfl) (tq.sl rfl) (by decide) (by decide) rfl rfl (by omega) (by omega)).mono ?_
  rintro e w1 ⟨g, r, b, rfl, hg, hr, hbb, t1, _, b1⟩
  replace b1 := Below.down b0 b1 hs0
  have t1 : PM w1 g awL := t1
  clear tz tq b0
  have hs1 := b1.size
  go_wp2_with fail
  refine (walk_is g awL _ _ 3 2 0 _ t1 (by kernel_rfl) (by kernel_rfl) (by kernel_rfl)).mono ?_
  rintro e w2 ⟨rfl, b2⟩
  have t2 := (t1.below b2 t1.lt).alloc (.cells #[.int .i64 3, .int .i64 2] 29)
  have c2 := Blk.new w2 29 [.int .i64 3, .int .i64 2]
  replace b2 := (Below.down b1 b2 hs1).alloc (Below.down b1 b2 hs1).size (.cells #[.int .i64 3, .int .i64 2] 29)
  clear t1 b1 hs1
  go_wp2_with fail
  generalize w2.alloc (.cells #[.int .i64 3, .int .i64 2] 29) = w3 at *
  generalize w2.heap.size = c at *
  have hs3 := b2.size
  refine (walk_is g awL _ _ 0 0 502 _ t2 (by kernel_rfl) (by kernel_rfl) (by kernel_rfl)).mono ?_
  rintro e w4 ⟨rfl, b4⟩
  have t4 := (t2.below b4 t2.lt).alloc (.cells #[.int .i64 0, .int .i64 0] 29)
  have c4 := (c2.below b4 c2.lt).alloc (.cells #[.int .i64 0, .int .i64 0] 29)
  replace b4 := (Below.down b2 b4 hs3).alloc (Below.down b2 b4 hs3).size (.cells #[.int .i64 0, .int .i64 0] 29)
  clear t2 c2 b2 hs3
  go_wp2_with fail
  generalize w4.alloc (.cells #[.int .i64 0, .int .i64 0] 29) = w5 at *
  have hs5 := b4.size
  refine (walk_is g awL _ _ 0 0 501 _ t4 (by kernel_rfl) (by kernel_rfl) (by kernel_rfl)).mono ?_
  rintro e w6 ⟨rfl, b6⟩
  have t6 := (t4.below b6 t4.lt).alloc (.cells #[.int .i64 0, .int .i64 0] 29)
  have c6 := (c4.below b6 c4.lt).alloc (.cells #[.int .i64 0, .int .i64 0] 29)
  replace b6 := (Below.down b4 b6 hs5).alloc (Below.down b4 b6 hs5).size (.cells #[.int .i64 0, .int .i64 0] 29)
  clear t4 c4 b4 hs5
  go_wp2_with fail
  generalize w6.alloc (.cells #[.int .i64 0, .int .i64 0] 29) = w7 at *
  have hs7 := b6.size
  refine (walk_is g awL _ _ 0 0 500 _ t6 (by kernel_rfl) (by kernel_rfl) (by kernel_rfl)).mono ?_
  rintro e w8 ⟨rfl, b8⟩
  have t8 := (t6.below b8 t6.lt).alloc (.cells #[.int .i64 0, .int .i64 0] 29)
  have c8 := (c6.below b8 c6.lt).alloc (.cells #[.int .i64 0, .int .i64 0] 29)
  replace b8 := (Below.down b6 b8 hs7).alloc (Below.down b6 b8 hs7).size (.cells #[.int .i64 0, .int .i64 0] 29)
  clear t6 c6 b6 hs7
  go_wp2_with fail
  generalize w8.alloc (.cells #[.int .i64 0, .int .i64 0] 29) = w9 at *
  have hs9 := b8.size
  refine (walk_nil _ _ _).mono ?_
  rintro e w10 ⟨rfl, b10⟩
  have c10 := two_at ((c8.below b10 c8.lt).alloc (.cells #[.int .i64 0, .int .i64 0] 29))
  replace b10 := (Below.down b8 b10 hs9).alloc (Below.down b8 b10 hs9).size (.cells #[.int .i64 0, .int .i64 0] 29)
  obtain ⟨d0, d1, _, _⟩ := c10
  clear t8 c8 b8 hs9
  go_wp2_with (go_at_call 11; refine (num_any _ _).mono ?_; rintro e w' ⟨rfl, rfl⟩)
  go_ret
  exact ⟨rfl, b10⟩

end Go.Proofs.Ytfddmfdfimaddaa
