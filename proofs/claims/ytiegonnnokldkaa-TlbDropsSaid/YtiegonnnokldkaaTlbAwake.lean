/-
  The contract of layer 6's awake: it answers true, whatever the world. And contracts whose answers are known.
-/
import Derived.Test.YtiegonnnokldkaaTlb6
import Derived.Test.YtiegonnnokldkaaNum
import Derived.Deep.RegionHeld3
namespace Go.Proofs.Ytiegonnnokldkaa
open Go.RowKit
set_option linter.unusedVariables false

theorem pput_is (g c : Nat) (l l' : List Ln) (d p f m k : Int) (w : World) (h : PT w g c l.length l) (h1 : 1 ≤ c) (h2 : c ≤ 16) (h3 : l.length ≤ c) (hA : putA c l ⟨d, p, f, m⟩ = l') (hC : putC ⟨d, p, f, m⟩ = k) :
    Calls Try.prog 11 #[.pointer (some ⟨g, 0, none⟩), .int .i64 d, .int .i64 p, .agg #[.int .i64 f, .int .i64 m]] w fun e w' => e = .returned (.int .i64 k) ∧ PT w' g c l'.length l' ∧ w.grownBy w' (some g) := by
  have := pput_any g c l d p f m w h h1 h2 h3
  rw [hA, hC] at this
  exact this
theorem pget_is (g c : Nat) (l : List Ln) (d p F M : Int) (b : Bool) (w : World) (h : PT w g c l.length l) (hF : getF l d p = F) (hM : getM l d p = M) (hb : getB l d p = b) :
    Calls Try.prog 17 #[.pointer (some ⟨g, 0, none⟩), .int .i64 d, .int .i64 p] w fun e w' => e = .returned (.tuple #[.agg #[.int .i64 F, .int .i64 M], .bool b]) ∧ Below w.heap.size w w' := by
  have := pget_any g c l d p w h
  rw [hF, hM, hb] at this
  exact this
theorem pdrop_is (g c : Nat) (l l' : List Ln) (d p : Int) (b : Bool) (w : World) (h : PT w g c l.length l) (hb : getB l d p = b) (hl : l.filter (fun x => !isK d p x) = l') :
    Calls Try.prog 13 #[.pointer (some ⟨g, 0, none⟩), .int .i64 d, .int .i64 p] w fun e w' => e = .returned (.bool b) ∧ PT w' g c l'.length l' ∧ w.grownBy w' (some g) := by
  have := pdrop_any g c l d p w h
  rw [hb, hl] at this
  exact this
theorem pall_is (g c : Nat) (l l' : List Ln) (d k : Int) (w : World) (h : PT w g c l.length l) (hl : l.filter (fun x => !isD d x) = l') (hk : (l.length : Int) - (l'.length : Int) = k) :
    Calls Try.prog 15 #[.pointer (some ⟨g, 0, none⟩), .int .i64 d] w fun e w' => e = .returned (.int .i64 k) ∧ PT w' g c l'.length l' ∧ w.grownBy w' (some g) := by
  have := pall_any g c l d w h
  rw [hl, hk] at this
  exact this
theorem plen_is (g c n : Nat) (l : List Ln) (k : Int) (w : World) (h : PT w g c n l) (hn : n ≤ 17) (hk : (n : Int) = k) :
    Calls Try.prog 19 #[.pointer (some ⟨g, 0, none⟩)] w fun e w' => e = .returned (.int .i64 k) ∧ ∃ q, w' = w.drewN q := by
  have := plen_any g c n l w h hn
  rw [hk] at this
  exact this
theorem tnew (c : Int) (w : World) (h1 : 1 ≤ c) (h2 : c ≤ 16) :
    Calls Try.prog 7 #[.int .i64 c] w fun e w' => e = .returned (.tuple #[.pointer (some ⟨w.heap.size, 0, none⟩), .int .i64 0]) ∧ PT w' w.heap.size c.toNat 0 [] ∧ Below w.heap.size w w' := by
  obtain ⟨n, rfl⟩ := Int.eq_ofNat_of_zero_le (show 0 ≤ c by omega)
  rw [Int.toNat_natCast]
  exact tnew_yes n w (by omega) (by omega)

/-- What stays beside a cache: an entry of the law's own, and what was there. -/
structure AwS (w : World) (g h : Nat) (f m : Int) (w' : World) : Prop where
  blk : Blk w' h 33 (ints [f, m])
  b : Below w.heap.size w w'
  wg : w.heap.size ≤ g
  ne : h ≠ g

section
variable {w w1 w2 : World} {g h : Nat} {f m : Int}
theorem AwS.all (h0 : AwS w g h f m w1) : w1.cell? ⟨h, 0, none⟩ = some (.int .i64 f) ∧ w1.cell? ⟨h, 1, none⟩ = some (.int .i64 m) ∧ AwS w g h f m w1 := ⟨by rw [h0.blk.cell]; rfl, by rw [h0.blk.cell]; rfl, h0⟩
theorem AwS.drew (h0 : AwS w g h f m w1) : AwS w g h f m w1.drew := ⟨h0.blk.drewN 1, h0.b.drew, h0.wg, h0.ne⟩
theorem AwS.drewN (h0 : AwS w g h f m w1) (n : Nat) : AwS w g h f m (w1.drewN n) := ⟨h0.blk.drewN n, bdrewN h0.b n, h0.wg, h0.ne⟩
theorem AwS.grown (h0 : AwS w g h f m w1) (gr : w1.grownBy w2 (some g)) : AwS w g h f m w2 :=
  ⟨h0.blk.grown gr (by intro e; injection e with e; exact h0.ne e), bone h0.b gr h0.b.size h0.wg, h0.wg, h0.ne⟩
theorem AwS.below (h0 : AwS w g h f m w1) (b : Below w1.heap.size w1 w2) : AwS w g h f m w2 := ⟨h0.blk.below b h0.blk.lt, Below.down h0.b b h0.b.size, h0.wg, h0.ne⟩
end

set_option maxRecDepth 100000 in
set_option maxHeartbeats 1000000 in
theorem tawake_any (w : World) : Calls Try.prog 10 #[] w fun e w' => e = .returned (.bool true) ∧ Below w.heap.size w w' := by
  go_enter Try.func10, Try.ntmps10
  go_wp2_with fail
  refine (tnew 2 _ (by omega) (by omega)).mono ?_
  rintro e w1 ⟨rfl, t1, b1⟩
  generalize hg : w.heap.size = g at *
  have hs1 := t1.lt
  have hwg : w.heap.size ≤ g := by omega
  have hgw : g ≤ w.heap.size := by omega
  have HG := Lib.hid hg; clear hg
  rw [show (2 : Int).toNat = 2 from rfl] at t1
  go_wp2_with fail
  refine (tnew_no 0 _ (by omega)).mono ?_
  rintro e w' ⟨rfl, rfl⟩
  go_wp2_with fail
  refine (num_any _ _).mono ?_
  rintro e w' ⟨rfl, rfl⟩
  go_wp2_with fail
  change Code.wp _ _ _ _ (w1.alloc (.cells (ints [3, 1]).toArray 33))
  have hS : AwS w g w1.heap.size 3 1 (w1.alloc (.cells (ints [3, 1]).toArray 33)) := ⟨Blk.new _ _ _, by rw [HG.out]; exact b1.alloc (by omega) _, hwg, by omega⟩
  have t2 : PT (w1.alloc (.cells (ints [3, 1]).toArray 33)) g 2 ([] : List Ln).length [] := t1.alloc _
  generalize w1.alloc (.cells (ints [3, 1]).toArray 33) = w2 at *
  generalize w1.heap.size = h at *
  clear t1 b1 hs1
  obtain ⟨e0, e1, hS⟩ := hS.all
  have t2d : PT w2.drew g 2 ([] : List Ln).length [] := t2.drewN 1
  clear t2
  go_region_held3 (fun w' => w'.cell? ⟨h, 0, none⟩ = some (.int .i64 3) ∧ w'.cell? ⟨h, 1, none⟩ = some (.int .i64 1) ∧ AwS w g h 3 1 w')
    ((go_split_ands; refine AwS.all ?_; (first | assumption | (exact AwS.drew (by assumption)) | (exact AwS.grown (by assumption) (by assumption)))))
    (first
      | (go_at_call 11; (with_reducible refine (pput_is g 2 [] [⟨0, 5, 3, 1⟩] 0 5 3 1 0 _ t2d (by omega) (by omega) (by decide) rfl rfl).mono ?_); rintro e wA ⟨rfl, tA, gA⟩)
      | (go_at_call 11; (with_reducible refine (pput_is g 2 [⟨0, 5, 3, 1⟩] [⟨0, 5, 3, 1⟩, ⟨1, 5, 3, 1⟩] 1 5 3 1 0 _ tA (by omega) (by omega) (by decide) rfl rfl).mono ?_); rintro e wB ⟨rfl, tB, gB⟩)
      | (go_at_call 11; (with_reducible refine (pput_is g 2 [⟨0, 5, 3, 1⟩, ⟨1, 5, 3, 1⟩] [⟨1, 5, 3, 1⟩, ⟨1, 6, 3, 1⟩] 1 6 3 1 0 _ tB (by omega) (by omega) (by decide) rfl rfl).mono ?_); rintro e wC ⟨rfl, tC, gC⟩))
  have hS : AwS w g h 3 1 wC := by go_split_ands; assumption
  clear e0 e1 t2d tA gA tB gB gC
  go_wp2_with fail
  ((with_reducible refine (pget_is g 2 [⟨1, 5, 3, 1⟩, ⟨1, 6, 3, 1⟩] 0 5 0 0 false _ tC rfl rfl rfl).mono ?_); rintro e w3 ⟨rfl, b3⟩)
  replace hS := hS.below b3
  have t3 := tC.below b3 tC.lt
  clear tC b3
  go_wp2_with fail
  change Calls _ _ _ (w3.alloc (.cells (ints [0, 0]).toArray 33)) _
  have b4 : Below w3.heap.size w3 (w3.alloc (.cells (ints [0, 0]).toArray 33)) := (Below.refl _ _).alloc (Nat.le_refl _) _
  replace hS := hS.below b4
  replace t3 := t3.below b4 t3.lt
  generalize w3.alloc (.cells (ints [0, 0]).toArray 33) = w4 at *
  clear b4
  ((with_reducible refine (pget_is g 2 [⟨1, 5, 3, 1⟩, ⟨1, 6, 3, 1⟩] 1 6 3 1 true _ t3 rfl rfl rfl).mono ?_); rintro e w5 ⟨rfl, b5⟩)
  replace hS := hS.below b5
  replace t3 := t3.below b5 t3.lt
  clear b5
  have hbl := hS.all
  obtain ⟨e0, e1, _⟩ := hbl
  have hhl := hS.blk.lt
  go_wp2_with fail
  clear e0 e1
  change Calls _ _ _ (w5.alloc (.cells (ints [3, 1]).toArray 33)) _
  have b6 : Below w5.heap.size w5 (w5.alloc (.cells (ints [3, 1]).toArray 33)) := (Below.refl _ _).alloc (Nat.le_refl _) _
  have hY : AwS w g w5.heap.size 3 1 (w5.alloc (.cells (ints [3, 1]).toArray 33)) := ⟨Blk.new _ _ _, Below.down hS.b b6 hS.b.size, hwg, by have := t3.lt; omega⟩
  replace hS := hS.below b6
  replace t3 := t3.below b6 t3.lt
  generalize w5.alloc (.cells (ints [3, 1]).toArray 33) = w6 at *
  generalize w5.heap.size = y at *
  clear b6 hhl
  ((with_reducible refine (pput_is g 2 [⟨1, 5, 3, 1⟩, ⟨1, 6, 3, 1⟩] [⟨1, 5, 3, 1⟩, ⟨1, 6, 3, 1⟩] 4 0 3 1 600 _ t3 (by omega) (by omega) (by decide) rfl rfl).mono ?_); rintro e w7 ⟨rfl, t7, g7⟩)
  replace hS := hS.grown g7
  replace hY := hY.grown g7
  clear t3 g7
  go_wp2_with fail
  ((with_reducible refine (pdrop_is g 2 [⟨1, 5, 3, 1⟩, ⟨1, 6, 3, 1⟩] [⟨1, 6, 3, 1⟩] 1 5 true _ t7 rfl rfl).mono ?_); rintro e w8 ⟨rfl, t8, g8⟩)
  replace hS := hS.grown g8
  replace hY := hY.grown g8
  clear t7 g8
  go_wp2_with fail
  ((with_reducible refine (pdrop_is g 2 [⟨1, 6, 3, 1⟩] [⟨1, 6, 3, 1⟩] 1 5 false _ t8 rfl rfl).mono ?_); rintro e w9 ⟨rfl, t9, g9⟩)
  replace hS := hS.grown g9
  replace hY := hY.grown g9
  clear t8 g9
  obtain ⟨e0, e1, _⟩ := hS.all
  obtain ⟨e2, e3, _⟩ := hY.all
  go_wp2_with (go_at_call 9; refine (num_any _ _).mono ?_; rintro e w' ⟨rfl, rfl⟩)
  ((with_reducible refine (plen_is g 2 _ [⟨1, 6, 3, 1⟩] 1 _ t9 (by decide) rfl).mono ?_); rintro e w10 ⟨rfl, q, rfl⟩)
  replace hY := hY.drewN q
  replace t9 := t9.drewN q
  clear e0 e1 e2 e3 hS
  generalize w9.drewN q = w10 at *
  go_wp2_with fail
  ((with_reducible refine (pall_is g 2 [⟨1, 6, 3, 1⟩] [] 1 1 _ t9 rfl rfl).mono ?_); rintro e w11 ⟨rfl, t11, g11⟩)
  replace hY := hY.grown g11
  clear t9 g11
  go_wp2_with fail
  ((with_reducible refine (plen_is g 2 _ [] 0 _ t11 (by decide) rfl).mono ?_); rintro e w12 ⟨rfl, q2, rfl⟩)
  replace hY := hY.drewN q2
  go_wp2_with fail
  go_ret
  exact ⟨rfl, hY.b⟩

end Go.Proofs.Ytiegonnnokldkaa
