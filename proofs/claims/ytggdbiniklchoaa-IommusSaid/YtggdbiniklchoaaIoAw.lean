/-
  Layer 7's awake answers true.
-/
import Derived.Test.YtggdbiniklchoaaIoW
import Derived.Test.YtggdbiniklchoaaIoAw0
import Derived.Test.YtggdbiniklchoaaNum
import Derived.Test.YtggdbiniklchoaaAddrAll
namespace Go.Proofs.Ytggdbiniklchoaa
open Go.RowKit
set_option linter.unusedVariables false
set_option maxRecDepth 100000

theorem lits2 (w : World) (xs ys : List Int) (hx : xs.length ≤ 65536) (hy : ys.length ≤ 65536) :
    PL (((w.alloc (.cells (ints xs).toArray 3)).alloc (.cells (ints ys).toArray 3)).alloc (.cells #[.slice (some ⟨w.heap.size, 0, none⟩) xs.length xs.length, .slice (some ⟨w.heap.size + 1, 0, none⟩) ys.length ys.length] 35)) w.heap.size (.slice (some ⟨w.heap.size + 2, 0, none⟩) 2 2) [xs, ys] ∧
    Below w.heap.size w (((w.alloc (.cells (ints xs).toArray 3)).alloc (.cells (ints ys).toArray 3)).alloc (.cells #[.slice (some ⟨w.heap.size, 0, none⟩) xs.length xs.length, .slice (some ⟨w.heap.size + 1, 0, none⟩) ys.length ys.length] 35)) := by
  have e1 : (w.alloc (.cells (ints xs).toArray 3)).heap.size = w.heap.size + 1 := by simp
  have e2 : ((w.alloc (.cells (ints xs).toArray 3)).alloc (.cells (ints ys).toArray 3)).heap.size = w.heap.size + 2 := by simp
  have b1 := (Blk.new w 3 (ints xs)).alloc (.cells (ints ys).toArray 3)
  have b2 := Blk.new (w.alloc (.cells (ints xs).toArray 3)) 3 (ints ys)
  rw [e1] at b2
  have b3 := Blk.new ((w.alloc (.cells (ints xs).toArray 3)).alloc (.cells (ints ys).toArray 3)) 35 [.slice (some ⟨w.heap.size, 0, none⟩) xs.length xs.length, .slice (some ⟨w.heap.size + 1, 0, none⟩) ys.length ys.length]
  rw [e2] at b3
  exact ⟨PL.lit2 (b1.alloc _) (b2.alloc _) b3 (Nat.le_refl _) (by omega) (by omega) hx hy, (((Below.refl _ w).alloc (Nat.le_refl _) _).alloc (by omega) _).alloc (by omega) _⟩

set_option maxHeartbeats 4000000 in
theorem aw7_any (w : World) : Calls Try.prog 7 #[] w fun e w' => e = .returned (.bool true) ∧ Below w.heap.size w w' := by
  go_enter Try.func7, Try.ntmps7
  go_wp2_with fail
  refine (new_yes 8 _ (by omega) (by omega)).mono ?_
  rintro e w1 ⟨rfl, pm1, b1⟩
  generalize hg : w.heap.size = g at *
  have HG := Lib.hid hg; clear hg
  have hgw : w.heap.size ≤ g := by rw [HG.out]; exact Nat.le_refl _
  replace b1 : Below w.heap.size w w1 := by rw [HG.out]; exact b1
  change PM w1 g (zeros 512) at pm1
  go_wp2_with fail
  obtain ⟨pl, bl⟩ := lits2 w1 [0, 1] [2, 3] (by simp) (by simp)
  have pm2 := pm1.below bl pm1.lt
  have b2 := Below.down b1 bl b1.size
  refine (new_w (w0 := w) (g := g) pm2 b2 hgw pl fA_ok rfl).mono ?_
  rintro e w2 ⟨x, t, rfl, hw, gr, _⟩
  change Wd w g x t psA aw7_0 w2 at hw
  clear gr pl bl pm2 b2 pm1 b1
  go_wp2_with fail
  obtain ⟨pl, bl⟩ := lits2 w2 [0, 1] [1, 3] (by simp) (by simp)
  replace hw := hw.below bl
  refine (new_no7 g _ _ _ aw7_0 _ hw.pm pl fA_no).mono ?_
  rintro e w3 ⟨rfl, b3⟩
  replace hw := hw.below b3
  clear b3 pl bl
  go_wp2_with fail
  replace hw := hw.below (((Below.refl _ w3).alloc (Nat.le_refl _) (.cells #[.int .i64 0, .int .i64 1] 3)).alloc (by simp) (.cells #[.slice (some ⟨w3.heap.size, 0, none⟩) 2 2] 35))
  refine (new_nil _ _).mono ?_
  rintro e w4 ⟨rfl, b4⟩
  replace hw := hw.below b4
  clear b4
  go_wp2_with (go_at_call 6; refine (num_any _ _).mono ?_; rintro e w' ⟨rfl, rfl⟩)
  refine (map_w 1 17 6 3 0 hw fA_1 rfl).mono ?_
  rintro e w5 ⟨rfl, hw5, tn5⟩
  change Wd w g x t psA aw7_1 w5 at hw5
  clear hw tn5
  go_wp2_with fail
  refine (map_w 1 33 6 3 701 hw5 fA_2 fA_2l).mono ?_
  rintro e w6 ⟨rfl, hw6, tn6⟩
  clear hw5 tn6
  go_wp2_with fail
  refine (map_w 1 18 7 1 0 hw6 fA_3 rfl).mono ?_
  rintro e w7 ⟨rfl, hw7, tn7⟩
  change Wd w g x t psA aw7_3 w7 at hw7
  clear hw6 tn7
  go_wp2_with fail
  refine (tr_w 1 1148 10 0 false _ hw7 fA_4 fA_4p).mono ?_
  rintro e w8 ⟨A8, cap8, rfl, ho, hw8, tn8⟩
  clear hw7 tn8
  go_wp2_with fail
  refine (tr_w 1 1148 10 703 true _ hw8 fA_5 fA_5p).mono ?_
  rintro e w9 ⟨A9, cap9, rfl, _, hw9, tn9⟩
  replace ho := (hw8.kp tn9).own ho (by decide) (by decide)
  clear hw8 tn9
  go_wp2_with fail
  refine (tr_w 0 0 1 702 false _ hw9 fA_6 fA_6p).mono ?_
  rintro e w10 ⟨A10, cap10, rfl, _, hw10, tn10⟩
  replace ho := (hw9.kp tn10).own ho (by decide) (by decide)
  clear hw9 tn10
  go_wp2_with fail
  refine (unmap_w 1 17 0 hw10 fA_7 rfl).mono ?_
  rintro e w11 ⟨rfl, hw11, tn11⟩
  replace ho := (hw10.kp tn11).own ho (by decide) (by decide)
  change Wd w g x t psA aw7_4 w11 at hw11
  clear hw10 tn11
  go_wp2_with fail
  refine (tr_w 1 1088 1 702 false _ hw11 fA_8 fA_8p).mono ?_
  rintro e w12 ⟨A12, cap12, rfl, _, hw12, tn12⟩
  replace ho := (hw11.kp tn12).own ho (by decide) (by decide)
  clear hw11 tn12
  go_wp2_with fail
  refine (unmap_w 1 17 702 hw12 fA_9 fA_9l).mono ?_
  rintro e w13 ⟨rfl, hw13, tn13⟩
  replace ho := (hw12.kp tn13).own ho (by decide) (by decide)
  clear hw12 tn13
  have hb13 := hw13.b
  have hsl := Sl.own ho
  clear hw13 ho
  go_wp2_with (go_at_call 6; refine (num_any _ _).mono ?_; rintro e w' ⟨rfl, rfl⟩)
  have bl : Below w13.heap.size w13 (w13.alloc (.cells (flat [(6, 60, 4), (7, 0, 6)]).toArray 65)) := (Below.refl _ _).alloc (Nat.le_refl _) _
  have hl := Sl.lit w13 (flat [(6, 60, 4), (7, 0, 6)]) 2 3 65 rfl
  replace hsl := hsl.below bl
  replace hb13 := Below.down hb13 bl hb13.size
  refine (same_yes _ _ [(6, 60, 4), (7, 0, 6)] _ hsl hl (by simp)).mono ?_
  rintro e w14 ⟨rfl, q, rfl⟩
  replace hb13 := bdrewN hb13 q
  clear hsl hl bl
  go_wp2_with (go_at_call 6; refine (num_any _ _).mono ?_; rintro e w' ⟨rfl, rfl⟩)
  go_ret
  exact ⟨rfl, hb13⟩

end Go.Proofs.Ytggdbiniklchoaa
