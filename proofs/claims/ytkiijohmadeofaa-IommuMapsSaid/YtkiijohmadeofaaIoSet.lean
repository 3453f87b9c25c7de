/-
  The laws' two devices: caissonlaw7.set.
-/
import Derived.Test.YtkiijohmadeofaaIoAw
namespace Go.Proofs.Ytkiijohmadeofaa
open Go.RowKit
set_option linter.unusedVariables false
set_option maxRecDepth 100000

def l7 : List UInt8 := zeros 1024
theorem l7_eq : ps2.flatten.foldl zeL (zeros 1024) = l7 := by decide +kernel
theorem l7_len : l7.length = 1024 := by simp [l7, zeros]
theorem l7_zero (i : Nat) : l7.getD i 0 = 0 := by
  unfold l7 zeros
  rw [List.getD, List.getElem?_replicate]
  split <;> rfl
theorem l7_frs : frs l7 = 16 := by unfold frs; rw [l7_len]; rfl
theorem l7_ok : okP (frs (zeros 1024)) ps2 = true := by decide +kernel

theorem lits1 (w : World) (xs : List Int) (hx : xs.length ≤ 65536) :
    PL ((w.alloc (.cells (ints xs).toArray 3)).alloc (.cells #[.slice (some ⟨w.heap.size, 0, none⟩) xs.length xs.length] 35)) w.heap.size (.slice (some ⟨w.heap.size + 1, 0, none⟩) 1 1) [xs] ∧
    Below w.heap.size w ((w.alloc (.cells (ints xs).toArray 3)).alloc (.cells #[.slice (some ⟨w.heap.size, 0, none⟩) xs.length xs.length] 35)) := by
  have e1 : (w.alloc (.cells (ints xs).toArray 3)).heap.size = w.heap.size + 1 := by simp
  have b3 := Blk.new (w.alloc (.cells (ints xs).toArray 3)) 35 [.slice (some ⟨w.heap.size, 0, none⟩) xs.length xs.length]
  rw [e1] at b3
  exact ⟨PL.lit1 ((Blk.new w 3 (ints xs)).alloc _) b3 (Nat.le_refl _) (by omega) hx, ((Below.refl _ w).alloc (Nat.le_refl _) _).alloc (by omega) _⟩

set_option maxHeartbeats 4000000 in
theorem set7_any (w0 w : World) (hb : Below w0.heap.size w0 w) :
    Calls Try.prog 21 #[] w fun e w' => ∃ g x t, e = .returned (.tuple #[.pointer (some ⟨g, 0, none⟩), .pointer (some ⟨x, 0, none⟩)]) ∧ Wd w0 g x t ps2 l7 w' ∧ Below w.heap.size w w' ∧ w.heap.size ≤ g ∧ w.heap.size ≤ t := by
  have hs := hb.size
  go_enter Try.func21, Try.ntmps21
  go_wp2_with fail
  refine (new_yes 16 _ (by omega) (by omega)).mono ?_
  rintro e w1 ⟨rfl, pm1, b1⟩
  have b1' := b1
  generalize hg : w.heap.size = g at b1 pm1 ⊢
  have HG := Lib.hid hg; clear hg
  have hgw : w.heap.size ≤ g := by rw [HG.out]; exact Nat.le_refl _
  have b01 := Below.down hb b1' hs
  change PM w1 g (zeros 1024) at pm1
  go_wp2_with fail
  obtain ⟨pl, bl⟩ := lits2 w1 [0, 1, 2, 3] [4, 5, 6] (by simp) (by simp)
  have pm2 := pm1.below bl pm1.lt
  have b2 := Below.down b01 bl b01.size
  have b12 := Below.down b1' bl b1'.size
  refine (new_w (w0 := w0) (g := g) (ps := ps2) pm2 b2 (by omega) pl l7_ok l7_eq).mono ?_
  rintro e w2 ⟨x, t, rfl, hw, gr, ht⟩
  have b22 := bone b12 gr b12.size hgw
  have htw : w.heap.size ≤ t := Nat.le_trans b12.size ht
  clear gr pl bl pm2 b2 pm1 b1 ht b12 b01 b1'
  go_wp2_with (go_at_call 11; refine (num_any _ _).mono ?_; rintro e w' ⟨rfl, rfl⟩)
  go_ret2
  exact ⟨g, x, t, rfl, hw, b22, hgw, htw⟩

/-! ### what is refused -/
theorem trF (ps : List (List Int)) (l : List UInt8) (d a k : Int) (write : Bool) (h : ¬ (0 ≤ d ∧ d < ps.length ∧ 1 ≤ k ∧ k ≤ 256 ∧ 0 ≤ a ∧ a + k ≤ 16384)) : ioTrC ps l d a k write = 700 ∧ ioTrP ps l d a k write = [] := by
  have hB : ioTrB ps d a k = false := by
    unfold ioTrB thB mayB
    rw [← Bool.decide_and, ← Bool.decide_and]
    exact decide_eq_false (by omega)
  have hC : ioTrC ps l d a k write = 700 := by unfold ioTrC; rw [hB]; rfl
  exact ⟨hC, by unfold ioTrP; rw [hC]; rfl⟩
theorem mapF (ps : List (List Int)) (l : List UInt8) (d p f m : Int) (h : ¬ (0 ≤ d ∧ d < ps.length ∧ 0 ≤ p ∧ p < 256 ∧ 1 ≤ m ∧ m ≤ 3 ∧ 0 ≤ f ∧ f < 64 ∧ f < frs l)) : ioMapC ps l d p f m = 700 ∧ ioMapL ps l d p f m = l := by
  have hB : ioMapB ps l d p f m = false := by
    unfold ioMapB thB
    rw [← Bool.decide_and]
    exact decide_eq_false (by omega)
  exact map_no ps l d p f m hB
theorem unF (ps : List (List Int)) (l : List UInt8) (d p : Int) (h : ¬ (0 ≤ d ∧ d < ps.length ∧ 0 ≤ p ∧ p < 256)) : ioUnC ps l d p = 700 ∧ ioUnL ps l d p = l := by
  have hB : thB ps.length d p = false := decide_eq_false h
  have hC : ioUnC ps l d p = 700 := by unfold ioUnC; rw [hB]; rfl
  exact ⟨hC, un_no ps l d p (by omega)⟩
theorem clF (ps : List (List Int)) (l : List UInt8) (d : Int) (h : ¬ (0 ≤ d ∧ d < ps.length)) : ioClC ps d = 700 ∧ ioClL ps l d = l := by
  have hB : thB ps.length d 0 = false := decide_eq_false (by omega)
  exact ⟨by unfold ioClC; rw [hB]; rfl, by unfold ioClL; rw [hB]; rfl⟩
theorem ps2_len : ps2.length = 2 := rfl

end Go.Proofs.Ytkiijohmadeofaa
