/-
  The contract of layer 1's awake: it answers true, whatever the world.
-/
import Derived.Test.YtcdioceleiolaaaSame
namespace Go.Proofs.Ytcdioceleiolaaa
open Go.RowKit
set_option linter.unusedVariables false

theorem Sl.lit (w : World) (cs : List Value) (n size : Nat) (t : TypeId) (h : cs.length = n * size) : Sl (w.alloc (.cells cs.toArray t)) (.slice (some ⟨w.heap.size, 0, none⟩) n n) n size cs :=
  ⟨_, n, rfl, Nat.le_refl _, h, fun _ => ⟨w.heap.size, 0, rfl, by simp, fun j u hu => by
    rw [cell_of_row (w.alloc (.cells cs.toArray t)) w.heap.size (0 + j) cs.toArray t (0, 0) (heap_alloc_new w _)]
    simpa using hu⟩⟩

theorem awake_pieces : spl 60 10 = [(0, 60, 4), (1, 0, 6)] := by decide

theorem awake_any (w : World) : Calls Try.prog 15 #[] w fun e w' => e = .returned (.bool true) ∧ Below w.heap.size w w' := by
  go_enter Try.func15, Try.ntmps15
  go_wp2_with fail
  refine (split_yes 60 10 _ (by omega) (by omega) (by omega)).mono ?_
  rintro e w1 ⟨v, rfl, ho, hb⟩
  rw [show (60 : Int).toNat = 60 from rfl, show (10 : Int).toNat = 10 from rfl, awake_pieces] at ho
  have hs := Sl.own ho
  clear ho
  go_wp2_with fail
  refine (split_no (-1) 1 _ (by omega)).mono ?_
  rintro e w2 ⟨rfl, rfl⟩
  go_wp2_with fail
  refine (may_yes 3 4 7 _ (by omega) (by omega) (by omega) (by omega) (by omega)).mono ?_
  rintro e w2 ⟨rfl, rfl⟩
  go_wp2_with fail
  refine (may_no 3 5 7 _ (by omega) (by omega)).mono ?_
  rintro e w2 ⟨rfl, rfl⟩
  go_wp2_with fail
  refine (may_no _ _ _ _ (by omega) (by omega)).mono ?_
  rintro e w2 ⟨rfl, rfl⟩
  go_wp2_with fail
  have hlit := Sl.lit w1 [.int .i64 0, .int .i64 60, .int .i64 4, .int .i64 1, .int .i64 0, .int .i64 6] 2 3 35 rfl
  refine (same_yes _ _ [(0, 60, 4), (1, 0, 6)] _ (hs.below ((Below.refl _ _).alloc (Nat.le_refl _) _)) hlit (by decide)).mono ?_
  rintro e w2 ⟨rfl, q, rfl⟩
  have HS := Lib.hid hs; clear hs hlit
  go_wp2_with (go_at_call 11; refine (num_any _ _).mono ?_; rintro e w2 ⟨rfl, rfl⟩)
  go_ret
  exact ⟨rfl, bdrewN (hb.alloc hb.size _) _⟩

end Go.Proofs.Ytcdioceleiolaaa
