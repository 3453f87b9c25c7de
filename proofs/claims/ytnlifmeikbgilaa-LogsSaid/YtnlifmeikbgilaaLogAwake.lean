/-
  Layer 8: a row of Adds in one word; awake.
-/
import Derived.Test.YtnlifmeikbgilaaLog1
import Derived.Test.YtnlifmeikbgilaaLogSame
import Derived.Test.YtnlifmeikbgilaaNum
namespace Go.Proofs.Ytnlifmeikbgilaa
open Go.RowKit
set_option linter.unusedVariables false
set_option maxRecDepth 100000

/-- What is kept of m faults, F 0, F 1, ..; how many are only counted. -/
def kp (F : Nat → Fl) (c m : Nat) : List Fl := (List.range (min c m)).map F
def dr (c m : Nat) : Nat := min (m - c) 65535
theorem kp_len (F : Nat → Fl) (c m : Nat) : (kp F c m).length = min c m := by simp [kp]
theorem kp_at (F : Nat → Fl) (c m i : Nat) (h : i < (kp F c m).length) : (kp F c m)[i] = F i := by simp [kp]

theorem ladd_kp (F : Nat → Fl) (g c m : Nat) (w : World) (h : PF w g c (kp F c m) (dr c m)) (h1 : 1 ≤ c) (h2 : c ≤ 16) :
    Calls Try.prog 9 #[.pointer (some ⟨g, 0, none⟩), .agg #[.int .i64 (F m).t, .int .i64 (F m).d, .int .i64 (F m).i, .bool (F m).w, .int .i64 (F m).c]] w fun e w' => e = .returned (.tuple #[]) ∧ PF w' g c (kp F c (m + 1)) (dr c (m + 1)) ∧ w.grownBy w' (some g) := by
  have hl := kp_len F c m
  by_cases hc : c ≤ m
  · refine (ladd_full g c _ _ (F m) w h (by omega) (by unfold dr; omega)).mono ?_
    rintro e w' ⟨he, hp, hg⟩
    rw [show min (dr c m + 1) 65535 = dr c (m + 1) by unfold dr; omega] at hp
    rw [show kp F c m = kp F c (m + 1) by unfold kp; rw [Nat.min_eq_left hc, Nat.min_eq_left (by omega)]] at hp
    exact ⟨he, hp, hg⟩
  · refine (ladd_room g c _ _ (F m) w h (by omega) h2).mono ?_
    rintro e w' ⟨he, hp, hg⟩
    rw [show dr c m = dr c (m + 1) by unfold dr; omega] at hp
    rw [show kp F c m ++ [F m] = kp F c (m + 1) by unfold kp; rw [Nat.min_eq_right (by omega), Nat.min_eq_right (by omega), List.range_succ]; simp] at hp
    exact ⟨he, hp, hg⟩

theorem ltake_any (g c : Nat) (l : List Fl) (k : Nat) (w : World) (h : PF w g c l k) :
    Calls Try.prog 11 #[.pointer (some ⟨g, 0, none⟩)] w fun e w' => ∃ A cap, e = .returned (.tuple #[.slice A l.length cap, .int .i64 k]) ∧ w'.ownsRow w.heap.size 34 5 (.slice A l.length cap) l.length (fls l) ∧ PF w' g c [] 0 ∧ w.grownBy w' (some g) := by
  rcases Nat.eq_zero_or_pos l.length with h0 | h0
  · obtain rfl := List.length_eq_zero_iff.1 h0
    refine (ltake_none g c k w h).mono ?_
    rintro e w' ⟨he, hp, hg⟩
    exact ⟨none, 0, he, World.ownsRow_nil _ _ _ _, hp, hg⟩
  · exact ltake_one g c _ l k w h rfl h0

/-- The faults of awake. -/
def fA (i : Nat) : Fl := ⟨(i : Int) + 1, 0, 0, false, 0⟩
theorem fA_two : kp fA 2 4 = [⟨1, 0, 0, false, 0⟩, ⟨2, 0, 0, false, 0⟩] := rfl

set_option maxRecDepth 100000 in
theorem lawake_any (w : World) : Calls Try.prog 8 #[] w fun e w' => e = .returned (.bool true) ∧ Below w.heap.size w w' := by
  go_enter Try.func8, Try.ntmps8
  go_wp2_with fail
  refine (lnew_yes 2 w (by omega) (by omega)).mono ?_
  rintro e w1 ⟨rfl, t1, b1⟩
  have hgl := t1.lt
  generalize hg : w.heap.size = g at *
  have HG := Lib.hid hg; clear hg
  go_wp2_with fail
  refine (lnew_no 0 _ (by omega)).mono ?_
  rintro e w' ⟨rfl, rfl⟩
  go_wp2_with fail
  refine (num_any 0 _).mono ?_
  rintro e w' ⟨rfl, rfl⟩
  go_wp2_with fail
  go_loopw [5] (fun i wq => ∃ (k : Nat), k ≤ 4 ∧ i = .int .i64 ((k : Int) + 1) ∧ PF wq g 2 (kp fA 2 k) (dr 2 k) ∧ Below g w wq) (fun i _ => 5 - (intOf i).toNat)
  case atStart => exact ⟨0, by omega, rfl, t1, b1⟩
  case round =>
    clear t1 b1 hgl
    obtain ⟨k, hk, rfl, ht, hbel⟩ := hrel
    by_cases hlt : k < 4
    · go_wp2_with fail
      refine (ladd_kp fA g 2 k _ ht (by omega) (by omega)).mono ?_
      rintro e w2 ⟨rfl, t2, g2⟩
      have b2 := bone hbel g2 (by have := hbel.size; have := ht.lt; omega) (Nat.le_refl g)
      clear ht hbel g2
      go_wp2_with fail
      go_roundw
      case rel => exact ⟨k + 1, by omega, by go_num, t2, b2⟩
      case measure => simp [intOf]; omega
    · obtain rfl : k = 4 := by omega
      have hgw := ht.lt
      go_wp2_with fail
      refine (ltake_any g 2 _ _ _ ht).mono ?_
      rintro e w2 ⟨A, cap, rfl, own2, t2, g2⟩
      have b2 := bone hbel g2 (by omega) (Nat.le_refl g)
      rw [fA_two] at own2 ⊢
      simp only [List.length_cons, List.length_nil, Nat.reduceAdd] at own2
      have hd2 : dr 2 4 = 2 := rfl
      rw [hd2]
      simp only [List.length_cons, List.length_nil, Nat.reduceAdd]
      go_wp2_with fail
      refine (ltake_none g 2 _ _ t2).mono ?_
      rintro e w3 ⟨rfl, t3, g3⟩
      have own3 := own2.kept g3 (.inr (fun e => by have := (own2.lt _ e).1; omega))
      have b3 := bone b2 g3 (by have := t2.lt; omega) (Nat.le_refl g)
      have hg3 := t3.lt
      clear t3 t2 g3 g2 own2 b2 ht hbel
      go_wp2_with fail
      refine (num_any 800 _).mono ?_
      rintro e w' ⟨rfl, rfl⟩
      go_wp2_with fail
      refine (fsame_yes _ _ [⟨1, 0, 0, false, 0⟩, ⟨2, 0, 0, false, 0⟩] _ (Sl.own (own_below own3 ((Below.refl _ _).alloc (Nat.le_refl _) _))) (Sl.lit w3 (fls [⟨1, 0, 0, false, 0⟩, ⟨2, 0, 0, false, 0⟩]) 2 5 34 (by rfl)) (by simp)).mono ?_
      rintro e w' ⟨rfl, q, rfl⟩
      go_wp2_with fail
      go_ret
      rw [HG.out] at *
      exact ⟨rfl, bdrewN (b3.alloc (by omega) _) q⟩

end Go.Proofs.Ytnlifmeikbgilaa
