/-
  The contract of addr.Split: the pieces of a run that is within the memory, in a row of the call's own.
-/
import Derived.Test.YtobpggpjboonfaaDoorFirst
namespace Go.Proofs.YtobpggpjboonfaaDoor
open Go.RowKit
set_option linter.unusedVariables false
set_option maxRecDepth 100000

/-- What a call that answers pieces leaves: they stand in a row of its own; below block B nothing has turned. -/
def Pieces (L : List (Nat × Nat × Nat)) (w : World) (e : Ending) (w' : World) : Prop :=
  ∃ v, e = .returned (.tuple #[v, .int .i64 0]) ∧ w'.ownsRow w.heap.size 87 3 v L.length (flat L) ∧ Below w.heap.size w w'

theorem infoPiece : (Tryd.prog.info? 87).map (fun i => (i.zero, i.size, i.bytes)) = some (some (.agg #[.int .i64 0, .int .i64 0, .int .i64 0]), 3, 24) := by kernel_rfl

theorem split_yes (a n : Int) (w : World) (h0 : 0 ≤ a) (h1 : 0 ≤ n) (h2 : a + n ≤ 4096) :
    Calls Tryd.prog 47 #[.int .i64 a, .int .i64 n] w (Pieces (spl a.toNat n.toNat) w) := by
  obtain ⟨a, rfl⟩ := Int.eq_ofNat_of_zero_le h0
  obtain ⟨n, rfl⟩ := Int.eq_ofNat_of_zero_le h1
  simp only [Int.toNat_natCast]
  obtain ⟨i0, hi, hz0, hz1, hz2⟩ := info_parts infoPiece
  generalize hL : spl a n = L
  have HL := Lib.hid hL; clear hL
  have HI := Lib.hid hi; have HZ0 := Lib.hid hz0; have HZ1 := Lib.hid hz1; have HZ2 := Lib.hid hz2; clear hi hz0 hz1 hz2
  go_enter Tryd.func47, Tryd.ntmps47
  go_wp2_with (go_at_call 62; refine (may_yes _ _ _ _ (by omega) (by omega) (by omega) (by omega) (by omega)).mono ?_; rintro e w' ⟨rfl, rfl⟩)
  go_loopw [0, 1, 6] (fun s t v wr => ∃ (b m : Nat) (ds : List (Nat × Nat × Nat)), s = .int .i64 b ∧ t = .int .i64 m ∧ b + m = a + n ∧ ds.length + m ≤ n ∧ Hid (ds ++ spl b m = L) ∧ wr.ownsRow w.heap.size 87 3 v ds.length (flat ds) ∧ Below w.heap.size w wr)
    (fun _ t _ _ => (intOf t).toNat)
  case atStart => exact ⟨a, n, [], rfl, rfl, rfl, by simp, HL.out, World.ownsRow_nil _ _ _ _, Below.refl _ _⟩
  case round =>
    obtain ⟨b, m, ds, rfl, rfl, hbm, hdm, HR, hown, hbel⟩ := hrel
    by_cases hm : 0 < m
    · obtain ⟨k, hk⟩ : ∃ k : Nat, k = min m (64 - b % 64) := ⟨_, rfl⟩
      have hkm : k ≤ m := by omega
      have hk0 : 0 < k := by omega
      have HK := Lib.hid hk; clear hk
      go_wp2_with (first
        | (go_at_call 63; refine (first_any _ _ (k : Int) _ (by omega) (by omega) (by omega) (by omega) (by rw [HK.out]; omega)).mono ?_; rintro e w1 ⟨rfl, hb1⟩)
        | (at_builtin; refine wpList_append_own _ rfl _ _ 83 rfl w.heap.size 87 i0 _ 3 24 Tryd.underlying83 HI.out HZ0.out HZ1.out HZ2.out rfl (by decide) _ ds.length (flat ds) rfl ?d1 ⟨w1.heap.size + 1, 0, none⟩ 1 1 [.int .i64 (b / 64), .int .i64 (b % 64), .int .i64 k] rfl rfl ?d2 ?d3 ?d4 ?d5 ?d6 ?_))
      case d1 => exact ((own_below hown hb1).alloc _).alloc _
      case d2 => exact pv_new2 w1 _ _ _ _ _
      case d3 => exact pv_one _ _ _
      case d4 => unfold maxLen; omega
      case d5 => omega
      case d6 => have := hb1.size; have := hbel.size; simp; omega
      intro v' w2 hown' hgrow _
      have hbel2 := below_two _ _ hown hbel.size hbel hb1 hgrow
      have hblk := kept_first _ _ hown hb1.size hgrow
      have hcell : w2.cell? ⟨w1.heap.size, 2, none⟩ = some (.int .i64 (k : Int)) := by
        rw [cell_of_row w2 _ 2 _ _ (0, 0) hblk]; rfl
      clear hblk hgrow hown hb1 hbel
      go_wp2
      go_quiet (fail)
      go_wp2
      go_roundw
      case rel => exact ⟨b + k, m - k, ds ++ [(b / 64, b % 64, k)], by go_num, by go_num, by omega, by simp; omega, Lib.hid (spl_next b m k ds L hm HK.out HR.out), by rw [flat_append, flat_one, List.length_append]; exact hown', bdrewN hbel2 _⟩
      case measure => simp [intOf]; omega
    · go_wp2
      go_ret2
      refine ⟨_, rfl, ?_, hbel⟩
      obtain rfl : m = 0 := by omega
      have e := HR.out
      rw [spl_zero, List.append_nil] at e
      rw [← e]
      exact hown

/-- What a call leaves that refuses. -/
theorem split_no (a n : Int) (w : World) (h : ¬ (0 ≤ a ∧ 0 ≤ n ∧ a ≤ 4096 ∧ n ≤ 4096 - a)) :
    Calls Tryd.prog 47 #[.int .i64 a, .int .i64 n] w fun e w' => e = .returned (.tuple #[.slice none 0 0, .int .i64 100]) ∧ w = w' := by
  have H := Lib.hid h; clear h
  go_enter Tryd.func47, Tryd.ntmps47
  go_wp2_with (go_at_call 62; refine (may_no _ _ _ _ H.out (by omega)).mono ?_; rintro e w' ⟨rfl, rfl⟩)
  go_ret2
  exact ⟨rfl, rfl⟩

theorem rsplit_no (a n : Int) (w : World) (h : ¬ (0 ≤ a ∧ 0 ≤ n ∧ a ≤ 4096 ∧ n ≤ 4096 - a)) :
    Calls Tryd.prog 43 #[.int .i64 a, .int .i64 n] w fun e w' => e = .returned (.tuple #[.slice none 0 0, .int .i64 100]) ∧ w = w' := by
  have H := Lib.hid h; clear h
  go_enter Tryd.func43, Tryd.ntmps43
  go_wp2_with (go_at_call 61; refine (rmay_no _ _ _ _ H.out (by omega)).mono ?_; rintro e w' ⟨rfl, rfl⟩)
  go_ret2
  exact ⟨rfl, rfl⟩

theorem rsplit_yes (a n : Int) (w : World) (h0 : 0 ≤ a) (h1 : 0 ≤ n) (h2 : a + n ≤ 4096) :
    Calls Tryd.prog 43 #[.int .i64 a, .int .i64 n] w (Pieces (spl a.toNat n.toNat) w) := by
  obtain ⟨a, rfl⟩ := Int.eq_ofNat_of_zero_le h0
  obtain ⟨n, rfl⟩ := Int.eq_ofNat_of_zero_le h1
  simp only [Int.toNat_natCast]
  obtain ⟨i0, hi, hz0, hz1, hz2⟩ := info_parts infoPiece
  generalize hL : spl a n = L
  have HL := Lib.hid hL; clear hL
  have HI := Lib.hid hi; have HZ0 := Lib.hid hz0; have HZ1 := Lib.hid hz1; have HZ2 := Lib.hid hz2; clear hi hz0 hz1 hz2
  go_enter Tryd.func43, Tryd.ntmps43
  go_wp2_with (go_at_call 61; refine (rmay_yes _ _ _ _ (by omega) (by omega) (by omega) (by omega) (by omega)).mono ?_; rintro e w' ⟨rfl, rfl⟩)
  go_loopw [0, 1, 6] (fun s t v wr => ∃ (b m : Nat) (ds : List (Nat × Nat × Nat)), s = .int .i64 b ∧ t = .int .i64 m ∧ b + m = a + n ∧ ds.length + m ≤ n ∧ Hid (ds ++ spl b m = L) ∧ wr.ownsRow w.heap.size 87 3 v ds.length (flat ds) ∧ Below w.heap.size w wr)
    (fun _ t _ _ => (intOf t).toNat)
  case atStart => exact ⟨a, n, [], rfl, rfl, rfl, by simp, HL.out, World.ownsRow_nil _ _ _ _, Below.refl _ _⟩
  case round =>
    obtain ⟨b, m, ds, rfl, rfl, hbm, hdm, HR, hown, hbel⟩ := hrel
    by_cases hm : 0 < m
    · obtain ⟨k, hk⟩ : ∃ k : Nat, k = min m (64 - b % 64) := ⟨_, rfl⟩
      have hkm : k ≤ m := by omega
      have hk0 : 0 < k := by omega
      have hsz := hbel.size
      by_cases hc : (m : Int) ≤ 64 - (b : Int) % 64
      · have HK2 : Hid (k = m) := Lib.hid (by omega)
        clear hk
        have HK : Hid (k = min m (64 - b % 64)) := Lib.hid (by have := HK2.out; omega)
        go_wp2_with (at_builtin; refine wpList_append_own _ rfl _ _ 83 rfl w.heap.size 87 i0 _ 3 24 Tryd.underlying83 HI.out HZ0.out HZ1.out HZ2.out rfl (by decide) _ ds.length (flat ds) rfl (hown.alloc _) ⟨wr.heap.size, 0, none⟩ 1 1 [.int .i64 (b / 64), .int .i64 (b % 64), .int .i64 (m : Int)] rfl rfl (by exact pv_new wr _ _ _ _) (by exact pv_one _ _ _) (by unfold maxLen; omega) (by omega) (by simp; omega) ?_)
        · intro v' w2 hown' hgrow _
          have hbel2 := below_one _ hown hbel.size hbel hgrow
          clear hgrow hown hbel
          go_wp2
          go_roundw
          case rel => exact ⟨b + k, m - k, ds ++ [(b / 64, b % 64, k)], by have := HK2.out; go_num, by have := HK2.out; go_num, by omega, by simp; omega, Lib.hid (spl_next b m k ds L hm HK.out HR.out), by rw [flat_append, flat_one, List.length_append]; (have e : ((m : Int) : Int) = (k : Int) := by have := HK2.out; omega); rw [e] at hown'; exact hown', hbel2⟩
          case measure => have := HK2.out; simp [intOf]; omega
      · have HK2 : Hid (k = 64 - b % 64) := Lib.hid (by omega)
        clear hk
        have HK : Hid (k = min m (64 - b % 64)) := Lib.hid (by have := HK2.out; omega)
        go_wp2_with (at_builtin; refine wpList_append_own _ rfl _ _ 83 rfl w.heap.size 87 i0 _ 3 24 Tryd.underlying83 HI.out HZ0.out HZ1.out HZ2.out rfl (by decide) _ ds.length (flat ds) rfl (hown.alloc _) ⟨wr.heap.size, 0, none⟩ 1 1 [.int .i64 (b / 64), .int .i64 (b % 64), .int .i64 (64 - (b : Int) % 64)] rfl rfl (by exact pv_new wr _ _ _ _) (by exact pv_one _ _ _) (by unfold maxLen; omega) (by omega) (by simp; omega) ?_)
        · intro v' w2 hown' hgrow _
          have hbel2 := below_one _ hown hbel.size hbel hgrow
          clear hgrow hown hbel
          go_wp2
          go_roundw
          case rel => exact ⟨b + k, m - k, ds ++ [(b / 64, b % 64, k)], by have := HK2.out; go_num, by have := HK2.out; go_num, by omega, by simp; omega, Lib.hid (spl_next b m k ds L hm HK.out HR.out), by rw [flat_append, flat_one, List.length_append]; (have e : ((64 - (b : Int) % 64) : Int) = (k : Int) := by have := HK2.out; omega); rw [e] at hown'; exact hown', hbel2⟩
          case measure => have := HK2.out; simp [intOf]; omega
    · go_wp2
      go_ret2
      refine ⟨_, rfl, ?_, hbel⟩
      obtain rfl : m = 0 := by omega
      have e := HR.out
      rw [spl_zero, List.append_nil] at e
      rw [← e]
      exact hown

end Go.Proofs.YtobpggpjboonfaaDoor
