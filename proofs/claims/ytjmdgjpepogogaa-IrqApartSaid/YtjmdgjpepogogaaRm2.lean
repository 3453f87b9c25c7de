/-
  Contracts of package remap: New, Unset, Mask, Look, Clear.
-/
import Derived.Test.YtjmdgjpepogogaaRm1
namespace Go.Proofs.Ytjmdgjpepogogaa
open Go.RowKit
set_option linter.unusedVariables false
set_option maxRecDepth 100000

theorem PR.ix {w : World} {g D : Nat} {T : List Ro} (h : PR w g D T) {d v : Int} (hc : reC D T d v = 0) : ixR d v < 32 := by
  have hin : inR D d v = true := by rcases reC_cases D T d v with ⟨_, h2⟩ | ⟨_, _, h2⟩ | ⟨h1, _, _⟩ <;> first | exact h1 | omega
  obtain ⟨i, j, rfl, rfl, hi, hj⟩ := (inR_iff D d v).1 hin
  have := h.le
  simp only [ixR, Int.toNat_natCast]; omega

theorem pmunset_any (g D : Nat) (T : List Ro) (d v : Int) (w : World) (h : PR w g D T) :
    Calls Try.prog 39 #[.pointer (some ⟨g, 0, none⟩), .int .i64 d, .int .i64 v] w fun e w' => e = .returned (.int .i64 (reC D T d v)) ∧ PR w' g D (ruT D T d v) ∧ w.grownBy w' (some g) := by
  have H := Lib.hid h
  by_cases hc : reC D T d v = 0
  · have HT := Lib.hid (show ruT D T d v = T.set (ixR d v) ro0 by simp [ruT, hc])
    have HP := Lib.hid (show fdP g D T d v = .pointer (some ⟨g, 1 + ixR d v * 3, none⟩) by simp [fdP, hc])
    have hk := h.ix hc
    have hs := h.set _ hk ro0
    obtain ⟨c0, c1, c2⟩ := h.at_ _ hk
    have hg := set3_grown w g ⟨g, 1 + ixR d v * 3, none⟩ ⟨g, 1 + ixR d v * 3 + 1, none⟩ ⟨g, 1 + ixR d v * 3 + 2, none⟩ rfl rfl rfl (.bool false) (.int .i64 0) (.bool false)
    have f0 := h.frozen (1 + ixR d v * 3)
    have f1 := h.frozen (1 + ixR d v * 3 + 1)
    have f2 := h.frozen (1 + ixR d v * 3 + 2)
    generalize ixR d v = k at *
    have HC := Lib.hid hc; have HS := Lib.hid hs; have HG := Lib.hid hg; clear h hs hg hc
    go_enter Try.func39, Try.ntmps39
    go_wp2_with fail
    refine (pmfind_any g D T _ _ _ H.out).mono ?_
    rintro e w' ⟨rfl, rfl⟩
    rw [HP.out, HC.out]
    go_wp2_with fail
    go_ret
    exact ⟨by rw [HC.out]; rfl, by rw [HT.out]; exact HS.out, HG.out⟩
  · have HT := Lib.hid (show ruT D T d v = T by simp [ruT, hc])
    have HP := Lib.hid (show fdP g D T d v = .pointer none by simp [fdP, hc])
    have hc' : (reC D T d v == 0) = false := by simpa using hc
    clear h hc
    go_enter Try.func39, Try.ntmps39
    go_wp2_with fail
    refine (pmfind_any g D T _ _ _ H.out).mono ?_
    rintro e w' ⟨rfl, rfl⟩
    rw [HP.out]
    go_wp2_with fail
    go_ret
    exact ⟨rfl, by rw [HT.out]; exact H.out, grefl _ _⟩

theorem pmmask_any (g D : Nat) (T : List Ro) (d v : Int) (m : Bool) (w : World) (h : PR w g D T) :
    Calls Try.prog 41 #[.pointer (some ⟨g, 0, none⟩), .int .i64 d, .int .i64 v, .bool m] w fun e w' => e = .returned (.int .i64 (reC D T d v)) ∧ PR w' g D (rmT D T d v m) ∧ w.grownBy w' (some g) := by
  have H := Lib.hid h
  by_cases hc : reC D T d v = 0
  · have HT := Lib.hid (show rmT D T d v m = T.set (ixR d v) { T.getD (ixR d v) ro0 with m := m } by simp [rmT, hc, atR])
    have HP := Lib.hid (show fdP g D T d v = .pointer (some ⟨g, 1 + ixR d v * 3, none⟩) by simp [fdP, hc])
    have hk := h.ix hc
    have hs := h.mask _ hk m
    obtain ⟨c0, c1, c2⟩ := h.at_ _ hk
    have hg : w.grownBy (w.setCell ⟨g, 1 + ixR d v * 3 + 2, none⟩ (.bool m)) (some g) := gone _
    have f2 := h.frozen (1 + ixR d v * 3 + 2)
    generalize ixR d v = k at *
    have HC := Lib.hid hc; have HS := Lib.hid hs; have HG := Lib.hid hg; clear h hs hg hc
    go_enter Try.func41, Try.ntmps41
    go_wp2_with fail
    refine (pmfind_any g D T _ _ _ H.out).mono ?_
    rintro e w' ⟨rfl, rfl⟩
    rw [HP.out, HC.out]
    go_wp2_with fail
    go_ret
    exact ⟨by rw [HC.out]; rfl, by rw [HT.out]; exact HS.out, HG.out⟩
  · have HT := Lib.hid (show rmT D T d v m = T by simp [rmT, hc])
    have HP := Lib.hid (show fdP g D T d v = .pointer none by simp [fdP, hc])
    have hc' : (reC D T d v == 0) = false := by simpa using hc
    clear h hc
    go_enter Try.func41, Try.ntmps41
    go_wp2_with fail
    refine (pmfind_any g D T _ _ _ H.out).mono ?_
    rintro e w' ⟨rfl, rfl⟩
    rw [HP.out]
    go_wp2_with fail
    go_ret
    exact ⟨rfl, by rw [HT.out]; exact H.out, grefl _ _⟩

theorem pmlook_any (g D : Nat) (T : List Ro) (d v : Int) (w : World) (h : PR w g D T) :
    Calls Try.prog 33 #[.pointer (some ⟨g, 0, none⟩), .int .i64 d, .int .i64 v] w fun e w' => e = .returned (.tuple #[.int .i64 (rlP D T d v), .bool (rlM D T d v), .int .i64 (reC D T d v)]) ∧ ∃ q, w' = w.drewN q := by
  have H := Lib.hid h
  by_cases hc : reC D T d v = 0
  · have HA := Lib.hid (show rlP D T d v = (T.getD (ixR d v) ro0).p ∧ rlM D T d v = (T.getD (ixR d v) ro0).m by simp [rlP, rlM, hc, atR])
    have HP := Lib.hid (show fdP g D T d v = .pointer (some ⟨g, 1 + ixR d v * 3, none⟩) by simp [fdP, hc])
    have hk := h.ix hc
    obtain ⟨c0, c1, c2⟩ := h.at_ _ hk
    generalize ixR d v = k at *
    generalize T.getD k ro0 = x at *
    obtain ⟨x0, x1, x2⟩ := x
    have HC := Lib.hid hc; clear h hc
    go_enter Try.func33, Try.ntmps33
    go_wp2_with fail
    refine (pmfind_any g D T _ _ _ H.out).mono ?_
    rintro e w' ⟨rfl, rfl⟩
    rw [HP.out, HC.out]
    go_wp2_with fail
    go_quiet (fail)
    go_wp2_with fail
    go_ret3
    exact ⟨by rw [HA.out.1, HA.out.2, HC.out]; rfl, nq, rfl⟩
  · have HA := Lib.hid (show rlP D T d v = 0 ∧ rlM D T d v = false by simp [rlP, rlM, hc])
    have HP := Lib.hid (show fdP g D T d v = .pointer none by simp [fdP, hc])
    have hc' : (reC D T d v == 0) = false := by simpa using hc
    clear h hc
    go_enter Try.func33, Try.ntmps33
    go_wp2_with fail
    refine (pmfind_any g D T _ _ _ H.out).mono ?_
    rintro e w' ⟨rfl, rfl⟩
    rw [HP.out]
    go_wp2_with fail
    go_ret3
    exact ⟨by rw [HA.out.1, HA.out.2]; rfl, 0, rfl⟩

/-- Eight entries that are none: kept closed to the walk. -/
def zDev : Array Value := (ros roZ).toArray
theorem zDev_ne : ¬ (zDev = #[]) := by simp [zDev, roZ, ros, ro3]
theorem zDev_size : zDev.size = 24 := rfl
theorem zDev_run (w : World) : Sem.run Try.prog (zeroValue 86) w = .ok (.agg zDev) w := by
  have hi : (Try.prog.info? 86).map (fun i => i.zero) = some (some (.agg zDev)) := by kernel_rfl
  cases h : Try.prog.info? 86 with
  | none => rw [h] at hi; cases hi
  | some i =>
    rw [h] at hi
    simp only [Option.map_some, Option.some.injEq] at hi
    simp [zeroValue, typeInfo, h, hi]
/-- A device's entries gone, in a row of cells. -/
theorem clr_cells (T : List Ro) (i : Nat) (z : List Value) (hi : i * 8 + 8 ≤ T.length) : (z ++ ros T).take (z.length + i * 24) ++ zDev.toList ++ (z ++ ros T).drop (z.length + i * 24 + zDev.toList.length) = z ++ ros (clrT T i) := by
  have hz : zDev.toList = ros roZ := rfl
  have hl : (ros roZ).length = 24 := rfl
  unfold clrT
  rw [hz, hl, ros_append, ros_append, ros_take, ros_drop, show i * 8 * 3 = i * 24 by omega, show (i * 8 + 8) * 3 = i * 24 + 24 by omega]
  rw [List.take_append, List.take_of_length_le (by omega), show z.length + i * 24 - z.length = i * 24 by omega]
  rw [List.drop_append, List.drop_eq_nil_of_le (by omega), show z.length + i * 24 + 24 - z.length = i * 24 + 24 by omega]
  simp
theorem PR.wipe {w : World} {g D : Nat} {T : List Ro} (h : PR w g D T) (i : Nat) (hi : i < 4) : ∃ w3, Sem.run Try.prog (storeCells ⟨g, 1 + i * 24, none⟩ zDev.toList) w = .ok () w3 ∧ PR w3 g D (clrT T i) ∧ w.grownBy w3 (some g) := by
  obtain ⟨h1, h2, hb⟩ := h
  have hl := ros_len T
  have hst := run_storeCells_at Try.prog g (1 + i * 24) 89 zDev.toList 0 _ w hb (by simp only [List.size_toArray, List.length_cons]; rw [hl, h2, show zDev.toList.length = 24 from rfl]; omega) (ros_one roZ)
  refine ⟨_, hst, ⟨h1, by rw [clrT_len T i (by omega), h2], ?_⟩, grown_setRow _ _ _⟩
  have e := clr_cells T i [.int .i64 (D : Int)] (by omega)
  simp only [List.length_cons, List.length_nil, Nat.zero_add, List.singleton_append] at e
  simp only [Nat.add_zero]
  rw [e]
  exact hb.row _

theorem pmclear_any (g D : Nat) (T : List Ro) (d : Int) (w : World) (h : PR w g D T) :
    Calls Try.prog 43 #[.pointer (some ⟨g, 0, none⟩), .int .i64 d] w fun e w' => e = .returned (.int .i64 (rcC D d)) ∧ PR w' g D (rcT D T d) ∧ w.grownBy w' (some g) := by
  have H := Lib.hid h
  cases hb : rcB D d with
  | true =>
    have HT := Lib.hid (show rcT D T d = clrT T d.toNat by simp [rcT, hb])
    have HC := Lib.hid (show rcC D d = 0 by simp [rcC, hb])
    have hd : 0 ≤ d ∧ d < D := by simpa [rcB] using hb
    obtain ⟨hd0, hd1⟩ := hd
    obtain ⟨i, rfl⟩ := Int.eq_ofNat_of_zero_le hd0
    have hD := h.le
    have hi4 : (i : Int) < 4 := by omega
    obtain ⟨w3, hst, hp3, gr3⟩ := h.wipe i (by omega)
    have HZ := zDev_run
    have hne := zDev_ne
    have hsz := zDev_size
    rw [Int.toNat_natCast] at HT
    have HB := Lib.hid hb; clear hb h
    go_enter Try.func43, Try.ntmps43
    go_wp2_with fail
    refine (pmdev_any g D T _ _ H.out).mono ?_
    rintro e w' ⟨rfl, rfl⟩
    rw [HB.out]
    go_wp2_with fail
    go_ret
    exact ⟨by rw [HC.out]; rfl, by rw [HT.out]; exact hp3, gr3⟩
  | false =>
    have HT := Lib.hid (show rcT D T d = T by simp [rcT, hb])
    have HC := Lib.hid (show rcC D d = 1100 by simp [rcC, hb])
    have HB := Lib.hid hb; clear hb h
    go_enter Try.func43, Try.ntmps43
    go_wp2_with fail
    refine (pmdev_any g D T _ _ H.out).mono ?_
    rintro e w' ⟨rfl, rfl⟩
    rw [HB.out]
    go_wp2_with fail
    go_ret
    exact ⟨by rw [HC.out]; rfl, by rw [HT.out]; exact H.out, grefl _ _⟩

theorem pmnew_no (c : Int) (w : World) (h : ¬ (1 ≤ c ∧ c ≤ 4)) :
    Calls Try.prog 21 #[.int .i64 c] w fun e w' => e = .returned (.tuple #[.pointer none, .int .i64 1100]) ∧ w = w' := by
  by_cases h1 : c < 1
  · clear h
    go_enter Try.func21, Try.ntmps21
    go_wp2
    go_ret2
    exact ⟨rfl, rfl⟩
  · have h2 : 4 < c := by omega
    clear h
    go_enter Try.func21, Try.ntmps21
    go_wp2
    go_ret2
    exact ⟨rfl, rfl⟩

/-- The cells of a new one: kept closed to the walk. -/
def zRm : Array Value := (Value.int .i64 0 :: ros newT).toArray
theorem zRm_ne : ¬ (zRm = #[]) := by simp [zRm]
theorem zRm_run (w : World) : Sem.run Try.prog (zeroValue 89) w = .ok (.agg zRm) w := by
  have hi : (Try.prog.info? 89).map (fun i => i.zero) = some (some (.agg zRm)) := by kernel_rfl
  cases h : Try.prog.info? 89 with
  | none => rw [h] at hi; cases hi
  | some i =>
    rw [h] at hi
    simp only [Option.map_some, Option.some.injEq] at hi
    simp [zeroValue, typeInfo, h, hi]
theorem zRm_set (c : Int) : zRm.setIfInBounds 0 (.int .i64 c) = (Value.int .i64 c :: ros newT).toArray := by simp [zRm]

theorem pmnew_yes (c : Nat) (w : World) (h1 : 1 ≤ c) (h2 : c ≤ 4) :
    Calls Try.prog 21 #[.int .i64 c] w fun e w' => e = .returned (.tuple #[.pointer (some ⟨w.heap.size, 0, none⟩), .int .i64 0]) ∧ PR w' w.heap.size c newT ∧ Below w.heap.size w w' := by
  have hz := zRm_run
  have hne := zRm_ne
  have h3 : decide ((c : Int) < 1) = false := by simp; omega
  have h4 : decide ((4 : Int) < c) = false := by simp; omega
  go_enter Try.func21, Try.ntmps21
  go_wp2
  go_ret2
  refine ⟨rfl, ?_, (Below.refl _ _).alloc (Nat.le_refl _) _⟩
  rw [zRm_set]
  exact ⟨h2, newT_len, Blk.new _ _ _⟩

end Go.Proofs.Ytjmdgjpepogogaa
