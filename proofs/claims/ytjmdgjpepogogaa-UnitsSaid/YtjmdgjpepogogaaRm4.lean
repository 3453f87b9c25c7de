/-
  Contracts of the document's table of vectors: NewRemap, Set, Unset, Mask, Look, Clear.
-/
import Derived.Test.YtjmdgjpepogogaaRm3
namespace Go.Proofs.Ytjmdgjpepogogaa
open Go.RowKit
set_option linter.unusedVariables false
set_option linter.unusedSimpArgs false
set_option maxRecDepth 100000

theorem dmset_no (r b D : Nat) (T : List Ro) (d v p : Int) (w : World) (h : RR w r b D T) (hb : rsB D d v p = false) :
    Calls Try.prog 46 #[.pointer (some ⟨r, 0, none⟩), .int .i64 d, .int .i64 v, .int .i64 p] w fun e w' => e = .returned (.int .i64 1100) ∧ w = w' := by
  have H := Lib.hid h; clear h
  simp only [rsB, Bool.and_eq_false_iff, decide_eq_false_iff_not] at hb
  cases h1 : inR D d v with
  | false =>
    have HB := Lib.hid h1; clear h1 hb
    go_enter Try.func46, Try.ntmps46
    go_wp2_with fail
    refine (dmthere_any r b D T d v _ H.out).mono ?_
    rintro e w' ⟨rfl, rfl⟩
    rw [HB.out]
    go_wp2_with fail
    go_ret
    exact ⟨rfl, rfl⟩
  | true =>
    have hp : p < 0 ∨ 4 ≤ p := by rcases hb with hb | hb; · rw [h1] at hb; cases hb
                                  · omega
    have HB := Lib.hid h1; clear h1 hb
    rcases hp with hp | hp
    · go_enter Try.func46, Try.ntmps46
      go_wp2_with fail
      refine (dmthere_any r b D T d v _ H.out).mono ?_
      rintro e w' ⟨rfl, rfl⟩
      rw [HB.out]
      go_wp2_with fail
      go_ret
      exact ⟨rfl, rfl⟩
    · have hp0 : decide (p < 0) = false := by simp; omega
      go_enter Try.func46, Try.ntmps46
      go_wp2_with fail
      refine (dmthere_any r b D T d v _ H.out).mono ?_
      rintro e w' ⟨rfl, rfl⟩
      rw [HB.out]
      go_wp2_with fail
      go_ret
      exact ⟨rfl, rfl⟩

theorem dmset_yes (r b D : Nat) (T : List Ro) (d v p : Int) (w : World) (h : RR w r b D T) (hb : rsB D d v p = true) :
    Calls Try.prog 46 #[.pointer (some ⟨r, 0, none⟩), .int .i64 d, .int .i64 v, .int .i64 p] w fun e w' => e = .returned (.int .i64 0) ∧ RR w' r b D (T.set (ixR d v) ⟨true, p, false⟩) ∧ w.grownBy w' (some b) := by
  simp only [rsB, Bool.and_eq_true, decide_eq_true_eq] at hb
  obtain ⟨h1, hp0, hp1⟩ := hb
  have hD := h.le
  have H := Lib.hid h
  have hc := h.cell0
  obtain ⟨i, j, rfl, rfl, hi, hj, hij, hix⟩ := h.way h1
  have hs := h.set (i * 8 + j) hij ⟨true, p, false⟩
  obtain ⟨c0, c1, c2⟩ := h.at_ (i * 8 + j) hij
  have hg := set3_grown w b ⟨b, i * 24 + j * 3, none⟩ ⟨b, i * 24 + j * 3 + 1, none⟩ ⟨b, i * 24 + j * 3 + 2, none⟩ rfl rfl rfl (.bool true) (.int .i64 p) (.bool false)
  rw [show (i * 8 + j) * 3 = i * 24 + j * 3 by omega] at hs c0 c1 c2
  have f0 := h.row.frozen (i * 24 + j * 3)
  have f1 := h.row.frozen (i * 24 + j * 3 + 1)
  have f2 := h.row.frozen (i * 24 + j * 3 + 2)
  have HB := Lib.hid h1; have HS := Lib.hid hs; have HG := Lib.hid hg; have HX := Lib.hid hix; clear h1 h hs hg hix
  go_enter Try.func46, Try.ntmps46
  go_wp2_with fail
  refine (dmthere_any r b D T _ _ _ H.out).mono ?_
  rintro e w' ⟨rfl, rfl⟩
  rw [HB.out]
  go_wp2_with fail
  go_ret
  exact ⟨rfl, by rw [HX.out]; exact HS.out, HG.out⟩

theorem dmset_any (r b D : Nat) (T : List Ro) (d v p : Int) (w : World) (h : RR w r b D T) :
    Calls Try.prog 46 #[.pointer (some ⟨r, 0, none⟩), .int .i64 d, .int .i64 v, .int .i64 p] w fun e w' => e = .returned (.int .i64 (rsC D d v p)) ∧ RR w' r b D (rsT D T d v p) ∧ w.grownBy w' (some b) := by
  cases hb : rsB D d v p with
  | true =>
    have := dmset_yes r b D T d v p w h hb
    simpa [rsC, rsT, hb] using this
  | false =>
    refine (dmset_no r b D T d v p w h hb).mono ?_
    rintro e w' ⟨rfl, rfl⟩
    exact ⟨by simp [rsC, hb], by simpa [rsT, hb] using h, grefl _ _⟩

theorem RR.reC_in {w : World} {r b D : Nat} {T : List Ro} (h : RR w r b D T) {d v : Int} (hc : reC D T d v = 0) : inR D d v = true := by
  rcases reC_cases D T d v with ⟨_, h2⟩ | ⟨_, _, h2⟩ | ⟨h1, _, _⟩ <;> first | exact h1 | omega

theorem dmunset_any (r b D : Nat) (T : List Ro) (d v : Int) (w : World) (h : RR w r b D T) :
    Calls Try.prog 47 #[.pointer (some ⟨r, 0, none⟩), .int .i64 d, .int .i64 v] w fun e w' => e = .returned (.int .i64 (reC D T d v)) ∧ RR w' r b D (ruT D T d v) ∧ w.grownBy w' (some b) := by
  have H := Lib.hid h
  have hD := h.le
  by_cases hc : reC D T d v = 0
  · have h1 := h.reC_in hc
    have hp := h.cell0
    obtain ⟨i, j, rfl, rfl, hi, hj, hij, hix⟩ := h.way h1
    have HT := Lib.hid (show ruT D T ↑i ↑j = T.set (i * 8 + j) ro0 by simp [ruT, hc, hix, atR])
    obtain ⟨c0, c1, c2⟩ := h.at_ (i * 8 + j) hij
    have hs := h.set (i * 8 + j) hij ro0
    have hg := set3_grown w b ⟨b, i * 24 + j * 3, none⟩ ⟨b, i * 24 + j * 3 + 1, none⟩ ⟨b, i * 24 + j * 3 + 2, none⟩ rfl rfl rfl (.bool false) (.int .i64 0) (.bool false)
    rw [show (i * 8 + j) * 3 = i * 24 + j * 3 by omega] at hs c0 c1 c2
    have f0 := h.row.frozen (i * 24 + j * 3)
    have f1 := h.row.frozen (i * 24 + j * 3 + 1)
    have f2 := h.row.frozen (i * 24 + j * 3 + 2)
    generalize T.getD (i * 8 + j) ro0 = x at *
    have HC := Lib.hid hc; have HS := Lib.hid hs; have HG := Lib.hid hg; clear h1 h hs hg hc hix
    go_enter Try.func47, Try.ntmps47
    go_wp2_with fail
    refine (dmentry_any r b D T _ _ _ H.out).mono ?_
    rintro e w' ⟨rfl, rfl⟩
    rw [HC.out]
    go_wp2_with fail
    go_ret
    exact ⟨by rw [HC.out]; rfl, by rw [HT.out]; exact HS.out, HG.out⟩
  · have HT := Lib.hid (show ruT D T d v = T by simp [ruT, hc])
    have hc' : (reC D T d v == 0) = false := by simpa using hc
    clear h hc
    go_enter Try.func47, Try.ntmps47
    go_wp2_with fail
    refine (dmentry_any r b D T _ _ _ H.out).mono ?_
    rintro e w' ⟨rfl, rfl⟩
    go_wp2_with fail
    go_ret
    exact ⟨rfl, by rw [HT.out]; exact H.out, grefl _ _⟩

theorem dmmask_any (r b D : Nat) (T : List Ro) (d v : Int) (m : Bool) (w : World) (h : RR w r b D T) :
    Calls Try.prog 49 #[.pointer (some ⟨r, 0, none⟩), .int .i64 d, .int .i64 v, .bool m] w fun e w' => e = .returned (.int .i64 (reC D T d v)) ∧ RR w' r b D (rmT D T d v m) ∧ w.grownBy w' (some b) := by
  have H := Lib.hid h
  have hD := h.le
  by_cases hc : reC D T d v = 0
  · have h1 := h.reC_in hc
    have hp := h.cell0
    obtain ⟨i, j, rfl, rfl, hi, hj, hij, hix⟩ := h.way h1
    have HT := Lib.hid (show rmT D T ↑i ↑j m = T.set (i * 8 + j) { T.getD (i * 8 + j) ro0 with m := m } by simp [rmT, hc, hix, atR])
    obtain ⟨c0, c1, c2⟩ := h.at_ (i * 8 + j) hij
    have hs := h.mask (i * 8 + j) hij m
    have hg : w.grownBy (w.setCell ⟨b, i * 24 + j * 3 + 2, none⟩ (.bool m)) (some b) := gone _
    rw [show (i * 8 + j) * 3 = i * 24 + j * 3 by omega] at hs c0 c1 c2
    have f0 := h.row.frozen (i * 24 + j * 3)
    have f1 := h.row.frozen (i * 24 + j * 3 + 1)
    have f2 := h.row.frozen (i * 24 + j * 3 + 2)
    generalize T.getD (i * 8 + j) ro0 = x at *
    have HC := Lib.hid hc; have HS := Lib.hid hs; have HG := Lib.hid hg; clear h1 h hs hg hc hix
    go_enter Try.func49, Try.ntmps49
    go_wp2_with fail
    refine (dmentry_any r b D T _ _ _ H.out).mono ?_
    rintro e w' ⟨rfl, rfl⟩
    rw [HC.out]
    go_wp2_with fail
    go_ret
    exact ⟨by rw [HC.out]; rfl, by rw [HT.out]; exact HS.out, HG.out⟩
  · have HT := Lib.hid (show rmT D T d v m = T by simp [rmT, hc])
    have hc' : (reC D T d v == 0) = false := by simpa using hc
    clear h hc
    go_enter Try.func49, Try.ntmps49
    go_wp2_with fail
    refine (dmentry_any r b D T _ _ _ H.out).mono ?_
    rintro e w' ⟨rfl, rfl⟩
    go_wp2_with fail
    go_ret
    exact ⟨rfl, by rw [HT.out]; exact H.out, grefl _ _⟩

theorem dmlook_any (r b D : Nat) (T : List Ro) (d v : Int) (w : World) (h : RR w r b D T) :
    Calls Try.prog 50 #[.pointer (some ⟨r, 0, none⟩), .int .i64 d, .int .i64 v] w fun e w' => e = .returned (.tuple #[.int .i64 (rlP D T d v), .bool (rlM D T d v), .int .i64 (reC D T d v)]) ∧ Below w.heap.size w w' := by
  have H := Lib.hid h
  have hD := h.le
  by_cases hc : reC D T d v = 0
  · have h1 := h.reC_in hc
    have hp := h.cell0
    obtain ⟨i, j, rfl, rfl, hi, hj, hij, hix⟩ := h.way h1
    have HA := Lib.hid (show rlP D T ↑i ↑j = (T.getD (i * 8 + j) ro0).p ∧ rlM D T ↑i ↑j = (T.getD (i * 8 + j) ro0).m by simp [rlP, rlM, hc, atR, hix])
    obtain ⟨c0, c1, c2⟩ := h.at_ (i * 8 + j) hij
    rw [show (i * 8 + j) * 3 = i * 24 + j * 3 by omega] at c0 c1 c2
    generalize T.getD (i * 8 + j) ro0 = x at *
    obtain ⟨x0, x1, x2⟩ := x
    have HC := Lib.hid hc; clear h1 h hc hix
    go_enter Try.func50, Try.ntmps50
    go_wp2_with fail
    refine (dmentry_any r b D T _ _ _ H.out).mono ?_
    rintro e w' ⟨rfl, rfl⟩
    rw [HC.out]
    go_wp2_with fail
    go_quiet (fail)
    go_wp2_with fail
    go_ret3
    exact ⟨by rw [HA.out.1, HA.out.2, HC.out]; rfl, bdrewN ((Below.refl _ _).alloc (Nat.le_refl _) _) nq⟩
  · have HA := Lib.hid (show rlP D T d v = 0 ∧ rlM D T d v = false by simp [rlP, rlM, hc])
    have hc' : (reC D T d v == 0) = false := by simpa using hc
    clear h hc
    go_enter Try.func50, Try.ntmps50
    go_wp2_with fail
    refine (dmentry_any r b D T _ _ _ H.out).mono ?_
    rintro e w' ⟨rfl, rfl⟩
    go_wp2_with fail
    go_ret3
    exact ⟨by rw [HA.out.1, HA.out.2]; rfl, Below.refl _ _⟩

theorem zRow_run (w : World) : Sem.run Try.prog (zeroValue 120) w = .ok (.agg zDev) w := by
  have hi : (Try.prog.info? 120).map (fun i => i.zero) = some (some (.agg zDev)) := by kernel_rfl
  cases h : Try.prog.info? 120 with
  | none => rw [h] at hi; cases hi
  | some i =>
    rw [h] at hi
    simp only [Option.map_some, Option.some.injEq] at hi
    simp [zeroValue, typeInfo, h, hi]
theorem clrT_take (T : List Ro) (i D : Nat) (hi : i < D) (hD : D * 8 ≤ T.length) : (clrT T i).take (D * 8) = clrT (T.take (D * 8)) i := by
  unfold clrT
  rw [List.take_append, List.take_of_length_le (by simp [roZ]; omega), List.take_take, show min (i * 8) (D * 8) = i * 8 by omega, List.drop_take]
  congr 2
  simp [roZ]; omega
theorem RR.wipe {w : World} {r b D : Nat} {T : List Ro} (h : RR w r b D T) (i : Nat) (hi : i < D) : ∃ w3, Sem.run Try.prog (storeCells ⟨b, i * 24, none⟩ zDev.toList) w = .ok () w3 ∧ RR w3 r b D (clrT T i) ∧ w.grownBy w3 (some b) := by
  have h2 := h.len
  have hD := h.le
  have hl := ros_len (T.take (D * 8))
  have hlt : (T.take (D * 8)).length = D * 8 := by simp; omega
  have hst := run_storeCells_at Try.prog b (i * 24) 120 zDev.toList 0 _ w h.row (by simp only [List.size_toArray]; rw [hl, hlt, show zDev.toList.length = 24 from rfl]; omega) (ros_one roZ)
  refine ⟨_, hst, ⟨hD, by rw [clrT_len T i (by omega), h2], h.blk.grown (grown_setRow _ _ _) (fun e => h.apart (by injection e)), ?_⟩, grown_setRow _ _ _⟩
  have e := clr_cells (T.take (D * 8)) i [] (by omega)
  simp only [List.length_nil, Nat.zero_add, List.nil_append] at e
  simp only [Nat.add_zero]
  rw [e, clrT_take T i D hi (by omega)]
  exact h.row.row _

theorem dmclear_any (r b D : Nat) (T : List Ro) (d : Int) (w : World) (h : RR w r b D T) :
    Calls Try.prog 52 #[.pointer (some ⟨r, 0, none⟩), .int .i64 d] w fun e w' => e = .returned (.int .i64 (rcC D d)) ∧ RR w' r b D (rcT D T d) ∧ w.grownBy w' (some b) := by
  have H := Lib.hid h
  have hD := h.le
  have hin : inR D d 0 = rcB D d := by simp only [inR, rcB]; congr 1; simp
  cases hb : rcB D d with
  | true =>
    have HT := Lib.hid (show rcT D T d = clrT T d.toNat by simp [rcT, hb])
    have HC := Lib.hid (show rcC D d = 0 by simp [rcC, hb])
    rw [hb] at hin
    obtain ⟨i, j, rfl, -, hi, -, -, -⟩ := h.way hin
    obtain ⟨w3, hst, hp3, gr3⟩ := h.wipe i (by omega)
    have hp := h.cell0
    have HZ := zRow_run
    have hne := zDev_ne
    have hsz := zDev_size
    rw [Int.toNat_natCast] at HT
    have HB := Lib.hid hin; clear hb h hin
    go_enter Try.func52, Try.ntmps52
    go_wp2_with fail
    refine (dmthere_any r b D T _ 0 _ H.out).mono ?_
    rintro e w' ⟨rfl, rfl⟩
    rw [HB.out]
    go_wp2_with fail
    go_ret
    exact ⟨by rw [HC.out]; rfl, by rw [HT.out]; exact hp3, gr3⟩
  | false =>
    have HT := Lib.hid (show rcT D T d = T by simp [rcT, hb])
    have HC := Lib.hid (show rcC D d = 1100 by simp [rcC, hb])
    rw [hb] at hin
    have HB := Lib.hid hin; clear hb h hin
    go_enter Try.func52, Try.ntmps52
    go_wp2_with fail
    refine (dmthere_any r b D T _ 0 _ H.out).mono ?_
    rintro e w' ⟨rfl, rfl⟩
    rw [HB.out]
    go_wp2_with fail
    go_ret
    exact ⟨by rw [HC.out]; rfl, by rw [HT.out]; exact H.out, grefl _ _⟩

theorem dmnew_no (c : Int) (w : World) (h : ¬ (1 ≤ c ∧ c ≤ 4)) :
    Calls Try.prog 23 #[.int .i64 c] w fun e w' => e = .returned (.tuple #[.pointer none, .int .i64 1100]) ∧ w = w' := by
  by_cases h1 : c < 1
  · clear h
    go_enter Try.func23, Try.ntmps23
    go_wp2
    go_ret2
    exact ⟨rfl, rfl⟩
  · have h2 : 4 < c := by omega
    clear h
    go_enter Try.func23, Try.ntmps23
    go_wp2
    go_ret2
    exact ⟨rfl, rfl⟩

theorem make_row (w : World) (n : Nat) (hn : n ≤ 4) : (Instr.makeSlice 99 (.int .i64 (n : Int)) (.int .i64 (n : Int))).run Try.prog w = .ok (.slice (some ⟨w.heap.size, 0, none⟩) n n) (w.alloc (.cells (ros (newT.take (n * 8))).toArray 120)) := by
  have hi : (Try.prog.info? 120).map (fun i => (i.zero, i.size, i.bytes)) = some (some (.agg zDev), 24, 192) := by kernel_rfl
  obtain ⟨i0, hi, hz0, hz1, hz2⟩ := info_parts hi
  have := run_makeSlice (P := Try.prog) w 99 120 i0 (.agg zDev) Try.underlying99 hi hz0 .i64 .i64 n n (by omega) (by omega) (by rw [hz1]; omega) (by rw [hz2]; omega) (by omega)
  rw [this, Int.toNat_natCast, hz1]
  have e : madeCells (Value.agg zDev).cells (n * 24) = (ros (newT.take (n * 8))).toArray := by
    rcases (show n = 0 ∨ n = 1 ∨ n = 2 ∨ n = 3 ∨ n = 4 by omega) with rfl | rfl | rfl | rfl | rfl <;> kernel_rfl
  rw [e]

theorem dmnew_yes (c : Nat) (w : World) (h1 : 1 ≤ c) (h2 : c ≤ 4) :
    Calls Try.prog 23 #[.int .i64 c] w fun e w' => e = .returned (.tuple #[.pointer (some ⟨w.heap.size + 1, 0, none⟩), .int .i64 0]) ∧ RR w' (w.heap.size + 1) w.heap.size c newT ∧ Below w.heap.size w w' := by
  have hm := fun w => make_row w c h2
  have h3 : decide ((c : Int) < 1) = false := by simp; omega
  have h4 : decide ((4 : Int) < c) = false := by simp; omega
  go_enter Try.func23, Try.ntmps23
  go_wp2
  go_ret2
  have hb := Blk.new w 120 (ros (newT.take (c * 8)))
  have hB : Below w.heap.size w (w.alloc (.cells (ros (newT.take (c * 8))).toArray 120)) := (Below.refl _ _).alloc (Nat.le_refl _) _
  have e : (w.alloc (.cells (ros (newT.take (c * 8))).toArray 120)).heap.size = w.heap.size + 1 := by simp
  generalize w.alloc (.cells (ros (newT.take (c * 8))).toArray 120) = w1 at *
  have hr := Blk.new w1 101 [.slice (some ⟨w.heap.size, 0, none⟩) c c]
  rw [e] at hr
  exact ⟨rfl, ⟨h2, newT_len, hr, hb.alloc _⟩, hB.alloc (by omega) _⟩

end Go.Proofs.Ytjmdgjpepogogaa
