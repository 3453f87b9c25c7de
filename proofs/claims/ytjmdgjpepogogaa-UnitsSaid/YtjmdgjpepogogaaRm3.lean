/-
  Contracts of the document's table of vectors: NewRemap, there, entry, Set, Unset, Mask, Look, Clear.
-/
import Derived.Test.YtjmdgjpepogogaaRm2
import Derived.Laws.OwnMore
import Derived.IntWalk
namespace Go.Proofs.Ytjmdgjpepogogaa
open Go.RowKit
set_option linter.unusedVariables false
set_option maxRecDepth 100000

/-- The document's table: at block r, its entries at block b, D how many devices, T the entries of all devices there may be. -/
structure RR (w : World) (r b : Nat) (D : Nat) (T : List Ro) : Prop where
  le : D ≤ 4
  len : T.length = 32
  blk : Blk w r 101 [.slice (some ⟨b, 0, none⟩) D D]
  row : Blk w b 120 (ros (T.take (D * 8)))

section
variable {w w' : World} {r b D : Nat} {T : List Ro}
theorem RR.apart (h : RR w r b D T) : r ≠ b := h.blk.apart h.row (by decide)
theorem RR.drewN (h : RR w r b D T) (n : Nat) : RR (w.drewN n) r b D T := ⟨h.le, h.len, h.blk, h.row⟩
theorem RR.alloc (h : RR w r b D T) (o : Obj) : RR (w.alloc o) r b D T := ⟨h.le, h.len, h.blk.alloc o, h.row.alloc o⟩
theorem RR.below {B : Nat} (h : RR w r b D T) (hb : Below B w w') (h1 : r < B) (h2 : b < B) : RR w' r b D T := ⟨h.le, h.len, h.blk.below hb h1, h.row.below hb h2⟩
theorem RR.grown {k : Option Nat} (h : RR w r b D T) (hb : w.grownBy w' k) (h1 : some r ≠ k) (h2 : some b ≠ k) : RR w' r b D T := ⟨h.le, h.len, h.blk.grown hb h1, h.row.grown hb h2⟩
theorem RR.cell0 (h : RR w r b D T) : w.cell? ⟨r, 0, none⟩ = some (.slice (some ⟨b, 0, none⟩) D D) := by rw [h.blk.cell]; rfl
/-- An entry's cells. -/
theorem RR.at_ (h : RR w r b D T) (i : Nat) (hi : i < D * 8) : w.cell? ⟨b, i * 3, none⟩ = some (.bool (T.getD i ro0).is) ∧ w.cell? ⟨b, i * 3 + 1, none⟩ = some (.int .i64 (T.getD i ro0).p) ∧ w.cell? ⟨b, i * 3 + 2, none⟩ = some (.bool (T.getD i ro0).m) := by
  have hl := h.len
  have hD := h.le
  have hg := ros_get (T.take (D * 8)) i (by simp; omega)
  have e : (T.take (D * 8)).getD i ro0 = T.getD i ro0 := by simp only [List.getD_eq_getElem?_getD]; rw [List.getElem?_take_of_lt hi]
  rw [e] at hg
  exact ⟨by rw [h.row.cell]; exact hg.1, by rw [h.row.cell]; exact hg.2.1, by rw [h.row.cell]; exact hg.2.2⟩
theorem RR.set (h : RR w r b D T) (i : Nat) (hi : i < D * 8) (x : Ro) : RR (((w.setCell ⟨b, i * 3, none⟩ (.bool x.is)).setCell ⟨b, i * 3 + 1, none⟩ (.int .i64 x.p)).setCell ⟨b, i * 3 + 2, none⟩ (.bool x.m)) r b D (T.set i x) := by
  have hl := h.len
  have hD := h.le
  have ha := h.apart
  refine ⟨h.le, by simpa using hl, ((h.blk.far ha _).far ha _).far ha _, ?_⟩
  have h4 := ((h.row.set (i * 3) (.bool x.is)).set (i * 3 + 1) (.int .i64 x.p)).set (i * 3 + 2) (.bool x.m)
  rw [ros_set x _ i (by simp; omega), ← List.take_set] at h4
  exact h4
theorem RR.mask (h : RR w r b D T) (i : Nat) (hi : i < D * 8) (m : Bool) : RR (w.setCell ⟨b, i * 3 + 2, none⟩ (.bool m)) r b D (T.set i { T.getD i ro0 with m := m }) := by
  have hl := h.len
  have hD := h.le
  have ha := h.apart
  refine ⟨h.le, by simpa using hl, h.blk.far ha _, ?_⟩
  have h4 := h.row.set (i * 3 + 2) (.bool m)
  have e : (T.take (D * 8)).getD i ro0 = T.getD i ro0 := by simp only [List.getD_eq_getElem?_getD]; rw [List.getElem?_take_of_lt hi]
  rw [ros_mask m _ i (by simp; omega), ← List.take_set, e] at h4
  exact h4
theorem RR.ix (h : RR w r b D T) {d v : Int} (hc : inR D d v = true) : ixR d v < D * 8 := by
  obtain ⟨i, j, rfl, rfl, hi, hj⟩ := (inR_iff D d v).1 hc
  simp only [ixR, Int.toNat_natCast]; omega
end

theorem dmthere_any (r b D : Nat) (T : List Ro) (d v : Int) (w : World) (h : RR w r b D T) :
    Calls Try.prog 66 #[.pointer (some ⟨r, 0, none⟩), .int .i64 d, .int .i64 v] w fun e w' => e = .returned (.bool (inR D d v)) ∧ w = w' := by
  have hc := h.cell0
  clear h
  by_cases h0 : 0 ≤ d
  · by_cases h1 : d < (D : Int)
    · by_cases h2 : 0 ≤ v
      · by_cases h3 : v < 8
        · have HB := Lib.hid (show inR D d v = true by simp only [inR, decide_eq_true_eq]; omega)
          go_enter Try.func66, Try.ntmps66
          go_wp2
          go_ret
          exact ⟨by rw [HB.out]; rfl, rfl⟩
        · have HB := Lib.hid (show inR D d v = false by simp only [inR, decide_eq_false_iff_not]; omega)
          have h4 : decide (v < 8) = false := by simp; omega
          clear h3
          go_enter Try.func66, Try.ntmps66
          go_wp2
          go_ret
          exact ⟨by rw [HB.out]; rfl, rfl⟩
      · have HB := Lib.hid (show inR D d v = false by simp only [inR, decide_eq_false_iff_not]; omega)
        go_enter Try.func66, Try.ntmps66
        go_wp2
        go_ret
        exact ⟨by rw [HB.out]; rfl, rfl⟩
    · have HB := Lib.hid (show inR D d v = false by simp only [inR, decide_eq_false_iff_not]; omega)
      go_enter Try.func66, Try.ntmps66
      go_wp2
      go_ret
      exact ⟨by rw [HB.out]; rfl, rfl⟩
  · have HB := Lib.hid (show inR D d v = false by simp only [inR, decide_eq_false_iff_not]; omega)
    go_enter Try.func66, Try.ntmps66
    go_wp2
    go_ret
    exact ⟨by rw [HB.out]; rfl, rfl⟩

/-- The way to an entry. -/
theorem RR.way {w : World} {r b D : Nat} {T : List Ro} (h : RR w r b D T) {d v : Int} (hc : inR D d v = true) : ∃ i j : Nat, d = i ∧ v = j ∧ (i : Int) < D ∧ (j : Int) < 8 ∧ i * 8 + j < D * 8 ∧ ixR d v = i * 8 + j := by
  obtain ⟨i, j, rfl, rfl, hi, hj⟩ := (inR_iff D d v).1 hc
  exact ⟨i, j, rfl, rfl, by omega, by omega, by omega, by simp [ixR]⟩

theorem dmentry_any (r b D : Nat) (T : List Ro) (d v : Int) (w : World) (h : RR w r b D T) :
    Calls Try.prog 67 #[.pointer (some ⟨r, 0, none⟩), .int .i64 d, .int .i64 v] w fun e w' => e = .returned (.int .i64 (reC D T d v)) ∧ w = w' := by
  have H := Lib.hid h
  have hD := h.le
  rcases reC_cases D T d v with ⟨h1, h2⟩ | ⟨h1, h3, h2⟩ | ⟨h1, h3, h2⟩
  · have HB := Lib.hid h1; have HC := Lib.hid h2; clear h1 h2 h
    go_enter Try.func67, Try.ntmps67
    go_wp2_with fail
    refine (dmthere_any r b D T d v _ H.out).mono ?_
    rintro e w' ⟨rfl, rfl⟩
    rw [HB.out]
    go_wp2_with fail
    go_ret
    exact ⟨by rw [HC.out]; rfl, rfl⟩
  · obtain ⟨i, j, rfl, rfl, hi, hj, hij, hix⟩ := h.way h1
    have c0 := (h.at_ _ hij).1
    have hc := h.cell0
    rw [show T.getD (i * 8 + j) ro0 = atR T i j by unfold atR; rw [hix], h3, show (i * 8 + j) * 3 = i * 24 + j * 3 by omega] at c0
    have HB := Lib.hid h1; have HC := Lib.hid h2; clear h1 h2 h h3 hix
    go_enter Try.func67, Try.ntmps67
    go_wp2_with fail
    refine (dmthere_any r b D T _ _ _ H.out).mono ?_
    rintro e w' ⟨rfl, rfl⟩
    rw [HB.out]
    go_wp2_with fail
    go_ret
    exact ⟨by rw [HC.out]; rfl, rfl⟩
  · obtain ⟨i, j, rfl, rfl, hi, hj, hij, hix⟩ := h.way h1
    have c0 := (h.at_ _ hij).1
    have hc := h.cell0
    rw [show T.getD (i * 8 + j) ro0 = atR T i j by unfold atR; rw [hix], h3, show (i * 8 + j) * 3 = i * 24 + j * 3 by omega] at c0
    have HB := Lib.hid h1; have HC := Lib.hid h2; clear h1 h2 h h3 hix
    go_enter Try.func67, Try.ntmps67
    go_wp2_with fail
    refine (dmthere_any r b D T _ _ _ H.out).mono ?_
    rintro e w' ⟨rfl, rfl⟩
    rw [HB.out]
    go_wp2_with fail
    go_ret
    exact ⟨by rw [HC.out]; rfl, rfl⟩

end Go.Proofs.Ytjmdgjpepogogaa
