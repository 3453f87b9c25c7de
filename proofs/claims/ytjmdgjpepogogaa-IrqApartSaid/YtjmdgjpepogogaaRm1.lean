/-
  Contracts of package remap: New, hasDevice, hasVector, find, Set, Unset, Mask, Look, Clear.
-/
import Derived.Test.YtjmdgjpepogogaaRm0
import Derived.Test.YtjmdgjpepogogaaPlain2
import Derived.Test.YtjmdgjpepogogaaChecked
namespace Go.Proofs.Ytjmdgjpepogogaa
open Go.RowKit
set_option linter.unusedVariables false
set_option maxRecDepth 100000

/-- The program's table: at block g, D how many devices, T the entries of all devices there may be. -/
def PR (w : World) (g : Nat) (D : Nat) (T : List Ro) : Prop :=
  D ≤ 4 ∧ T.length = 32 ∧ Blk w g 89 (.int .i64 D :: ros T)

section
variable {w w' : World} {g D : Nat} {T : List Ro}
theorem PR.lt (h : PR w g D T) : g < w.heap.size := h.2.2.lt
theorem PR.le (h : PR w g D T) : D ≤ 4 := h.1
theorem PR.len (h : PR w g D T) : T.length = 32 := h.2.1
theorem PR.size (h : PR w g D T) : w.cell? ⟨g, 0, none⟩ = some (.int .i64 D) := by rw [h.2.2.cell]; rfl
theorem PR.frozen (h : PR w g D T) (i : Nat) : w.frozen? ⟨g, i, none⟩ = false := h.2.2.frozen i
theorem PR.drewN (h : PR w g D T) (n : Nat) : PR (w.drewN n) g D T := h
theorem PR.alloc (h : PR w g D T) (o : Obj) : PR (w.alloc o) g D T := ⟨h.1, h.2.1, h.2.2.alloc o⟩
theorem PR.below {B : Nat} (h : PR w g D T) (hb : Below B w w') (hg : g < B) : PR w' g D T := ⟨h.1, h.2.1, h.2.2.below hb hg⟩
theorem PR.grown {row : Option Nat} (h : PR w g D T) (hb : w.grownBy w' row) (hg : some g ≠ row) : PR w' g D T := ⟨h.1, h.2.1, h.2.2.grown hb hg⟩
theorem PR.far (h : PR w g D T) {p : Addr} (hp : g ≠ p.block) (u : Value) : PR (w.setCell p u) g D T := ⟨h.1, h.2.1, h.2.2.far hp u⟩
theorem PR.apart {a : Nat} {t : TypeId} {cs : List Value} (h : PR w g D T) (ha : Blk w a t cs) (ht : 89 ≠ t) : g ≠ a := h.2.2.apart ha ht
/-- An entry's cells. -/
theorem PR.at_ (h : PR w g D T) (i : Nat) (hi : i < 32) : w.cell? ⟨g, 1 + i * 3, none⟩ = some (.bool (T.getD i ro0).is) ∧ w.cell? ⟨g, 1 + i * 3 + 1, none⟩ = some (.int .i64 (T.getD i ro0).p) ∧ w.cell? ⟨g, 1 + i * 3 + 2, none⟩ = some (.bool (T.getD i ro0).m) := by
  obtain ⟨h1, h2, hb⟩ := h
  have hg := ros_get T i (by omega)
  refine ⟨?_, ?_, ?_⟩ <;> rw [hb.cell]
  · rw [show 1 + i * 3 = i * 3 + 1 by omega, List.getElem?_cons_succ]; exact hg.1
  · rw [show 1 + i * 3 + 1 = i * 3 + 1 + 1 by omega, List.getElem?_cons_succ]; exact hg.2.1
  · rw [show 1 + i * 3 + 2 = i * 3 + 2 + 1 by omega, List.getElem?_cons_succ]; exact hg.2.2
/-- An entry written. -/
theorem PR.set (h : PR w g D T) (i : Nat) (hi : i < 32) (x : Ro) : PR (((w.setCell ⟨g, 1 + i * 3, none⟩ (.bool x.is)).setCell ⟨g, 1 + i * 3 + 1, none⟩ (.int .i64 x.p)).setCell ⟨g, 1 + i * 3 + 2, none⟩ (.bool x.m)) g D (T.set i x) := by
  obtain ⟨h1, h2, hb⟩ := h
  refine ⟨h1, by simpa using h2, ?_⟩
  have h4 := ((hb.set (1 + i * 3) (.bool x.is)).set (1 + i * 3 + 1) (.int .i64 x.p)).set (1 + i * 3 + 2) (.bool x.m)
  rw [← ros_set x T i (by omega)]
  rw [show 1 + i * 3 + 2 = i * 3 + 2 + 1 by omega, show 1 + i * 3 + 1 = i * 3 + 1 + 1 by omega, show 1 + i * 3 = i * 3 + 1 by omega] at h4 ⊢
  simpa only [List.set_cons_succ] using h4
theorem PR.mask (h : PR w g D T) (i : Nat) (hi : i < 32) (m : Bool) : PR (w.setCell ⟨g, 1 + i * 3 + 2, none⟩ (.bool m)) g D (T.set i { T.getD i ro0 with m := m }) := by
  obtain ⟨h1, h2, hb⟩ := h
  refine ⟨h1, by simpa using h2, ?_⟩
  have h4 := hb.set (1 + i * 3 + 2) (.bool m)
  rw [← ros_mask m T i (by omega)]
  rw [show 1 + i * 3 + 2 = i * 3 + 2 + 1 by omega] at h4 ⊢
  simpa only [List.set_cons_succ] using h4
end
theorem set3_grown (w : World) (g : Nat) (a b c : Addr) (ha : a.block = g) (hb : b.block = g) (hc : c.block = g) (x y z : Value) : w.grownBy (((w.setCell a x).setCell b y).setCell c z) (some g) :=
  gset (gset (gset (grefl w _) (.inl ha) x) (.inl hb) y) (.inl hc) z

theorem pmdev_any (g D : Nat) (T : List Ro) (d : Int) (w : World) (h : PR w g D T) :
    Calls Try.prog 64 #[.pointer (some ⟨g, 0, none⟩), .int .i64 d] w fun e w' => e = .returned (.bool (rcB D d)) ∧ w = w' := by
  have hc := h.size
  have HB := Lib.hid (show rcB D d = decide (0 ≤ d ∧ d < (D : Int)) from rfl)
  clear h
  by_cases h0 : 0 ≤ d
  · by_cases h1 : d < (D : Int)
    · go_enter Try.func64, Try.ntmps64
      go_wp2
      go_ret
      exact ⟨by rw [HB.out, decide_eq_true (show 0 ≤ d ∧ d < (D : Int) from ⟨h0, h1⟩)]; rfl, rfl⟩
    · go_enter Try.func64, Try.ntmps64
      go_wp2
      go_ret
      exact ⟨by rw [HB.out, decide_eq_false (show ¬ (0 ≤ d ∧ d < (D : Int)) by omega)]; rfl, rfl⟩
  · go_enter Try.func64, Try.ntmps64
    go_wp2
    go_ret
    exact ⟨by rw [HB.out, decide_eq_false (show ¬ (0 ≤ d ∧ d < (D : Int)) by omega)]; rfl, rfl⟩

theorem pmvec_any (g D : Nat) (T : List Ro) (d v : Int) (w : World) (h : PR w g D T) :
    Calls Try.prog 60 #[.pointer (some ⟨g, 0, none⟩), .int .i64 d, .int .i64 v] w fun e w' => e = .returned (.bool (inR D d v)) ∧ w = w' := by
  have H := Lib.hid h; clear h
  cases hd : rcB D d with
  | false =>
    have HB := Lib.hid (show inR D d v = false by simp only [rcB, decide_eq_false_iff_not] at hd; simp only [inR, decide_eq_false_iff_not]; omega)
    have HD := Lib.hid hd; clear hd
    go_enter Try.func60, Try.ntmps60
    go_wp2_with fail
    refine (pmdev_any g D T d _ H.out).mono ?_
    rintro e w' ⟨rfl, rfl⟩
    rw [HD.out]
    go_wp2_with fail
    go_ret
    exact ⟨by rw [HB.out]; rfl, rfl⟩
  | true =>
    by_cases h0 : 0 ≤ v
    · by_cases h1 : v < 8
      · have HB := Lib.hid (show inR D d v = true by simp only [rcB, decide_eq_true_eq] at hd; simp only [inR, decide_eq_true_eq]; omega)
        have HD := Lib.hid hd; clear hd
        go_enter Try.func60, Try.ntmps60
        go_wp2_with fail
        refine (pmdev_any g D T d _ H.out).mono ?_
        rintro e w' ⟨rfl, rfl⟩
        rw [HD.out]
        go_wp2_with fail
        go_ret
        exact ⟨by rw [HB.out]; rfl, rfl⟩
      · have HB := Lib.hid (show inR D d v = false by simp only [inR, decide_eq_false_iff_not]; omega)
        have h2 : decide (v < 8) = false := by simp; omega
        have HD := Lib.hid hd; clear hd h1
        go_enter Try.func60, Try.ntmps60
        go_wp2_with fail
        refine (pmdev_any g D T d _ H.out).mono ?_
        rintro e w' ⟨rfl, rfl⟩
        rw [HD.out]
        go_wp2_with fail
        go_ret
        exact ⟨by rw [HB.out]; rfl, rfl⟩
    · have HB := Lib.hid (show inR D d v = false by simp only [inR, decide_eq_false_iff_not]; omega)
      have HD := Lib.hid hd; clear hd
      go_enter Try.func60, Try.ntmps60
      go_wp2_with fail
      refine (pmdev_any g D T d _ H.out).mono ?_
      rintro e w' ⟨rfl, rfl⟩
      rw [HD.out]
      go_wp2_with fail
      go_ret
      exact ⟨by rw [HB.out]; rfl, rfl⟩

/-- Where find points. -/
def fdP (g D : Nat) (T : List Ro) (d v : Int) : Value := .pointer (if reC D T d v = 0 then some ⟨g, 1 + ixR d v * 3, none⟩ else none)

theorem pmfind_any (g D : Nat) (T : List Ro) (d v : Int) (w : World) (h : PR w g D T) :
    Calls Try.prog 58 #[.pointer (some ⟨g, 0, none⟩), .int .i64 d, .int .i64 v] w fun e w' => e = .returned (.tuple #[fdP g D T d v, .int .i64 (reC D T d v)]) ∧ w = w' := by
  have H := Lib.hid h
  rcases reC_cases D T d v with ⟨h1, h2⟩ | ⟨h1, h3, h2⟩ | ⟨h1, h3, h2⟩
  · have HP := Lib.hid (show fdP g D T d v = .pointer none by simp [fdP, h2])
    have HB := Lib.hid h1; have HC := Lib.hid h2; clear h1 h2 h
    go_enter Try.func58, Try.ntmps58
    go_wp2_with fail
    refine (pmvec_any g D T d v _ H.out).mono ?_
    rintro e w' ⟨rfl, rfl⟩
    rw [HB.out]
    go_wp2_with fail
    go_ret2
    exact ⟨by rw [HP.out, HC.out]; rfl, rfl⟩
  · have HP := Lib.hid (show fdP g D T d v = .pointer none by simp [fdP, h2])
    obtain ⟨i, j, rfl, rfl, hi, hj⟩ := (inR_iff D d v).1 h1
    have hD := h.le
    have hc := (h.at_ (i * 8 + j) (by omega)).1
    rw [show T.getD (i * 8 + j) ro0 = atR T i j from rfl, h3, show 1 + (i * 8 + j) * 3 = 1 + i * 24 + j * 3 by omega] at hc
    have hi4 : (i : Int) < 4 := by omega
    have hj8 : (j : Int) < 8 := by omega
    have HB := Lib.hid h1; have HC := Lib.hid h2; clear h1 h2 h h3
    go_enter Try.func58, Try.ntmps58
    go_wp2_with fail
    refine (pmvec_any g D T _ _ _ H.out).mono ?_
    rintro e w' ⟨rfl, rfl⟩
    rw [HB.out]
    go_wp2_with fail
    go_ret2
    exact ⟨by rw [HP.out, HC.out]; rfl, rfl⟩
  · have HP := Lib.hid (show fdP g D T d v = .pointer (some ⟨g, 1 + ixR d v * 3, none⟩) by simp [fdP, h2])
    obtain ⟨i, j, rfl, rfl, hi, hj⟩ := (inR_iff D d v).1 h1
    have hD := h.le
    have hc := (h.at_ (i * 8 + j) (by omega)).1
    rw [show T.getD (i * 8 + j) ro0 = atR T i j from rfl, h3, show 1 + (i * 8 + j) * 3 = 1 + i * 24 + j * 3 by omega] at hc
    have hi4 : (i : Int) < 4 := by omega
    have hj8 : (j : Int) < 8 := by omega
    have HB := Lib.hid h1; have HC := Lib.hid h2; clear h1 h2 h h3
    go_enter Try.func58, Try.ntmps58
    go_wp2_with fail
    refine (pmvec_any g D T _ _ _ H.out).mono ?_
    rintro e w' ⟨rfl, rfl⟩
    rw [HB.out]
    go_wp2_with fail
    go_ret2
    exact ⟨by rw [HP.out, HC.out]; unfold ixR; rw [Int.toNat_natCast, Int.toNat_natCast, show 1 + (i * 8 + j) * 3 = 1 + i * 24 + j * 3 by omega]; rfl, rfl⟩

theorem pmset_no (g D : Nat) (T : List Ro) (d v p : Int) (w : World) (h : PR w g D T) (hb : rsB D d v p = false) :
    Calls Try.prog 38 #[.pointer (some ⟨g, 0, none⟩), .int .i64 d, .int .i64 v, .int .i64 p] w fun e w' => e = .returned (.int .i64 1100) ∧ w = w' := by
  have H := Lib.hid h; clear h
  simp only [rsB, Bool.and_eq_false_iff, decide_eq_false_iff_not] at hb
  cases h1 : inR D d v with
  | false =>
    have HB := Lib.hid h1; clear h1 hb
    go_enter Try.func38, Try.ntmps38
    go_wp2_with fail
    refine (pmvec_any g D T d v _ H.out).mono ?_
    rintro e w' ⟨rfl, rfl⟩
    rw [HB.out]
    go_wp2_with fail
    go_ret
    exact ⟨rfl, rfl⟩
  | true =>
    have hp : p < 0 ∨ 4 ≤ p := by rcases hb with hb | hb; · rw [h1] at hb; cases hb
                                  · omega
    have HB := Lib.hid h1; clear h1 hb
    rcases hp with hp | hp
    · go_enter Try.func38, Try.ntmps38
      go_wp2_with fail
      refine (pmvec_any g D T d v _ H.out).mono ?_
      rintro e w' ⟨rfl, rfl⟩
      rw [HB.out]
      go_wp2_with fail
      go_ret
      exact ⟨rfl, rfl⟩
    · have hp0 : decide (p < 0) = false := by simp; omega
      go_enter Try.func38, Try.ntmps38
      go_wp2_with fail
      refine (pmvec_any g D T d v _ H.out).mono ?_
      rintro e w' ⟨rfl, rfl⟩
      rw [HB.out]
      go_wp2_with fail
      go_ret
      exact ⟨rfl, rfl⟩

theorem pmset_yes (g D : Nat) (T : List Ro) (d v p : Int) (w : World) (h : PR w g D T) (hb : rsB D d v p = true) :
    Calls Try.prog 38 #[.pointer (some ⟨g, 0, none⟩), .int .i64 d, .int .i64 v, .int .i64 p] w fun e w' => e = .returned (.int .i64 0) ∧ PR w' g D (T.set (ixR d v) ⟨true, p, false⟩) ∧ w.grownBy w' (some g) := by
  simp only [rsB, Bool.and_eq_true, decide_eq_true_eq] at hb
  obtain ⟨h1, hp0, hp1⟩ := hb
  have hD := h.le
  have H := Lib.hid h
  obtain ⟨i, j, rfl, rfl, hi, hj⟩ := (inR_iff D d v).1 h1
  have hs := h.set (i * 8 + j) (by omega) ⟨true, p, false⟩
  obtain ⟨c0, c1, c2⟩ := h.at_ (i * 8 + j) (by omega)
  have hg := set3_grown w g ⟨g, 1 + i * 24 + j * 3, none⟩ ⟨g, 1 + i * 24 + j * 3 + 1, none⟩ ⟨g, 1 + i * 24 + j * 3 + 2, none⟩ rfl rfl rfl (.bool true) (.int .i64 p) (.bool false)
  rw [show 1 + (i * 8 + j) * 3 = 1 + i * 24 + j * 3 by omega] at hs c0 c1 c2
  have f0 := h.frozen (1 + i * 24 + j * 3)
  have f1 := h.frozen (1 + i * 24 + j * 3 + 1)
  have f2 := h.frozen (1 + i * 24 + j * 3 + 2)
  have hi4 : (i : Int) < 4 := by omega
  have hj8 : (j : Int) < 8 := by omega
  have HB := Lib.hid h1; have HS := Lib.hid hs; have HG := Lib.hid hg; clear h1 h hs hg
  go_enter Try.func38, Try.ntmps38
  go_wp2_with fail
  refine (pmvec_any g D T _ _ _ H.out).mono ?_
  rintro e w' ⟨rfl, rfl⟩
  rw [HB.out]
  go_wp2_with fail
  go_ret
  exact ⟨rfl, by unfold ixR; rw [Int.toNat_natCast, Int.toNat_natCast]; exact HS.out, HG.out⟩

theorem pmset_any (g D : Nat) (T : List Ro) (d v p : Int) (w : World) (h : PR w g D T) :
    Calls Try.prog 38 #[.pointer (some ⟨g, 0, none⟩), .int .i64 d, .int .i64 v, .int .i64 p] w fun e w' => e = .returned (.int .i64 (rsC D d v p)) ∧ PR w' g D (rsT D T d v p) ∧ w.grownBy w' (some g) := by
  cases hb : rsB D d v p with
  | true =>
    have := pmset_yes g D T d v p w h hb
    simpa [rsC, rsT, hb] using this
  | false =>
    refine (pmset_no g D T d v p w h hb).mono ?_
    rintro e w' ⟨rfl, rfl⟩
    exact ⟨by simp [rsC, hb], by simpa [rsT, hb] using h, grefl _ _⟩

end Go.Proofs.Ytjmdgjpepogogaa
