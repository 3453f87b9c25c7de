/-
  Contracts of package frames: has, isOwner, Set, Of, All, New.
-/
import Derived.Test.YtamhnnkmjhapmaaOwn0
namespace Go.Proofs.Ytamhnnkmjhapmaa
open Go.RowKit
set_option linter.unusedVariables false
set_option maxRecDepth 100000

theorem has_any (g : Nat) (l : List Int) (f : Int) (w : World) (h : Tab w g l) :
    Calls Try.prog 85 #[.pointer (some ⟨g, 0, none⟩), .int .i64 f] w fun e w' => e = .returned (.bool (ofB l.length f)) ∧ w = w' := by
  have hc := h.count
  have hl : l.length ≤ 64 := h.1
  have H := Lib.hid h; clear h
  by_cases h0 : 0 ≤ f
  · by_cases h1 : f < (l.length : Int)
    · have HB := Lib.hid (show ofB l.length f = true from decide_eq_true ⟨h0, h1⟩)
      go_enter Try.func85, Try.ntmps85
      go_wp2
      go_ret
      exact ⟨by rw [HB.out]; rfl, rfl⟩
    · have HB := Lib.hid (show ofB l.length f = false from decide_eq_false (by omega))
      go_enter Try.func85, Try.ntmps85
      go_wp2
      go_ret
      exact ⟨by rw [HB.out]; rfl, rfl⟩
  · have HB := Lib.hid (show ofB l.length f = false from decide_eq_false (by omega))
    go_enter Try.func85, Try.ntmps85
    go_wp2
    go_ret
    exact ⟨by rw [HB.out]; rfl, rfl⟩

def isB (o : Int) : Bool := decide (-2 ≤ o ∧ o ≤ 3)
theorem is_any (o : Int) (w : World) :
    Calls Try.prog 97 #[.int .i64 o] w fun e w' => e = .returned (.bool (isB o)) ∧ w = w' := by
  by_cases hy : isB o = true
  · rw [hy]
    simp only [isB, decide_eq_true_eq] at hy
    obtain ⟨h1, h2⟩ := hy
    by_cases h3 : o = -1
    · subst h3
      go_enter Try.func97, Try.ntmps97
      go_wp2
      go_ret
      exact ⟨rfl, rfl⟩
    · by_cases h4 : o = -2
      · subst h4
        go_enter Try.func97, Try.ntmps97
        go_wp2
        go_ret
        exact ⟨rfl, rfl⟩
      · have h5 : 0 ≤ o := by omega
        have hd : decide (o < 4) = true := by simp; omega
        clear h1
        go_enter Try.func97, Try.ntmps97
        go_wp2
        go_ret
        exact ⟨rfl, rfl⟩
  · have hn : isB o = false := by simpa using hy
    rw [hn]
    simp only [isB, decide_eq_false_iff_not] at hn
    clear hy
    by_cases h0 : 0 ≤ o
    · have h1 : decide (o < 4) = false := by simp; omega
      clear hn
      go_enter Try.func97, Try.ntmps97
      go_wp2
      go_ret
      exact ⟨rfl, rfl⟩
    · have h1 : o ≤ -3 := by omega
      clear hn
      go_enter Try.func97, Try.ntmps97
      go_wp2
      go_ret
      exact ⟨rfl, rfl⟩

theorem pset_any (g : Nat) (l : List Int) (f o : Int) (w : World) (h : Tab w g l) :
    Calls Try.prog 93 #[.pointer (some ⟨g, 0, none⟩), .int .i64 f, .int .i64 o] w fun e w' => e = .returned (.int .i64 (setC l.length f o)) ∧ Tab w' g (setL l f o) ∧ w.grownBy w' (some g) := by
  have H := Lib.hid h
  by_cases hb : ofB l.length f = true
  · by_cases ho : isB o = true
    · have hs : setB l.length f o = true := by
        simp only [ofB, isB, setB, decide_eq_true_eq] at *; omega
      have HL := Lib.hid (show setL l f o = l.set f.toNat o by simp [setL, hs])
      have HC := Lib.hid (show setC l.length f o = 0 by simp [setC, hs])
      have h0 : 0 ≤ f ∧ f < l.length := by simpa [ofB] using hb
      have hl : l.length ≤ 64 := h.1
      obtain ⟨h0, h1⟩ := h0
      obtain ⟨k, rfl⟩ := Int.eq_ofNat_of_zero_le h0
      have hc := h.at_ (k := k) (by omega)
      have hf := h.frozen (1 + k)
      have HB := Lib.hid hb; have HO := Lib.hid ho; clear hb ho hs h
      go_enter Try.func93, Try.ntmps93
      go_wp2_with fail
      refine (has_any g l _ _ H.out).mono ?_
      rintro e w' ⟨rfl, rfl⟩
      rw [HB.out]
      go_wp2_with fail
      refine (is_any _ _).mono ?_
      rintro e w' ⟨rfl, rfl⟩
      rw [HO.out]
      go_wp2_with fail
      go_ret
      exact ⟨by rw [HC.out]; rfl, by rw [HL.out]; exact H.out.set (by omega) _, gone _⟩
    · have ho' : isB o = false := by simpa using ho
      have hs : setB l.length f o = false := by
        simp only [ofB, isB, setB, decide_eq_true_eq, decide_eq_false_iff_not] at *; omega
      have HL := Lib.hid (show setL l f o = l by simp [setL, hs])
      have HC := Lib.hid (show setC l.length f o = 200 by simp [setC, hs])
      have HB := Lib.hid hb; have HO := Lib.hid ho'; clear hb ho hs h ho'
      go_enter Try.func93, Try.ntmps93
      go_wp2_with fail
      refine (has_any g l _ _ H.out).mono ?_
      rintro e w' ⟨rfl, rfl⟩
      rw [HB.out]
      go_wp2_with fail
      refine (is_any _ _).mono ?_
      rintro e w' ⟨rfl, rfl⟩
      rw [HO.out]
      go_wp2_with fail
      go_ret
      exact ⟨by rw [HC.out]; rfl, by rw [HL.out]; exact H.out, grefl _ _⟩
  · have hb' : ofB l.length f = false := by simpa using hb
    have hs : setB l.length f o = false := by
      simp only [ofB, setB, decide_eq_true_eq, decide_eq_false_iff_not] at *; omega
    have HL := Lib.hid (show setL l f o = l by simp [setL, hs])
    have HC := Lib.hid (show setC l.length f o = 200 by simp [setC, hs])
    have HB := Lib.hid hb'; clear hb hs h hb'
    go_enter Try.func93, Try.ntmps93
    go_wp2_with fail
    refine (has_any g l _ _ H.out).mono ?_
    rintro e w' ⟨rfl, rfl⟩
    rw [HB.out]
    go_wp2_with fail
    go_ret
    exact ⟨by rw [HC.out]; rfl, by rw [HL.out]; exact H.out, grefl _ _⟩

theorem pof_any (g : Nat) (l : List Int) (f : Int) (w : World) (h : Tab w g l) :
    Calls Try.prog 68 #[.pointer (some ⟨g, 0, none⟩), .int .i64 f] w fun e w' => e = .returned (.tuple #[.int .i64 (ofN l f), .int .i64 (ofC l.length f)]) ∧ w = w' := by
  have H := Lib.hid h
  by_cases hb : ofB l.length f = true
  · have HN := Lib.hid (show ofN l f = l.getD f.toNat 0 by simp [ofN, hb])
    have HC := Lib.hid (show ofC l.length f = 0 by simp [ofC, hb])
    have h0 : 0 ≤ f ∧ f < l.length := by simpa [ofB] using hb
    have hl : l.length ≤ 64 := h.1
    obtain ⟨h0, h1⟩ := h0
    obtain ⟨k, rfl⟩ := Int.eq_ofNat_of_zero_le h0
    have hc := h.at_ (k := k) (by omega)
    simp only [Int.toNat_natCast] at HN
    generalize l.getD k 0 = q at hc HN
    have HB := Lib.hid hb; clear hb h
    go_enter Try.func68, Try.ntmps68
    go_wp2_with fail
    refine (has_any g l _ _ H.out).mono ?_
    rintro e w' ⟨rfl, rfl⟩
    rw [HB.out]
    go_wp2_with fail
    go_ret2
    exact ⟨by rw [HC.out, HN.out]; rfl, rfl⟩
  · have hb' : ofB l.length f = false := by simpa using hb
    have HN := Lib.hid (show ofN l f = 0 by simp [ofN, hb'])
    have HC := Lib.hid (show ofC l.length f = 200 by simp [ofC, hb'])
    have HB := Lib.hid hb'; clear hb h hb'
    go_enter Try.func68, Try.ntmps68
    go_wp2_with fail
    refine (has_any g l _ _ H.out).mono ?_
    rintro e w' ⟨rfl, rfl⟩
    rw [HB.out]
    go_wp2_with fail
    go_ret2
    exact ⟨by rw [HC.out, HN.out]; rfl, rfl⟩

end Go.Proofs.Ytamhnnkmjhapmaa
