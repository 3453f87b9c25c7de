/-
  The contract of the document's Word.
-/
import Derived.Test.YtfddmfdfimaddaaPhysR
namespace Go.Proofs.Ytfddmfdfimaddaa
open Go.RowKit
set_option linter.unusedVariables false

theorem or4 (y0 y1 y2 y3 : UInt8) : bits BinOp.or IntKind.i64 (bits BinOp.or IntKind.i64 (bits BinOp.or IntKind.i64 (wrap64 (y0.toNat : Int)) (wrap64 (wrap64 (y1.toNat : Int) * 256))) (wrap64 (wrap64 (y2.toNat : Int) * 65536))) (wrap64 (wrap64 (y3.toNat : Int) * 16777216)) = num4 [y0, y1, y2, y3] := by
  have h0 : wrap64 (y0.toNat : Int) = numTo [y0, y1, y2, y3] 1 := by
    have := y0.toNat_lt
    simp [numTo, wrap64]
    omega
  have h1 := or_step [y0, y1, y2, y3] 1 (by omega) _ rfl
  have h2 := or_step [y0, y1, y2, y3] 2 (by omega) _ rfl
  have h3 := or_step [y0, y1, y2, y3] 3 (by omega) _ rfl
  rw [num4_to, h0]
  have e1 : (2 : Int) ^ (8 * 1) = 256 := by decide
  have e2 : (2 : Int) ^ (8 * 2) = 65536 := by decide
  have e3 : (2 : Int) ^ (8 * 3) = 16777216 := by decide
  rw [e1] at h1; rw [e2] at h2; rw [e3] at h3
  simp only [List.getD_cons_zero, List.getD_cons_succ] at h1 h2 h3
  rw [h1, h2, h3]

theorem take4 (l : List UInt8) (a : Nat) (h : a + 4 ≤ l.length) : (l.drop a).take 4 = [l.getD a 0, l.getD (a + 1) 0, l.getD (a + 2) 0, l.getD (a + 3) 0] := by
  have g : ∀ k (hk : k < l.length), l.getD k 0 = l[k] := by intro k hk; simp [List.getD, List.getElem?_eq_getElem hk]
  rw [g a (by omega), g (a + 1) (by omega), g (a + 2) (by omega), g (a + 3) (by omega)]
  rw [List.drop_eq_getElem_cons (by omega), List.drop_eq_getElem_cons (by omega), List.drop_eq_getElem_cons (by omega), List.drop_eq_getElem_cons (by omega)]
  rfl

theorem rword_any (r b : Nat) (l : List UInt8) (a : Int) (w : World) (h : RM w r b l) :
    Calls Try.prog 30 #[.pointer (some ⟨r, 0, none⟩), .int .i64 a] w fun e w' => e = .returned (.tuple #[.int .i64 (wdN l a), .int .i64 (errC (wdB l.length a))]) ∧ ∃ n, w.drewN n = w' := by
  have hl : l.length ≤ 4096 := h.1
  have hc := h.row
  by_cases hp : wdB l.length a = true
  · have HC : Hid (errC (wdB l.length a) = 0) := Lib.hid (by rw [hp]; rfl)
    have HL : Hid (wdN l a = num4 ((l.drop a.toNat).take 4)) := Lib.hid (by unfold wdN; rw [hp]; rfl)
    simp only [wdB, decide_eq_true_eq] at hp
    obtain ⟨h0, h4, ha⟩ := hp
    have HB : Hid (mayB a 4 l.length = true) := Lib.hid (decide_eq_true (by omega))
    obtain ⟨a, rfl⟩ := Int.eq_ofNat_of_zero_le h0
    rw [Int.toNat_natCast] at HL
    have hal : a + 4 ≤ l.length := by omega
    have hx4 : ((a : Int) % 4 != 0) = false := by simp [h4]
    clear h4
    have c0 := h.at_ (k := a) (by omega)
    have c1 := h.at_ (k := a + 1) (by omega)
    have c2 := h.at_ (k := a + 2) (by omega)
    have c3 := h.at_ (k := a + 3) (by omega)
    have h4 := take4 l a hal
    generalize l.getD a 0 = y0 at c0 h4
    generalize l.getD (a + 1) 0 = y1 at c1 h4
    generalize l.getD (a + 2) 0 = y2 at c2 h4
    generalize l.getD (a + 3) 0 = y3 at c3 h4
    have H4 := Lib.hid h4; clear h4
    have i1 : (a : Int) + 1 < l.length := by omega
    have i2 : (a : Int) + 2 < l.length := by omega
    have i3 : (a : Int) + 3 < l.length := by omega
    have i0 : (a : Int) < l.length := by omega
    have j1 : 0 ≤ (a : Int) + 1 := by omega
    have j2 : 0 ≤ (a : Int) + 2 := by omega
    have j3 : 0 ≤ (a : Int) + 3 := by omega
    go_enter Try.func30, Try.ntmps30
    go_wp2_with fail
    refine (rmay_any _ _ _ _ (by omega)).mono ?_
    rintro e w' ⟨rfl, rfl⟩
    rw [HB.out]
    go_wp2_with fail
    have n1 : IntKind.i64.wrap ((a : Int) + 1) = (a : Int) + 1 := IntWalk.i64_in _ (by omega)
    have n2 : IntKind.i64.wrap ((a : Int) + 2) = (a : Int) + 2 := IntWalk.i64_in _ (by omega)
    have n3 : IntKind.i64.wrap ((a : Int) + 3) = (a : Int) + 3 := IntWalk.i64_in _ (by omega)
    have m1 : ((a : Int) + 1).toNat = a + 1 := by omega
    have m2 : ((a : Int) + 2).toNat = a + 2 := by omega
    have m3 : ((a : Int) + 3).toNat = a + 3 := by omega
    go_quiet (fail)
    clear n1 n2 n3 m1 m2 m3
    go_wp2_with fail
    go_ret2
    exact ⟨by rw [HL.out, HC.out, H4.out, ← or4]; rfl, _, rfl⟩
  · have hb : wdB l.length a = false := by simpa using hp
    have HC : Hid (errC (wdB l.length a) = 300) := Lib.hid (by rw [hb]; rfl)
    have HL : Hid (wdN l a = 0) := Lib.hid (by unfold wdN; rw [hb]; rfl)
    simp only [wdB, decide_eq_true_eq] at hp
    by_cases h0 : a < 0
    · clear hb h hp
      go_enter Try.func30, Try.ntmps30
      go_wp2_with fail
      go_ret2
      exact ⟨by rw [HL.out, HC.out]; rfl, 0, rfl⟩
    · have h0' : 0 ≤ a := by omega
      by_cases h4 : a % 4 = 0
      · have hx4 : (a % 4 != 0) = false := by simp [h4]
        have HB : Hid (mayB a 4 l.length = false) := Lib.hid (decide_eq_false (by omega))
        clear hb h h4 hp
        go_enter Try.func30, Try.ntmps30
        go_wp2_with fail
        refine (rmay_any _ _ _ _ (by omega)).mono ?_
        rintro e w' ⟨rfl, rfl⟩
        rw [HB.out]
        go_wp2_with fail
        go_ret2
        exact ⟨by rw [HL.out, HC.out]; rfl, 0, rfl⟩
      · have hx4 : (a % 4 != 0) = true := by simpa using h4
        clear hb h h4 hp
        go_enter Try.func30, Try.ntmps30
        go_wp2_with fail
        go_ret2
        exact ⟨by rw [HL.out, HC.out]; rfl, 0, rfl⟩

end Go.Proofs.Ytfddmfdfimaddaa
