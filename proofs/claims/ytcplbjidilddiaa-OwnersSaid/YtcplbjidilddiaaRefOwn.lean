/-
  Contracts of the document's table of owners: NewOwners, Set, Of, Row.
-/
import Derived.Test.YtcplbjidilddiaaFrames2
namespace Go.Proofs.Ytcplbjidilddiaa
open Go.RowKit
set_option linter.unusedVariables false

/-- The document's table: at block r the slice v, which holds l in a row not below B. -/
structure RTab (w : World) (B r : Nat) (v : Value) (l : List Int) : Prop where
  len : l.length ≤ 64
  blk : Blk w r 55 [v]
  own : w.ownsRow B 3 1 v l.length (ints l)

section
variable {w w' : World} {B r : Nat} {v : Value} {l : List Int}
theorem RTab.apart (h : RTab w B r v l) : some r ≠ v.ownBlock := fun e => own_apart_blk h.own h.blk (by decide) e.symm
theorem RTab.drewN (h : RTab w B r v l) (n : Nat) : RTab (w.drewN n) B r v l := ⟨h.len, h.blk, h.own⟩
theorem RTab.below (h : RTab w B r v l) (hb : Below w.heap.size w w') : RTab w' B r v l := ⟨h.len, h.blk.below hb h.blk.lt, own_below h.own hb⟩
theorem RTab.grown {row : Option Nat} (h : RTab w B r v l) (hb : w.grownBy w' row) (hr : some r ≠ row) (hv : v.ownBlock = none ∨ v.ownBlock ≠ row) : RTab w' B r v l := ⟨h.len, h.blk.grown hb hr, h.own.kept hb hv⟩
end

theorem rset_any (B r : Nat) (v : Value) (l : List Int) (f o : Int) (w : World) (h : RTab w B r v l) :
    Calls Try.prog 13 #[.pointer (some ⟨r, 0, none⟩), .int .i64 f, .int .i64 o] w fun e w' => e = .returned (.int .i64 (setC l.length f o)) ∧ RTab w' B r v (setL l f o) ∧ w.grownBy w' v.ownBlock := by
  have hl := h.len
  have hc : w.cell? ⟨r, 0, none⟩ = some v := by rw [h.blk.cell]; rfl
  obtain ⟨A, cap, hv, hcap, _, _⟩ := Sl.own h.own
  have H := Lib.hid h; clear h
  obtain ⟨n, hn⟩ : ∃ n, n = l.length := ⟨_, rfl⟩
  rw [← hn] at hl hv hcap
  by_cases h0 : 0 ≤ f
  · by_cases h1 : f < (n : Int)
    · by_cases h2 : -2 ≤ o
      · by_cases h3 : o ≤ 3
        · have hs : setB l.length f o = true := by rw [← hn]; exact decide_eq_true ⟨h0, h1, h2, h3⟩
          have HL := Lib.hid (show setL l f o = l.set f.toNat o by simp [setL, hs])
          have HC := Lib.hid (show setC l.length f o = 0 by simp [setC, hs])
          clear hs
          obtain ⟨k, rfl⟩ := Int.eq_ofNat_of_zero_le h0
          have hg : ∃ g, A = some ⟨g, 0, none⟩ := by
            rcases H.out.own.2 with ⟨e, e0⟩ | ⟨g, cap', cur, e, _⟩
            · rw [← hn] at e0; omega
            · rw [hv] at e; simp at e; exact ⟨g, e.1⟩
          obtain ⟨g, rfl⟩ := hg
          have ho := H.out.own
          rw [hv, ← hn] at ho
          have hcell := ho.cellAt k (by omega)
          rw [ints_get l k (by omega)] at hcell
          have hfz := ho.frozenAt k
          have HO := Lib.hid ho; clear ho
          have HN := Lib.hid hn; clear hn
          subst hv
          have hd3 : decide (4 ≤ o) = false := by simp; omega
          have hd1 : decide (n ≤ k) = false := by simp; omega
          generalize l.getD k 0 = q at hcell
          go_enter Try.func13, Try.ntmps13
          go_wp2
          go_ret
          have hst := HO.out.stored k (.int .i64 o)
          refine ⟨by rw [HC.out]; rfl, ?_, hst.2⟩
          rw [HL.out]
          refine ⟨by simpa [← HN.out] using hl, H.out.blk.far (fun e => H.out.apart (by rw [e]; rfl)) _, ?_⟩
          have e1 := hst.1
          rw [ints_set, HN.out] at e1
          simpa [HN.out] using e1
        · have hs : setB l.length f o = false := decide_eq_false (by omega)
          have HL := Lib.hid (show setL l f o = l by simp [setL, hs])
          have HC := Lib.hid (show setC l.length f o = 200 by simp [setC, hs])
          have HN := Lib.hid hn; clear hn hs
          subst hv
          have hd3 : decide (4 ≤ o) = true := by simp; omega
          obtain ⟨k, rfl⟩ := Int.eq_ofNat_of_zero_le h0
          have hd1 : decide (n ≤ k) = false := by simp; omega
          go_enter Try.func13, Try.ntmps13
          go_wp2
          go_ret
          exact ⟨by rw [HC.out]; rfl, by rw [HL.out]; exact H.out, grefl _ _⟩
      · have hs : setB l.length f o = false := decide_eq_false (by omega)
        have HL := Lib.hid (show setL l f o = l by simp [setL, hs])
        have HC := Lib.hid (show setC l.length f o = 200 by simp [setC, hs])
        have HN := Lib.hid hn; clear hn hs
        subst hv
        obtain ⟨k, rfl⟩ := Int.eq_ofNat_of_zero_le h0
        have hd1 : decide (n ≤ k) = false := by simp; omega
        go_enter Try.func13, Try.ntmps13
        go_wp2
        go_ret
        exact ⟨by rw [HC.out]; rfl, by rw [HL.out]; exact H.out, grefl _ _⟩
    · have hs : setB l.length f o = false := decide_eq_false (by omega)
      have HL := Lib.hid (show setL l f o = l by simp [setL, hs])
      have HC := Lib.hid (show setC l.length f o = 200 by simp [setC, hs])
      have HN := Lib.hid hn; clear hn hs
      subst hv
      obtain ⟨k, rfl⟩ := Int.eq_ofNat_of_zero_le h0
      have hd1 : decide (n ≤ k) = true := by simp; omega
      go_enter Try.func13, Try.ntmps13
      go_wp2
      go_ret
      exact ⟨by rw [HC.out]; rfl, by rw [HL.out]; exact H.out, grefl _ _⟩
  · have hs : setB l.length f o = false := decide_eq_false (by omega)
    have HL := Lib.hid (show setL l f o = l by simp [setL, hs])
    have HC := Lib.hid (show setC l.length f o = 200 by simp [setC, hs])
    have HN := Lib.hid hn; clear hn hs
    subst hv
    go_enter Try.func13, Try.ntmps13
    go_wp2
    go_ret
    exact ⟨by rw [HC.out]; rfl, by rw [HL.out]; exact H.out, grefl _ _⟩

theorem rof_any (B r : Nat) (v : Value) (l : List Int) (f : Int) (w : World) (h : RTab w B r v l) :
    Calls Try.prog 14 #[.pointer (some ⟨r, 0, none⟩), .int .i64 f] w fun e w' => e = .returned (.tuple #[.int .i64 (ofN l f), .int .i64 (ofC l.length f)]) ∧ w = w' := by
  have hl := h.len
  have hc : w.cell? ⟨r, 0, none⟩ = some v := by rw [h.blk.cell]; rfl
  obtain ⟨A, cap, hv, hcap, _, _⟩ := Sl.own h.own
  have H := Lib.hid h; clear h
  obtain ⟨n, hn⟩ : ∃ n, n = l.length := ⟨_, rfl⟩
  rw [← hn] at hl hv hcap
  by_cases h0 : 0 ≤ f
  · by_cases h1 : f < (n : Int)
    · have hb : ofB l.length f = true := by rw [← hn]; exact decide_eq_true ⟨h0, h1⟩
      have HX := Lib.hid (show ofN l f = l.getD f.toNat 0 by simp [ofN, hb])
      have HC := Lib.hid (show ofC l.length f = 0 by simp [ofC, hb])
      clear hb
      obtain ⟨k, rfl⟩ := Int.eq_ofNat_of_zero_le h0
      have hg : ∃ g, A = some ⟨g, 0, none⟩ := by
        rcases H.out.own.2 with ⟨e, e0⟩ | ⟨g, cap', cur, e, _⟩
        · rw [← hn] at e0; omega
        · rw [hv] at e; simp at e; exact ⟨g, e.1⟩
      obtain ⟨g, rfl⟩ := hg
      have ho := H.out.own
      rw [hv, ← hn] at ho
      have hcell := ho.cellAt k (by omega)
      rw [ints_get l k (by omega)] at hcell
      clear ho
      have HN := Lib.hid hn; clear hn
      subst hv
      have hd1 : decide (n ≤ k) = false := by simp; omega
      simp only [Int.toNat_natCast] at HX
      generalize l.getD k 0 = q at hcell HX
      go_enter Try.func14, Try.ntmps14
      go_wp2
      go_ret2
      exact ⟨by rw [HC.out, HX.out]; rfl, rfl⟩
    · have hb : ofB l.length f = false := decide_eq_false (by omega)
      have HX := Lib.hid (show ofN l f = 0 by simp [ofN, hb])
      have HC := Lib.hid (show ofC l.length f = 200 by simp [ofC, hb])
      have HN := Lib.hid hn; clear hn hb
      subst hv
      obtain ⟨k, rfl⟩ := Int.eq_ofNat_of_zero_le h0
      have hd1 : decide (n ≤ k) = true := by simp; omega
      go_enter Try.func14, Try.ntmps14
      go_wp2
      go_ret2
      exact ⟨by rw [HC.out, HX.out]; rfl, rfl⟩
  · have hb : ofB l.length f = false := decide_eq_false (by omega)
    have HX := Lib.hid (show ofN l f = 0 by simp [ofN, hb])
    have HC := Lib.hid (show ofC l.length f = 200 by simp [ofC, hb])
    have HN := Lib.hid hn; clear hn hb
    subst hv
    go_enter Try.func14, Try.ntmps14
    go_wp2
    go_ret2
    exact ⟨by rw [HC.out, HX.out]; rfl, rfl⟩

end Go.Proofs.Ytcplbjidilddiaa
