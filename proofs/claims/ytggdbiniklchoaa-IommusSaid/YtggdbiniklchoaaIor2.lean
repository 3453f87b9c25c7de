/-
  Contracts of the document's Iommu: leaf, walk.
-/
import Derived.Test.YtggdbiniklchoaaIor1
namespace Go.Proofs.Ytggdbiniklchoaa
open Go.RowKit
set_option linter.unusedVariables false
set_option maxRecDepth 100000

/-- What a look at a word leaves: the variables of its entry and of its test. -/
def Lks (w0 : World) (f q : Int) (u7 u8 : Value) (x8 : Value) (w : World) : Prop :=
  ∃ k, u7 = .pointer (some ⟨k, 0, none⟩) ∧ u8 = x8 ∧ w0.heap.size ≤ k ∧ Blk w k 46 (ints [f, q]) ∧ Below w0.heap.size w0 w
section
variable {w w3 : World} {f q : Int} {x8 : Value}
theorem lks_late (b3 : Below w.drew.heap.size w.drew w3) : Lks w f q (.pointer (some ⟨w3.heap.size, 0, none⟩)) x8 x8 (w3.alloc (.cells #[.int .i64 f, .int .i64 q] 46)) :=
  ⟨_, rfl, rfl, b3.size, Blk.new w3 _ (ints [f, q]), (Below.down (bdrewN (Below.refl _ _) 1) b3 (Nat.le_refl _)).alloc b3.size _⟩
theorem lks_early (b3 : Below (w.alloc (.cells #[.int .i64 0, .int .i64 0] 46)).drew.heap.size (w.alloc (.cells #[.int .i64 0, .int .i64 0] 46)).drew w3) : Lks w f q (.pointer (some ⟨w.heap.size, 0, none⟩)) x8 x8 ((w3.setCell ⟨w.heap.size, 0, none⟩ (.int .i64 f)).setCell ⟨w.heap.size, 1, none⟩ (.int .i64 q)) := by
  have hb0 : Blk (w.alloc (.cells #[.int .i64 0, .int .i64 0] 46)).drew w.heap.size 46 (ints [0, 0]) := (Blk.new w _ (ints [0, 0])).drewN 1
  have hb := hb0.below b3 hb0.lt
  have b1 : Below w.heap.size w (w.alloc (.cells #[.int .i64 0, .int .i64 0] 46)).drew := bdrewN ((Below.refl _ _).alloc (Nat.le_refl _) _) 1
  have b2 := Below.down b1 b3 b1.size
  exact ⟨_, rfl, rfl, Nat.le_refl _, (hb.setInt 0 f).setInt 1 q, (b2.setCell (p := ⟨w.heap.size, 0, none⟩) (Nat.le_refl _) _).setCell (p := ⟨w.heap.size, 1, none⟩) (Nat.le_refl _) _⟩
end

section
variable {B : Nat} {y r b : Nat} {v : Value} {ps : List (List Int)} {l : List UInt8}
set_option maxHeartbeats 8000000 in
theorem rleaf_any (d i : Int) (w : World) (h : Rx B w y r b v ps l) (h0 : 0 ≤ d) (h1 : d < ps.length) (hi0 : 0 ≤ i) (hi1 : i < 16) :
    Calls Try.prog 52 #[.pointer (some ⟨y, 0, none⟩), .int .i64 d, .int .i64 i] w fun e w' => e = .returned (.int .i64 (lfI l (ioRoot ps d) i)) ∧ Below w.heap.size w w' := by
  obtain ⟨_, hl, _, hr0, hr1⟩ := h.pool h0 h1
  obtain ⟨m, hm⟩ : ∃ m : Nat, l.length = 64 * m := ⟨l.length / 64, by have := h.rm.2.1.2; omega⟩
  have hfr : frs l = m := by unfold frs; omega
  rw [hfr] at hr1
  have hlf : (rO l (ioRoot ps d) i m = false ∧ lfI l (ioRoot ps d) i = -1) ∨ (rO l (ioRoot ps d) i m = true ∧ gP (sW l (ioRoot ps d) i) ≠ 3 ∧ lfI l (ioRoot ps d) i = -1) ∨ (rO l (ioRoot ps d) i m = true ∧ gP (sW l (ioRoot ps d) i) = 3 ∧ lfI l (ioRoot ps d) i = gF (sW l (ioRoot ps d) i)) := by
    unfold lfI
    rcases r_cases l (ioRoot ps d) i m hm with ⟨e, c, _, p⟩ | ⟨e, g, c, _, p⟩ | ⟨e, g, _, _, c, f, p⟩
    · exact .inl ⟨e, by rw [c]; rfl⟩
    · exact .inr (.inl ⟨e, by omega, by rw [c]; rfl⟩)
    · by_cases g3 : gP (sW l (ioRoot ps d) i) = 3
      · exact .inr (.inr ⟨e, g3, by rw [if_pos ⟨c, by rw [p, g3]⟩, f]⟩)
      · exact .inr (.inl ⟨e, g3, by rw [if_neg (fun q => g3 (by rw [← p]; exact q.2))]⟩)
  have KE := Lib.hid (fun W hW => rentry_any r b l m (ioRoot ps d) i W hW hm hr0 hr1 hi0 hi1)
  have n4 := h.n4
  obtain ⟨k, rfl⟩ := Int.eq_ofNat_of_zero_le h0
  have hkn : k < ps.length := by omega
  have hP : ps.getD k [] = ioPool ps ((k : Nat) : Int) := by unfold ioPool; rw [Int.toNat_natCast]
  obtain ⟨b0, cap, rfl, _, hbl, hp⟩ := h.pl.slice h.n1
  obtain ⟨qb, c, c2, _, hql, hlc, c3⟩ := hp k hkn (by rw [hP]; omega)
  have c4 := c3 0 (by rw [hP]; omega)
  rw [hP] at c2 c4 hlc
  have c4' : w.cell? ⟨qb, 0, none⟩ = some (.int .i64 (ioRoot ps ((k : Nat) : Int))) := c4
  obtain ⟨cy0, cy1⟩ := h.cells
  have hyl := h.sx.lt
  have hb1 := (Below.refl w.heap.size w).alloc (Nat.le_refl _) (.cells #[.int .i64 0, .int .i64 0] 46)
  have a1 := (hb1.cell (p := ⟨y, 0, none⟩) hyl).trans cy0
  have a2 := (hb1.cell (p := ⟨y, 1, none⟩) hyl).trans cy1
  have a3 := (hb1.cell (p := ⟨b0, k, none⟩) hbl).trans c2
  have a4 := (hb1.cell (p := ⟨qb, 0, none⟩) hql).trans c4'
  have hrm := h.rm
  have HRM := Lib.hid hrm
  generalize ioRoot ps ((k : Nat) : Int) = R at *
  generalize (ioPool ps ((k : Nat) : Int)).length = np at *
  generalize sW l R i = X at *
  generalize lfI l R i = LF at *
  generalize rO l R i m = RO at *
  have HLF := Lib.hid hlf
  clear hlf hm hP hp c3 c4 h hrm hfr hb1
  go_enter Try.func52, Try.ntmps52
  go_upto_region 1 with fail
  go_cut [7, 8] from 9 (fun u7 u8 wx => Lks w (gF X) (gP X) u7 u8 (.bool RO) wx)
  case first =>
    go_region_with (first
      | (go_at_call 73; refine (KE.out _ ?_).mono ?_; (first | exact HRM.out.drewN 1 | exact (HRM.out.alloc _).drewN 1); (rintro e w3 ⟨rfl, b3⟩; (first | (obtain ⟨k0, k1, k2, k3⟩ := two_at (Blk.below ((Blk.new w 46 [.int .i64 0, .int .i64 0]).drewN 1) b3 (Blk.lt ((Blk.new w 46 [.int .i64 0, .int .i64 0]).drewN 1)))) | skip))))
    all_goals
      go_wp2_with fail
      go_meet
      case rel =>
        first
          | exact lks_late b3
          | exact lks_early b3
  case rest =>
    clear a1 a2 a3 a4 cy0 cy1 c2 c4'
    obtain ⟨kb, rfl, rfl, hwk, hkb, hbb⟩ := hcut
    generalize gF X = FF at *
    generalize gP X = PP at *
    obtain ⟨k0, k1, _, _⟩ := two_at hkb
    have HB := Lib.hid hbb
    rcases HLF.out with ⟨e1, e2⟩ | ⟨e1, e3, e2⟩ | ⟨e1, e3, e2⟩
    · subst e1 e2
      go_wp2_with fail
      go_ret
      exact ⟨rfl, HB.out⟩
    · subst e1 e2
      have hp' : (PP == 3) = false := by simpa using e3
      have hp2 : (PP != 3) = true := by simpa using e3
      have hp3 : decide (PP = 3) = false := decide_eq_false e3
      clear e3
      go_wp2_with fail
      go_ret
      exact ⟨rfl, HB.out⟩
    · subst e1 e2 e3
      go_wp2_with fail
      go_ret
      exact ⟨rfl, HB.out⟩
end

end Go.Proofs.Ytggdbiniklchoaa
