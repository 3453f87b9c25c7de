/-
  Contracts of the document's Iommu: walk.
-/
import Derived.Test.YtggdbiniklchoaaIor1
namespace Go.Proofs.Ytggdbiniklchoaa
open Go.RowKit
set_option linter.unusedVariables false
set_option maxRecDepth 100000

/-- What a walk leaves: the variables of its entry and of its error, beside the block h. -/
def Wks (w0 : World) (h : Nat) (f q c : Int) (u8 u9 : Value) (w : World) : Prop :=
  ∃ k, u8 = .pointer (some ⟨k, 0, none⟩) ∧ u9 = .int .i64 c ∧ k ≠ h ∧ w0.heap.size ≤ k ∧ Blk w k 46 (ints [f, q]) ∧ Blk w h 46 (ints [0, 0]) ∧ Below w0.heap.size w0 w
section
variable {w0 w w3 : World} {h : Nat} {f q c : Int}
theorem wks_late (hh : Blk w h 46 (ints [0, 0])) (hb : Below w0.heap.size w0 w) (b3 : Below w.drew.heap.size w.drew w3) : Wks w0 h f q c (.pointer (some ⟨w3.heap.size, 0, none⟩)) (.int .i64 c) (w3.alloc (.cells #[.int .i64 f, .int .i64 q] 46)) := by
  have b1 := Below.down (bdrewN hb 1) b3 hb.size
  have h1 := (hh.drewN 1).below b3 (hh.drewN 1).lt
  exact ⟨_, rfl, rfl, by have := h1.lt; omega, b1.size, Blk.new w3 _ (ints [f, q]), h1.alloc _, b1.alloc b1.size _⟩
theorem wks_early (hh : Blk w h 46 (ints [0, 0])) (hb0 : Below w0.heap.size w0 w) (b3 : Below (w.alloc (.cells #[.int .i64 0, .int .i64 0] 46)).drew.heap.size (w.alloc (.cells #[.int .i64 0, .int .i64 0] 46)).drew w3) : Wks w0 h f q c (.pointer (some ⟨w.heap.size, 0, none⟩)) (.int .i64 c) ((w3.setCell ⟨w.heap.size, 0, none⟩ (.int .i64 f)).setCell ⟨w.heap.size, 1, none⟩ (.int .i64 q)) := by
  have hn : w.heap.size ≠ h := by have := hh.lt; omega
  have hb1 : Blk (w.alloc (.cells #[.int .i64 0, .int .i64 0] 46)).drew w.heap.size 46 (ints [0, 0]) := (Blk.new w _ (ints [0, 0])).drewN 1
  have hb := hb1.below b3 hb1.lt
  have h1 : Blk (w.alloc (.cells #[.int .i64 0, .int .i64 0] 46)).drew h 46 (ints [0, 0]) := (hh.alloc _).drewN 1
  have h2 := h1.below b3 h1.lt
  have b1 : Below w0.heap.size w0 (w.alloc (.cells #[.int .i64 0, .int .i64 0] 46)).drew := bdrewN (hb0.alloc hb0.size _) 1
  have b2 := Below.down b1 b3 b1.size
  exact ⟨_, rfl, rfl, hn, hb0.size, (hb.setInt 0 f).setInt 1 q, (h2.far (p := ⟨w.heap.size, 0, none⟩) (fun e => hn e.symm) _).far (p := ⟨w.heap.size, 1, none⟩) (fun e => hn e.symm) _, (b2.setCell (p := ⟨w.heap.size, 0, none⟩) hb0.size _).setCell (p := ⟨w.heap.size, 1, none⟩) hb0.size _⟩
end

section
variable {B : Nat} {y r b : Nat} {v : Value} {ps : List (List Int)} {l : List UInt8}
set_option maxHeartbeats 8000000 in
theorem rwlk_any (d p : Int) (w : World) (h : Rx B w y r b v ps l) (h0 : 0 ≤ d) (h1 : d < ps.length) (hp0 : 0 ≤ p) (hp1 : p < 256) :
    Calls Try.prog 55 #[.pointer (some ⟨y, 0, none⟩), .int .i64 d, .int .i64 p] w fun e w' => e = .returned (.tuple #[.agg #[.int .i64 (wF l (ioRoot ps d) p), .int .i64 (wP l (ioRoot ps d) p)], .int .i64 (uC l (ioRoot ps d) p)]) ∧ Below w.heap.size w w' := by
  obtain ⟨_, hl, _, hr0, hr1⟩ := h.pool h0 h1
  have KE := Lib.hid (fun W hW => rwalk_any r b l (ioRoot ps d) p W hW)
  have hu : uC l (ioRoot ps d) p = if wC l (ioRoot ps d) p = 501 then 702 else if wC l (ioRoot ps d) p = 502 then 704 else 0 := rfl
  have n4 := h.n4
  obtain ⟨k, rfl⟩ := Int.eq_ofNat_of_zero_le h0
  have hkn : k < ps.length := by omega
  have hP : ps.getD k [] = ioPool ps ((k : Nat) : Int) := by unfold ioPool; rw [Int.toNat_natCast]
  have hblk := Blk.new w 46 (ints [0, 0])
  have hb0 := (Below.refl w.heap.size w).alloc (Nat.le_refl _) (.cells #[.int .i64 0, .int .i64 0] 46)
  replace h := h.alloc (.cells #[.int .i64 0, .int .i64 0] 46)
  change Blk (w.alloc (.cells #[.int .i64 0, .int .i64 0] 46)) _ _ _ at hblk
  obtain ⟨b0, cap, rfl, _, hbl, hp⟩ := h.pl.slice h.n1
  obtain ⟨qb, c, c2, _, hql, hlc, c3⟩ := hp k hkn (by rw [hP]; omega)
  have c4 := c3 0 (by rw [hP]; omega)
  rw [hP] at c2 c4 hlc
  have c4' : (w.alloc (.cells #[.int .i64 0, .int .i64 0] 46)).cell? ⟨qb, 0, none⟩ = some (.int .i64 (ioRoot ps ((k : Nat) : Int))) := c4
  obtain ⟨cy0, cy1⟩ := h.cells
  have hyl := h.sx.lt
  have hrm := h.rm
  have HRM := Lib.hid hrm
  generalize ioRoot ps ((k : Nat) : Int) = R at *
  generalize (ioPool ps ((k : Nat) : Int)).length = np at *
  have HU := Lib.hid hu
  generalize uC l R p = UU at *
  clear hu hP hp c3 c4 h hrm
  go_enter Try.func55, Try.ntmps55
  go_upto_region 1 with fail
  generalize hw1 : w.alloc (.cells #[.int .i64 0, .int .i64 0] 46) = w1 at *
  clear hw1
  generalize hh : w.heap.size = hb at hblk ⊢
  have hwh : w.heap.size ≤ hb := by omega
  have HH := Lib.hid hh; clear hh
  have hb1 := (Below.refl w1.heap.size w1).alloc (Nat.le_refl _) (.cells #[.int .i64 0, .int .i64 0] 46)
  have a1 := (hb1.cell (p := ⟨y, 0, none⟩) hyl).trans cy0
  have a2 := (hb1.cell (p := ⟨y, 1, none⟩) hyl).trans cy1
  have a3 := (hb1.cell (p := ⟨b0, k, none⟩) hbl).trans c2
  have a4 := (hb1.cell (p := ⟨qb, 0, none⟩) hql).trans c4'
  clear hb1
  go_cut [8, 9] from 10 (fun u8 u9 wx => Wks w hb (wF l R p) (wP l R p) (wC l R p) u8 u9 wx)
  case first =>
    go_region_with (first
      | (go_at_call 74; refine (KE.out _ ?_).mono ?_; (first | exact HRM.out.drewN 1 | exact (HRM.out.alloc _).drewN 1); (rintro e w3 ⟨rfl, b3⟩; (first | (obtain ⟨k0, k1, k2, k3⟩ := two_at (Blk.below ((Blk.new w1 46 [.int .i64 0, .int .i64 0]).drewN 1) b3 (Blk.lt ((Blk.new w1 46 [.int .i64 0, .int .i64 0]).drewN 1)))) | skip))))
    all_goals
      go_wp2_with fail
      go_meet
      case rel =>
        first
          | exact wks_late hblk hb0 b3
          | exact wks_early hblk hb0 b3
  case rest =>
    clear a1 a2 a3 a4 cy0 cy1 c2 c4' hblk
    obtain ⟨kb, rfl, rfl, hkh, hwk, hkb, hbl2, hbb⟩ := hcut
    generalize hF : wF l R p = F at *
    generalize hQ : wP l R p = Q at *
    generalize wC l R p = C at *
    have HF := Lib.hid hF; have HQ := Lib.hid hQ; clear hF hQ
    obtain ⟨k0, k1, _, _⟩ := two_at hkb
    obtain ⟨v0, v1, f0, f1⟩ := two_at hbl2
    have hhl := hbl2.lt
    have fin : Below w.heap.size w ((wc.setCell ⟨hb, 0, none⟩ (.int .i64 F)).setCell ⟨hb, 1, none⟩ (.int .i64 Q)) := (hbb.setCell (p := ⟨hb, 0, none⟩) hwh _).setCell (p := ⟨hb, 1, none⟩) hwh _
    have hv2 := (hbl2.setInt 0 F).setInt 1 Q
    have r0 := hv2.cell 0
    have r1 := hv2.cell 1
    simp only [ints, List.map_cons, List.set_cons_zero, List.set_cons_succ, List.getElem?_cons_zero, List.getElem?_cons_succ] at r0 r1
    have FIN := Lib.hid fin; have R0 := Lib.hid r0; have R1 := Lib.hid r1
    clear fin hv2 r0 r1 hbb
    by_cases c1 : C = 501
    · subst c1
      have hU : UU = 702 := by rw [HU.out]; rfl
      subst hU
      go_wp2_with fail
      have r0 := R0.out; have r1 := R1.out
      exact bodyPost_ret (v := .tuple #[.agg #[.int .i64 F, .int .i64 Q], .int .i64 702]) (by simp [results, Try.results55, go_sem, r0, r1]) rfl ⟨by rw [HF.out, HQ.out], FIN.out⟩
    · by_cases c2 : C = 502
      · subst c2
        have hU : UU = 704 := by rw [HU.out]; rfl
        subst hU
        go_wp2_with fail
        have r0 := R0.out; have r1 := R1.out
        exact bodyPost_ret (v := .tuple #[.agg #[.int .i64 F, .int .i64 Q], .int .i64 704]) (by simp [results, Try.results55, go_sem, r0, r1]) rfl ⟨by rw [HF.out, HQ.out], FIN.out⟩
      · have hU : UU = 0 := by rw [HU.out, if_neg c1, if_neg c2]
        subst hU
        have d1 : (C == 501) = false := by simpa using c1
        have d2 : (C == 502) = false := by simpa using c2
        go_wp2_with fail
        have r0 := R0.out; have r1 := R1.out
        exact bodyPost_ret (v := .tuple #[.agg #[.int .i64 F, .int .i64 Q], .int .i64 0]) (by simp [results, Try.results55, go_sem, r0, r1]) rfl ⟨by rw [HF.out, HQ.out], FIN.out⟩
end

end Go.Proofs.Ytggdbiniklchoaa
