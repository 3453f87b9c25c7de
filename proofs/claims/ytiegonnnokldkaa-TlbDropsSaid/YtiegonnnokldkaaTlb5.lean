/-
  Contracts of package tlb: Get, add, remove, Drop, DropAll, Put.
-/
import Derived.Test.YtiegonnnokldkaaTlb4
namespace Go.Proofs.Ytiegonnnokldkaa
open Go.RowKit
set_option linter.unusedVariables false

/-- Where a number leads: the line's entry, or none. -/
theorem get_none (l : List Ln) (d p : Int) (h : idx (isK d p) l = -1) : getF l d p = 0 ∧ getM l d p = 0 ∧ getB l d p = false := by
  simp [getF, getM, getB, h]
theorem get_some (l : List Ln) (d p : Int) (k : Nat) (hk : k < l.length) (h : idx (isK d p) l = (k : Int)) : getF l d p = l[k].f ∧ getM l d p = l[k].m ∧ getB l d p = true := by
  have h0 : ¬ ((k : Int) < 0) := by omega
  simp [getF, getM, getB, h, h0, hk]

/-- of: a test that the calls ask. -/
theorem of_tst (d p : Int) (w : World) :
    Calls Try.prog 24 #[.int .i64 d, .int .i64 p] w fun e w' => ∃ F, e = .returned F ∧ Tst w' F (isK d p) ∧ Below w.heap.size w w' := by
  refine (of_any d p w).mono ?_
  rintro e w' ⟨rfl, rfl⟩
  refine ⟨_, rfl, .inl ⟨_, _, d, p, rfl, rfl, (Blk.new w _ _).alloc _, ?_⟩, ((Below.refl _ _).alloc (Nat.le_refl _) _).alloc (by simp) _⟩
  have := Blk.new (w.alloc (Obj.cells [Value.int .i64 d].toArray 3)) 3 [Value.int .i64 p]
  simpa using this

set_option maxRecDepth 100000 in
theorem pget_any (g c : Nat) (l : List Ln) (d p : Int) (w : World) (h : PT w g c l.length l) :
    Calls Try.prog 17 #[.pointer (some ⟨g, 0, none⟩), .int .i64 d, .int .i64 p] w fun e w' => e = .returned (.tuple #[.agg #[.int .i64 (getF l d p), .int .i64 (getM l d p)], .bool (getB l d p)]) ∧ Below w.heap.size w w' := by
  have hlen := h.len
  have hgl := h.lt
  have H : Hid (PT w g c l.length l) := Lib.hid h
  clear h
  go_enter Try.func17, Try.ntmps17
  go_wp2_with fail
  change Calls _ _ _ (w.alloc (.cells (ints [0, 0]).toArray 33)) _
  have hv : Blk (w.alloc (.cells (ints [0, 0]).toArray 33)) w.heap.size 33 (ints [0, 0]) := Blk.new _ _ _
  have hwv : Below w.heap.size w (w.alloc (.cells (ints [0, 0]).toArray 33)) := (Below.refl _ _).alloc (Nat.le_refl _) _
  generalize w.alloc (.cells (ints [0, 0]).toArray 33) = wv at *
  generalize hh : w.heap.size = h at *
  have hwh : w.heap.size ≤ h := by omega
  have hhw : h ≤ w.heap.size := by omega
  have HH := Lib.hid hh; clear hh
  have hpt := H.out.below hwv hgl
  refine (prow_any g c l.length l _ hpt (by omega)).mono ?_
  rintro e w1 ⟨rfl, q, rfl⟩
  replace hv := hv.drewN q
  replace hwv := bdrewN hwv q
  replace hpt := hpt.drewN q
  generalize wv.drewN q = w1 at *
  go_wp2_with fail
  refine (of_tst d p _).mono ?_
  rintro e w2 ⟨F, rfl, ht, b2⟩
  replace hpt := hpt.below b2 hpt.lt
  replace hv := hv.below b2 hv.lt
  replace hwv := Below.down hwv b2 (by have := hwv.size; omega)
  clear b2
  go_wp2_with fail
  refine (ifn_any g c l.length l F _ w2 hpt ht).mono ?_
  rintro e w3 ⟨rfl, b3⟩
  replace hpt := hpt.below b3 hpt.lt
  replace hv := hv.below b3 hv.lt
  replace hwv := Below.down hwv b3 (by have := hwv.size; omega)
  clear b3 ht
  have v0 : w3.cell? ⟨h, 0, none⟩ = some (.int .i64 0) := by rw [hv.cell]; rfl
  have v1 : w3.cell? ⟨h, 1, none⟩ = some (.int .i64 0) := by rw [hv.cell]; rfl
  have f0 := hv.frozen 0
  have f1 := hv.frozen 1
  have hhl := hv.lt
  rcases idx_cases (isK d p) l with ⟨he, _⟩ | ⟨k, hk, he, _, _⟩
  · rw [he]
    have HG := Lib.hid (get_none l d p he); clear he
    go_wp2_with fail
    have hv2 := (hv.setInt 0 0).setInt 1 0
    have r0 := hv2.cell 0
    have r1 := hv2.cell 1
    simp only [ints, List.map_cons, List.set_cons_zero, List.set_cons_succ, List.getElem?_cons_zero, List.getElem?_cons_succ] at r0 r1
    have hb2 := (hwv.setCell (p := ⟨h, 0, none⟩) (Nat.le_refl _) (.int .i64 0)).setCell (p := ⟨h, 1, none⟩) (Nat.le_refl _) (.int .i64 0)
    rw [HG.out.1, HG.out.2.1, HG.out.2.2, HH.out]
    exact bodyPost_ret (v := .tuple #[.agg #[.int .i64 0, .int .i64 0], .bool false]) (by simp [results, Try.results17, go_sem, r0, r1]) rfl ⟨rfl, hb2⟩
  · rw [he]
    obtain ⟨g1, g2, g3⟩ := get_some l d p k hk he
    obtain ⟨c0, c1, c2, c3⟩ := hpt.at_ k hk
    generalize l[k] = x at *
    have G1 := Lib.hid g1; have G2 := Lib.hid g2; have G3 := Lib.hid g3; clear g1 g2 g3 he
    go_wp2_with fail
    have hv2 := (hv.setInt 0 x.f).setInt 1 x.m
    have r0 := hv2.cell 0
    have r1 := hv2.cell 1
    simp only [ints, List.map_cons, List.set_cons_zero, List.set_cons_succ, List.getElem?_cons_zero, List.getElem?_cons_succ] at r0 r1
    have hb2 := (hwv.setCell (p := ⟨h, 0, none⟩) (Nat.le_refl _) (.int .i64 x.f)).setCell (p := ⟨h, 1, none⟩) (Nat.le_refl _) (.int .i64 x.m)
    rw [G1.out, G2.out, G3.out, HH.out]
    exact bodyPost_ret (v := .tuple #[.agg #[.int .i64 x.f, .int .i64 x.m], .bool true]) (by simp [results, Try.results17, go_sem, r0, r1]) rfl ⟨rfl, hb2⟩

end Go.Proofs.Ytiegonnnokldkaa
