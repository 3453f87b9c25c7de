/-
  Layer 16's law Descs: it answers true for every input. (Written by wip/gende_law.py.)
-/
import Derived.Test.YtoahemnenjhlhaaDeAwake
import Derived.Deep.RegionHeld3
import Derived.Deep.DeepCutAuto
namespace Go.Proofs.Ytoahemnenjhlhaa
open Go.RowKit
set_option linter.unusedVariables false
set_option maxRecDepth 100000

/-- Three descriptors stand in their blocks, and nothing that was there has turned. -/
structure Ds (w : World) (g0 g1 g2 : Nat) (o x l b n o3 x3 l3 b3 n3 : Int) (w' : World) : Prop where
  a : Blk w' g0 23 [.int .i64 o, .int .i64 x, .int .i64 l, .int .i64 b, .int .i64 n]
  c : Blk w' g1 23 [.int .i64 o3, .int .i64 x3, .int .i64 l3, .int .i64 b3, .int .i64 n3]
  d : Blk w' g2 23 [.int .i64 o3, .int .i64 x3, .int .i64 l3, .int .i64 b3, .int .i64 n3]
  s : w.heap.size ≤ w'.heap.size
  b : Below w.heap.size w w'
theorem Ds.next {w w1 w2 : World} {g0 g1 g2 : Nat} {o x l b n o3 x3 l3 b3 n3 : Int} (h : Ds w g0 g1 g2 o x l b n o3 x3 l3 b3 n3 w1) (hb : Below w1.heap.size w1 w2) : Ds w g0 g1 g2 o x l b n o3 x3 l3 b3 n3 w2 :=
  ⟨h.a.below hb h.a.lt, h.c.below hb h.c.lt, h.d.below hb h.d.lt, (Below.down h.b hb h.s).size, Below.down h.b hb h.s⟩
theorem Ds.drew {w w1 : World} {g0 g1 g2 : Nat} {o x l b n o3 x3 l3 b3 n3 : Int} (h : Ds w g0 g1 g2 o x l b n o3 x3 l3 b3 n3 w1) : Ds w g0 g1 g2 o x l b n o3 x3 l3 b3 n3 w1.drew :=
  ⟨h.a, h.c, h.d, h.s, bdrewN h.b 1⟩
theorem Ds.all {w w' : World} {g0 g1 g2 : Nat} {o x l b n o3 x3 l3 b3 n3 : Int} (h : Ds w g0 g1 g2 o x l b n o3 x3 l3 b3 n3 w') : w'.cell? ⟨g0, 0, none⟩ = some (.int .i64 o) ∧ w'.cell? ⟨g0, 1, none⟩ = some (.int .i64 x) ∧ w'.cell? ⟨g0, 2, none⟩ = some (.int .i64 l) ∧ w'.cell? ⟨g0, 3, none⟩ = some (.int .i64 b) ∧ w'.cell? ⟨g0, 4, none⟩ = some (.int .i64 n) ∧ w'.cell? ⟨g1, 0, none⟩ = some (.int .i64 o3) ∧ w'.cell? ⟨g1, 1, none⟩ = some (.int .i64 x3) ∧ w'.cell? ⟨g1, 2, none⟩ = some (.int .i64 l3) ∧ w'.cell? ⟨g1, 3, none⟩ = some (.int .i64 b3) ∧ w'.cell? ⟨g1, 4, none⟩ = some (.int .i64 n3) ∧ w'.cell? ⟨g2, 0, none⟩ = some (.int .i64 o3) ∧ w'.cell? ⟨g2, 1, none⟩ = some (.int .i64 x3) ∧ w'.cell? ⟨g2, 2, none⟩ = some (.int .i64 l3) ∧ w'.cell? ⟨g2, 3, none⟩ = some (.int .i64 b3) ∧ w'.cell? ⟨g2, 4, none⟩ = some (.int .i64 n3) ∧ Ds w g0 g1 g2 o x l b n o3 x3 l3 b3 n3 w' :=
  ⟨h.a.cell 0, h.a.cell 1, h.a.cell 2, h.a.cell 3, h.a.cell 4, h.c.cell 0, h.c.cell 1, h.c.cell 2, h.c.cell 3, h.c.cell 4, h.d.cell 0, h.d.cell 1, h.d.cell 2, h.d.cell 3, h.d.cell 4, h⟩

theorem rdeput_is (o x l b n c : Int) (S : ByteArray) (w : World) (hS : str (deL o x l b n) = S) (hc : e16 (deB o x l b n) = c) :
    Calls Try.prog 8 #[.agg #[.int .i64 o, .int .i64 x, .int .i64 l, .int .i64 b, .int .i64 n]] w fun e w' => e = .returned (.tuple #[.string S, .int .i64 c]) ∧ Below w.heap.size w w' := by
  subst hS hc; exact rdeput_any o x l b n w
theorem rdeget_is (s : ByteArray) (D : Value) (w : World) (h : degV s.data.toList = D) :
    Calls Try.prog 10 #[.string s] w fun e w' => e = .returned D ∧ Below w.heap.size w w' := by
  subst h; exact rdeget_any s w
theorem rdemay_is (o x l b n : Int) (B : Bool) (w : World) (h : deB o x l b n = B) :
    Calls Try.prog 13 #[.agg #[.int .i64 o, .int .i64 x, .int .i64 l, .int .i64 b, .int .i64 n]] w fun e w' => e = .returned (.bool B) ∧ Below w.heap.size w w' := by
  subst h; exact rdemay_any o x l b n w

set_option maxHeartbeats 4000000 in
theorem law_Descs (o x l b n : Int) (s : ByteArray) (w : World) :
    Calls Try.prog 3 #[.agg #[.int .i64 o, .int .i64 x, .int .i64 l, .int .i64 b, .int .i64 n], .string s] w fun e w' => e = .returned (.bool true) ∧ Below w.heap.size w w' := by
  have t0 := Blk.new w 23 [.int .i64 o, .int .i64 x, .int .i64 l, .int .i64 b, .int .i64 n]
  have z0 : Below w.heap.size w (w.alloc (.cells #[.int .i64 o, .int .i64 x, .int .i64 l, .int .i64 b, .int .i64 n] 23)) := (Below.refl _ _).alloc (Nat.le_refl _) _
  obtain ⟨S, hS⟩ : ∃ S, str (deL o x l b n) = S := ⟨_, rfl⟩
  obtain ⟨C, hC⟩ : ∃ C, e16 (deB o x l b n) = C := ⟨_, rfl⟩
  obtain ⟨D, hD⟩ : ∃ D, e16 (dgB s.data.toList) = D := ⟨_, rfl⟩
  obtain ⟨B, hB⟩ : ∃ B, deB o x l b n = B := ⟨_, rfl⟩
  obtain ⟨o3, x3, l3, b3, n3, hV⟩ : ∃ o3 x3 l3 b3 n3 : Int, degV s.data.toList = .tuple #[.agg #[.int .i64 o3, .int .i64 x3, .int .i64 l3, .int .i64 b3, .int .i64 n3], .int .i64 D] := ⟨_, _, _, _, _, by rw [← hD]; rfl⟩
  have HS := Lib.hid hS; have HC := Lib.hid hC; have HB := Lib.hid hB; have HV := Lib.hid hV
  clear hS hC hB hV hD
  go_enter Try.func3, Try.ntmps3
  go_wp2_with fail
  generalize w.alloc (.cells #[.int .i64 o, .int .i64 x, .int .i64 l, .int .i64 b, .int .i64 n] 23) = w0 at *
  obtain ⟨g0, hg0⟩ : ∃ g0, w.heap.size = g0 := ⟨_, rfl⟩
  rw [hg0] at t0
  simp only [hg0]
  have HG0 := Lib.hid hg0
  clear hg0
  refine (deput_is o x l b n C S _ HS.out HC.out).mono ?_
  rintro e w1 ⟨rfl, b1⟩
  have t1 := t0.below b1 t0.lt
  have z1 := Below.down z0 b1 z0.size
  obtain ⟨a0, a1, a2, a3, a4⟩ := five_at t1
  clear t0 z0 b1
  go_wp2_with fail
  refine (rdeput_is o x l b n C S _ HS.out HC.out).mono ?_
  rintro e w2 ⟨rfl, b2⟩
  have t2 := t1.below b2 t1.lt
  have z2 := Below.down z1 b2 z1.size
  clear t1 z1 b2 a0 a1 a2 a3 a4
  go_wp2_with fail
  refine (deget_is s _ _ HV.out).mono ?_
  rintro e w3 ⟨rfl, b3'⟩
  have t3 := (t2.below b3' t2.lt).alloc (.cells #[.int .i64 o3, .int .i64 x3, .int .i64 l3, .int .i64 b3, .int .i64 n3] 23)
  have z3 := (Below.down z2 b3' z2.size).alloc (Below.down z2 b3' z2.size).size (.cells #[.int .i64 o3, .int .i64 x3, .int .i64 l3, .int .i64 b3, .int .i64 n3] 23)
  have c3 := Blk.new w3 23 [.int .i64 o3, .int .i64 x3, .int .i64 l3, .int .i64 b3, .int .i64 n3]
  clear t2 z2 b3'
  go_wp2_with fail
  generalize w3.alloc (.cells #[.int .i64 o3, .int .i64 x3, .int .i64 l3, .int .i64 b3, .int .i64 n3] 23) = w4 at *
  generalize w3.heap.size = g1 at *
  refine (rdeget_is s _ _ HV.out).mono ?_
  rintro e w5 ⟨rfl, b5⟩
  have t5 := (t3.below b5 t3.lt).alloc (.cells #[.int .i64 o3, .int .i64 x3, .int .i64 l3, .int .i64 b3, .int .i64 n3] 23)
  have c5 := (c3.below b5 c3.lt).alloc (.cells #[.int .i64 o3, .int .i64 x3, .int .i64 l3, .int .i64 b3, .int .i64 n3] 23)
  have d5 := Blk.new w5 23 [.int .i64 o3, .int .i64 x3, .int .i64 l3, .int .i64 b3, .int .i64 n3]
  have z5 := (Below.down z3 b5 z3.size).alloc (Below.down z3 b5 z3.size).size (.cells #[.int .i64 o3, .int .i64 x3, .int .i64 l3, .int .i64 b3, .int .i64 n3] 23)
  clear t3 z3 b5 c3
  go_wp2_with fail
  generalize w5.alloc (.cells #[.int .i64 o3, .int .i64 x3, .int .i64 l3, .int .i64 b3, .int .i64 n3] 23) = w6 at *
  generalize w5.heap.size = g2 at *
  have hS6 : Ds w g0 g1 g2 o x l b n o3 x3 l3 b3 n3 w6 := ⟨t5, c5, d5, z5.size, z5⟩
  clear t5 c5 d5 z5
  obtain ⟨a0, a1, a2, a3, a4, c0, c1, c2, c3, c4, d0, d1, d2, d3, d4, hS6⟩ := hS6.all
  go_region_held3 (fun w' => w'.cell? ⟨g0, 0, none⟩ = some (.int .i64 o) ∧ w'.cell? ⟨g0, 1, none⟩ = some (.int .i64 x) ∧ w'.cell? ⟨g0, 2, none⟩ = some (.int .i64 l) ∧ w'.cell? ⟨g0, 3, none⟩ = some (.int .i64 b) ∧ w'.cell? ⟨g0, 4, none⟩ = some (.int .i64 n) ∧ w'.cell? ⟨g1, 0, none⟩ = some (.int .i64 o3) ∧ w'.cell? ⟨g1, 1, none⟩ = some (.int .i64 x3) ∧ w'.cell? ⟨g1, 2, none⟩ = some (.int .i64 l3) ∧ w'.cell? ⟨g1, 3, none⟩ = some (.int .i64 b3) ∧ w'.cell? ⟨g1, 4, none⟩ = some (.int .i64 n3) ∧ w'.cell? ⟨g2, 0, none⟩ = some (.int .i64 o3) ∧ w'.cell? ⟨g2, 1, none⟩ = some (.int .i64 x3) ∧ w'.cell? ⟨g2, 2, none⟩ = some (.int .i64 l3) ∧ w'.cell? ⟨g2, 3, none⟩ = some (.int .i64 b3) ∧ w'.cell? ⟨g2, 4, none⟩ = some (.int .i64 n3) ∧ Ds w g0 g1 g2 o x l b n o3 x3 l3 b3 n3 w')
    ((go_split_ands; refine Ds.all ?_; (first | assumption | (exact Ds.drew (by assumption)) | (refine Ds.next ?_ (by assumption); assumption))))
    (first
      | (go_at_call 11; refine (num_any _ _).mono ?_; rintro e w' ⟨rfl, rfl⟩)
      | (go_at_call 12; refine (demay_is o x l b n B _ HB.out).mono ?_; rintro e w' ⟨rfl, hb⟩)
      | (go_at_call 13; refine (rdemay_is o x l b n B _ HB.out).mono ?_; rintro e w' ⟨rfl, hb⟩)
      | (go_at_call 14; refine (deawake_any _).mono ?_; rintro e w' ⟨rfl, hb⟩))
  all_goals
    have hEnd : Ds w g0 g1 g2 o x l b n o3 x3 l3 b3 n3 w' := by go_split_ands; assumption
    have hB' := hEnd.b
    clear hEnd
    go_wp2_with fail
    go_ret
    exact ⟨rfl, hB'⟩

end Go.Proofs.Ytoahemnenjhlhaa
