/-
  Layer 9's law LabelOrder: it answers true for every input.
-/
import Derived.Test.YtllppgjddboelaaLatAwake
import Derived.Deep.RegionHeld3
import Derived.Deep.DeepCutAuto
namespace Go.Proofs.Ytllppgjddboelaa
open Go.RowKit
set_option linter.unusedVariables false
set_option linter.unusedSimpArgs false
set_option maxRecDepth 100000

theorem Bks.five {t : TypeId} {w0 w : World} {p0 p1 p2 p3 p4 : Nat} {x0 y0 x1 y1 x2 y2 x3 y3 x4 y4 : Value} (h : Bks t w0 w [(p4, [x4, y4]), (p3, [x3, y3]), (p2, [x2, y2]), (p1, [x1, y1]), (p0, [x0, y0])]) :
    w.cell? ⟨p0, 0, none⟩ = some x0 ∧ w.cell? ⟨p0, 1, none⟩ = some y0 ∧ w.cell? ⟨p1, 0, none⟩ = some x1 ∧ w.cell? ⟨p1, 1, none⟩ = some y1 ∧ w.cell? ⟨p2, 0, none⟩ = some x2 ∧ w.cell? ⟨p2, 1, none⟩ = some y2 ∧
    w.cell? ⟨p3, 0, none⟩ = some x3 ∧ w.cell? ⟨p3, 1, none⟩ = some y3 ∧ Bks t w0 w [(p4, [x4, y4]), (p3, [x3, y3]), (p2, [x2, y2]), (p1, [x1, y1]), (p0, [x0, y0])] :=
  ⟨h.cell 4 rfl 0, h.cell 4 rfl 1, h.cell 3 rfl 0, h.cell 3 rfl 1, h.cell 2 rfl 0, h.cell 2 rfl 1, h.cell 1 rfl 0, h.cell 1 rfl 1, h⟩

set_option maxHeartbeats 4000000 in
theorem law_LabelOrder (a b c d f h : Int) (w : World) :
    Calls Try.prog 4 #[.agg #[.int .i64 a, .int .i64 b], .agg #[.int .i64 c, .int .i64 d], .agg #[.int .i64 f, .int .i64 h]] w fun e w' => e = .returned (.bool true) ∧ Below w.heap.size w w' := by
  have hA := band a 3 (by omega) (by omega)
  have hB := band b 15 (by omega) (by omega)
  have hC := band c 3 (by omega) (by omega)
  have hD := band d 15 (by omega) (by omega)
  have hF := band f 3 (by omega) (by omega)
  have hH := band h 15 (by omega) (by omega)
  generalize hA' : bits BinOp.and IntKind.i64 a 3 = A at hA
  generalize hB' : bits BinOp.and IntKind.i64 b 15 = B at hB
  generalize hC' : bits BinOp.and IntKind.i64 c 3 = C at hC
  generalize hD' : bits BinOp.and IntKind.i64 d 15 = D at hD
  generalize hF' : bits BinOp.and IntKind.i64 f 3 = F at hF
  generalize hH' : bits BinOp.and IntKind.i64 h 15 = H at hH
  have hx := lB_yes A B hA.1 hA.2 hB.1 hB.2
  have hy := lB_yes C D hC.1 hC.2 hD.1 hD.2
  have hz := lB_yes F H hF.1 hF.2 hH.1 hH.2
  have HX := Lib.hid hx; have HY := Lib.hid hy; have HZ := Lib.hid hz
  have HP := Lib.hid (Lat3.of hx hy hz)
  obtain ⟨j1, j2, j3⟩ := join_yes A B C D hx hy
  obtain ⟨j4, j5, j6⟩ := join_yes C D A B hy hx
  rw [mxL_comm C A] at j4
  rw [orC_comm D B] at j5
  have HJ := Lib.hid (And.intro j1 (And.intro j2 j3)); have HK := Lib.hid (And.intro j4 (And.intro j5 j6))
  clear hx hy hz hA hB hC hD hF hH j1 j2 j3 j4 j5 j6
  generalize mxL A C = J at *
  generalize orC B D = K at *
  have s0 := (((Bks.start 23 w).push [.int .i64 a, .int .i64 b]).push [.int .i64 c, .int .i64 d]).push [.int .i64 f, .int .i64 h]
  simp only [World.size_alloc] at s0
  go_enter Try.func4, Try.ntmps4
  go_wp2_with fail
  generalize ((w.alloc (.cells #[.int .i64 a, .int .i64 b] 23)).alloc (.cells #[.int .i64 c, .int .i64 d] 23)).alloc (.cells #[.int .i64 f, .int .i64 h] 23) = w1 at *
  generalize w.heap.size + 1 + 1 = g2 at *
  generalize w.heap.size + 1 = g1 at *
  refine (lawake_any _).mono ?_
  rintro e w2 ⟨rfl, b2⟩
  have s2 := s0.next b2
  obtain ⟨a0, a1, -, -⟩ := s2.two 2 rfl
  replace s2 := s2.push [.int .i64 A, .int .i64 B]
  obtain ⟨a2, a3, -, -⟩ := s2.two 2 rfl
  replace s2 := s2.push [.int .i64 C, .int .i64 D]
  obtain ⟨a4, a5, -, -⟩ := s2.two 2 rfl
  replace s2 := s2.push [.int .i64 F, .int .i64 H]
  simp only [World.size_alloc] at s2
  clear s0 b2
  go_wp2_with fail
  generalize ((w2.alloc (.cells #[.int .i64 A, .int .i64 B] 23)).alloc (.cells #[.int .i64 C, .int .i64 D] 23)).alloc (.cells #[.int .i64 F, .int .i64 H] 23) = w3 at *
  generalize w2.heap.size + 1 + 1 = p2 at *
  generalize w2.heap.size + 1 = p1 at *
  generalize w2.heap.size = p0 at *
  clear a0 a1 a2 a3 a4 a5
  refine (ljoin_is A B C D J K 0 _ HJ.out.1 HJ.out.2.1 HJ.out.2.2).mono ?_
  rintro e w4 ⟨rfl, b4⟩
  have s4 := (s2.next b4).push [.int .i64 J, .int .i64 K]
  clear s2 b4
  obtain ⟨a0, a1, -, -⟩ := s4.two 3 rfl
  obtain ⟨a2, a3, -, -⟩ := s4.two 2 rfl
  go_wp2_with fail
  generalize w4.alloc (.cells #[.int .i64 J, .int .i64 K] 23) = w5 at *
  generalize w4.heap.size = p3 at *
  clear a0 a1 a2 a3
  refine (ljoin_is C D A B J K 0 _ HK.out.1 HK.out.2.1 HK.out.2.2).mono ?_
  rintro e w6 ⟨rfl, b6⟩
  have s6 := (s4.next b6).push [.int .i64 J, .int .i64 K]
  clear s4 b6
  obtain ⟨a0, a1, -, -⟩ := s6.two 4 rfl
  obtain ⟨a2, a3, -, -⟩ := s6.two 1 rfl
  obtain ⟨a4, a5, -, -⟩ := s6.two 0 rfl
  go_wp2_with (go_at_call 9; refine (num_any _ _).mono ?_; rintro e w' ⟨rfl, rfl⟩)
  generalize w6.alloc (.cells #[.int .i64 J, .int .i64 K] 23) = w7 at *
  generalize w6.heap.size = p4 at *
  clear a0 a1 a2 a3 a4 a5
  refine (ldom_is J K A B true _ HP.out.up1).mono ?_
  rintro e w9 ⟨rfl, b8⟩
  have s8 := s6.next b8
  clear s6 b8
  obtain ⟨a0, a1, -, -⟩ := s8.two 4 rfl
  obtain ⟨a2, a3, -, -⟩ := s8.two 3 rfl
  obtain ⟨a4, a5, -, -⟩ := s8.two 1 rfl
  go_wp2_with fail
  clear a0 a1 a2 a3 a4 a5
  refine (ldom_is J K C D true _ HP.out.up2).mono ?_
  rintro e w11 ⟨rfl, b10⟩
  have s10 := s8.next b10
  clear s8 b10
  obtain ⟨a0, a1, -, -⟩ := s10.two 4 rfl
  obtain ⟨a2, a3, -, -⟩ := s10.two 3 rfl
  obtain ⟨a4, a5, -, -⟩ := s10.two 1 rfl
  go_wp2_with fail
  clear a0 a1 a2 a3 a4 a5
  refine (ldom_is A B A B true _ HP.out.same).mono ?_
  rintro e w13 ⟨rfl, b12⟩
  have s12 := (s10.next b12).front 5
  clear s10 b12
  have HW := Lib.hid HP.out.ways
  have HE := Lib.hid HP.out.ends
  have HL := Lib.hid HP.out.least'
  clear HX HY HZ HJ HK
  go_upto_region 10 with fail
  go_cut [108] from 80 (fun u108 wx => u108 = .bool false ∧ Bks 23 w wx [(p4, [.int .i64 J, .int .i64 K]), (p3, [.int .i64 J, .int .i64 K]), (p2, [.int .i64 F, .int .i64 H]), (p1, [.int .i64 C, .int .i64 D]), (p0, [.int .i64 A, .int .i64 B])])
  case first =>
    obtain ⟨a0, a1, -, -⟩ := s12.two 4 rfl
    obtain ⟨a2, a3, -, -⟩ := s12.two 3 rfl
    obtain ⟨a4, a5, -, -⟩ := s12.two 2 rfl
    rcases HW.out with h1 | ⟨h1, h2, h3⟩ | ⟨h1, h2, h3, rfl, rfl⟩ | ⟨h1, h2, h4, h3⟩ | ⟨h1, h2, h4, h3, rfl, rfl⟩
    · have H1 := Lib.hid h1; clear h1
      clear HW HE HL HP
      go_wp2_with fail
      refine (ldom_is A B C D false _ H1.out).mono ?_
      rintro e w15 ⟨rfl, b14⟩
      replace s12 := s12.next b14
      clear b14 a0 a1 a2 a3 a4 a5
      obtain ⟨a0, a1, -, -⟩ := s12.two 4 rfl
      obtain ⟨a2, a3, -, -⟩ := s12.two 3 rfl
      obtain ⟨a4, a5, -, -⟩ := s12.two 2 rfl
      go_wp2_with fail
      refine (ldom_is A B C D false _ H1.out).mono ?_
      rintro e w17 ⟨rfl, b16⟩
      replace s12 := s12.next b16
      clear b16 a0 a1 a2 a3 a4 a5
      obtain ⟨a0, a1, -, -⟩ := s12.two 4 rfl
      obtain ⟨a2, a3, -, -⟩ := s12.two 3 rfl
      obtain ⟨a4, a5, -, -⟩ := s12.two 2 rfl
      go_wp2_with fail
      go_meet
      case rel => exact ⟨rfl, s12⟩
    · have H1 := Lib.hid h1; clear h1
      have H2 := Lib.hid h2; clear h2
      have H3 := Lib.hid h3; clear h3
      clear HW HE HL HP
      go_wp2_with fail
      refine (ldom_is A B C D true _ H1.out).mono ?_
      rintro e w15 ⟨rfl, b14⟩
      replace s12 := s12.next b14
      clear b14 a0 a1 a2 a3 a4 a5
      obtain ⟨a0, a1, -, -⟩ := s12.two 4 rfl
      obtain ⟨a2, a3, -, -⟩ := s12.two 3 rfl
      obtain ⟨a4, a5, -, -⟩ := s12.two 2 rfl
      go_wp2_with fail
      refine (ldom_is C D F H false _ H2.out).mono ?_
      rintro e w17 ⟨rfl, b16⟩
      replace s12 := s12.next b16
      clear b16 a0 a1 a2 a3 a4 a5
      obtain ⟨a0, a1, -, -⟩ := s12.two 4 rfl
      obtain ⟨a2, a3, -, -⟩ := s12.two 3 rfl
      obtain ⟨a4, a5, -, -⟩ := s12.two 2 rfl
      go_wp2_with fail
      refine (ldom_is A B C D true _ H1.out).mono ?_
      rintro e w19 ⟨rfl, b18⟩
      replace s12 := s12.next b18
      clear b18 a0 a1 a2 a3 a4 a5
      obtain ⟨a0, a1, -, -⟩ := s12.two 4 rfl
      obtain ⟨a2, a3, -, -⟩ := s12.two 3 rfl
      obtain ⟨a4, a5, -, -⟩ := s12.two 2 rfl
      go_wp2_with fail
      refine (ldom_is C D A B false _ H3.out).mono ?_
      rintro e w21 ⟨rfl, b20⟩
      replace s12 := s12.next b20
      clear b20 a0 a1 a2 a3 a4 a5
      obtain ⟨a0, a1, -, -⟩ := s12.two 4 rfl
      obtain ⟨a2, a3, -, -⟩ := s12.two 3 rfl
      obtain ⟨a4, a5, -, -⟩ := s12.two 2 rfl
      go_wp2_with fail
      go_meet
      case rel => exact ⟨rfl, s12⟩
    · have H1 := Lib.hid h1; clear h1
      have H2 := Lib.hid h2; clear h2
      have H3 := Lib.hid h3; clear h3
      clear HW HE HL HP
      go_wp2_with fail
      refine (ldom_is A B A B true _ H1.out).mono ?_
      rintro e w15 ⟨rfl, b14⟩
      replace s12 := s12.next b14
      clear b14 a0 a1 a2 a3 a4 a5
      obtain ⟨a0, a1, -, -⟩ := s12.two 4 rfl
      obtain ⟨a2, a3, -, -⟩ := s12.two 3 rfl
      obtain ⟨a4, a5, -, -⟩ := s12.two 2 rfl
      go_wp2_with fail
      refine (ldom_is A B F H false _ H2.out).mono ?_
      rintro e w17 ⟨rfl, b16⟩
      replace s12 := s12.next b16
      clear b16 a0 a1 a2 a3 a4 a5
      obtain ⟨a0, a1, -, -⟩ := s12.two 4 rfl
      obtain ⟨a2, a3, -, -⟩ := s12.two 3 rfl
      obtain ⟨a4, a5, -, -⟩ := s12.two 2 rfl
      go_wp2_with fail
      refine (ldom_is A B A B true _ H1.out).mono ?_
      rintro e w19 ⟨rfl, b18⟩
      replace s12 := s12.next b18
      clear b18 a0 a1 a2 a3 a4 a5
      obtain ⟨a0, a1, -, -⟩ := s12.two 4 rfl
      obtain ⟨a2, a3, -, -⟩ := s12.two 3 rfl
      obtain ⟨a4, a5, -, -⟩ := s12.two 2 rfl
      go_wp2_with fail
      refine (ldom_is A B A B true _ H3.out).mono ?_
      rintro e w21 ⟨rfl, b20⟩
      replace s12 := s12.next b20
      clear b20 a0 a1 a2 a3 a4 a5
      obtain ⟨a0, a1, -, -⟩ := s12.two 4 rfl
      obtain ⟨a2, a3, -, -⟩ := s12.two 3 rfl
      obtain ⟨a4, a5, -, -⟩ := s12.two 2 rfl
      go_wp2_with fail
      go_meet
      case rel => exact ⟨rfl, s12⟩
    · have H1 := Lib.hid h1; clear h1
      have H2 := Lib.hid h2; clear h2
      have H3 := Lib.hid h3; clear h3
      have H4 := Lib.hid h4; clear h4
      clear HW HE HL HP
      go_wp2_with fail
      refine (ldom_is A B C D true _ H1.out).mono ?_
      rintro e w15 ⟨rfl, b14⟩
      replace s12 := s12.next b14
      clear b14 a0 a1 a2 a3 a4 a5
      obtain ⟨a0, a1, -, -⟩ := s12.two 4 rfl
      obtain ⟨a2, a3, -, -⟩ := s12.two 3 rfl
      obtain ⟨a4, a5, -, -⟩ := s12.two 2 rfl
      go_wp2_with fail
      refine (ldom_is C D F H true _ H2.out).mono ?_
      rintro e w17 ⟨rfl, b16⟩
      replace s12 := s12.next b16
      clear b16 a0 a1 a2 a3 a4 a5
      obtain ⟨a0, a1, -, -⟩ := s12.two 4 rfl
      obtain ⟨a2, a3, -, -⟩ := s12.two 3 rfl
      obtain ⟨a4, a5, -, -⟩ := s12.two 2 rfl
      go_wp2_with fail
      refine (ldom_is A B F H true _ H4.out).mono ?_
      rintro e w19 ⟨rfl, b18⟩
      replace s12 := s12.next b18
      clear b18 a0 a1 a2 a3 a4 a5
      obtain ⟨a0, a1, -, -⟩ := s12.two 4 rfl
      obtain ⟨a2, a3, -, -⟩ := s12.two 3 rfl
      obtain ⟨a4, a5, -, -⟩ := s12.two 2 rfl
      go_wp2_with fail
      refine (ldom_is A B C D true _ H1.out).mono ?_
      rintro e w21 ⟨rfl, b20⟩
      replace s12 := s12.next b20
      clear b20 a0 a1 a2 a3 a4 a5
      obtain ⟨a0, a1, -, -⟩ := s12.two 4 rfl
      obtain ⟨a2, a3, -, -⟩ := s12.two 3 rfl
      obtain ⟨a4, a5, -, -⟩ := s12.two 2 rfl
      go_wp2_with fail
      refine (ldom_is C D A B false _ H3.out).mono ?_
      rintro e w23 ⟨rfl, b22⟩
      replace s12 := s12.next b22
      clear b22 a0 a1 a2 a3 a4 a5
      obtain ⟨a0, a1, -, -⟩ := s12.two 4 rfl
      obtain ⟨a2, a3, -, -⟩ := s12.two 3 rfl
      obtain ⟨a4, a5, -, -⟩ := s12.two 2 rfl
      go_wp2_with fail
      go_meet
      case rel => exact ⟨rfl, s12⟩
    · have H1 := Lib.hid h1; clear h1
      have H2 := Lib.hid h2; clear h2
      have H3 := Lib.hid h3; clear h3
      have H4 := Lib.hid h4; clear h4
      clear HW HE HL HP
      go_wp2_with fail
      refine (ldom_is A B A B true _ H1.out).mono ?_
      rintro e w15 ⟨rfl, b14⟩
      replace s12 := s12.next b14
      clear b14 a0 a1 a2 a3 a4 a5
      obtain ⟨a0, a1, -, -⟩ := s12.two 4 rfl
      obtain ⟨a2, a3, -, -⟩ := s12.two 3 rfl
      obtain ⟨a4, a5, -, -⟩ := s12.two 2 rfl
      go_wp2_with fail
      refine (ldom_is A B F H true _ H2.out).mono ?_
      rintro e w17 ⟨rfl, b16⟩
      replace s12 := s12.next b16
      clear b16 a0 a1 a2 a3 a4 a5
      obtain ⟨a0, a1, -, -⟩ := s12.two 4 rfl
      obtain ⟨a2, a3, -, -⟩ := s12.two 3 rfl
      obtain ⟨a4, a5, -, -⟩ := s12.two 2 rfl
      go_wp2_with fail
      refine (ldom_is A B F H true _ H4.out).mono ?_
      rintro e w19 ⟨rfl, b18⟩
      replace s12 := s12.next b18
      clear b18 a0 a1 a2 a3 a4 a5
      obtain ⟨a0, a1, -, -⟩ := s12.two 4 rfl
      obtain ⟨a2, a3, -, -⟩ := s12.two 3 rfl
      obtain ⟨a4, a5, -, -⟩ := s12.two 2 rfl
      go_wp2_with fail
      refine (ldom_is A B A B true _ H1.out).mono ?_
      rintro e w21 ⟨rfl, b20⟩
      replace s12 := s12.next b20
      clear b20 a0 a1 a2 a3 a4 a5
      obtain ⟨a0, a1, -, -⟩ := s12.two 4 rfl
      obtain ⟨a2, a3, -, -⟩ := s12.two 3 rfl
      obtain ⟨a4, a5, -, -⟩ := s12.two 2 rfl
      go_wp2_with fail
      refine (ldom_is A B A B true _ H3.out).mono ?_
      rintro e w23 ⟨rfl, b22⟩
      replace s12 := s12.next b22
      clear b22 a0 a1 a2 a3 a4 a5
      obtain ⟨a0, a1, -, -⟩ := s12.two 4 rfl
      obtain ⟨a2, a3, -, -⟩ := s12.two 3 rfl
      obtain ⟨a4, a5, -, -⟩ := s12.two 2 rfl
      go_wp2_with fail
      go_meet
      case rel => exact ⟨rfl, s12⟩
  case rest =>
    clear s12 HW HP
    obtain ⟨rfl, s12⟩ := hcut
    have hl : lD F H A B = true ∧ lD F H C D = true ∧ lD F H J K = true ∨ lD F H A B = true ∧ lD F H C D = false ∧ lD F H J K = false ∨ lD F H A B = false ∧ lD F H J K = false := by
      rcases HL.out with ⟨h1, h2⟩ | ⟨h1, h2⟩
      · cases h3 : lD F H J K
        · rw [h3] at h2; exact .inr (.inl ⟨h1, h2, rfl⟩)
        · rw [h3] at h2; exact .inl ⟨h1, h2, rfl⟩
      · exact .inr (.inr ⟨h1, h2⟩)
    clear HL
    rcases hl with ⟨h1, h2, h3⟩ | ⟨h1, h2, h3⟩ | ⟨h1, h3⟩
    · rcases HE.out with he | he | he
      all_goals clear HE
      · obtain ⟨h4, hj, hk⟩ := he
        have hj := hj.symm; subst hj
        have hk := hk.symm; subst hk
        have H1 := Lib.hid h1; clear h1
        have H2 := Lib.hid h2; clear h2
        have H3 := Lib.hid h3; clear h3
        have H4 := Lib.hid h4; clear h4
        obtain ⟨a0, a1, a2, a3, a4, a5, a6, a7, hS⟩ := s12.five
        clear s12
        go_wp2_with fail
        go_region_held3 (fun w' => w'.cell? ⟨p0, 0, none⟩ = some (.int .i64 A) ∧ w'.cell? ⟨p0, 1, none⟩ = some (.int .i64 B) ∧ w'.cell? ⟨p1, 0, none⟩ = some (.int .i64 C) ∧ w'.cell? ⟨p1, 1, none⟩ = some (.int .i64 D) ∧ w'.cell? ⟨p2, 0, none⟩ = some (.int .i64 F) ∧ w'.cell? ⟨p2, 1, none⟩ = some (.int .i64 H) ∧ w'.cell? ⟨p3, 0, none⟩ = some (.int .i64 A) ∧ w'.cell? ⟨p3, 1, none⟩ = some (.int .i64 B) ∧ Bks 23 w w' [(p4, [.int .i64 A, .int .i64 B]), (p3, [.int .i64 A, .int .i64 B]), (p2, [.int .i64 F, .int .i64 H]), (p1, [.int .i64 C, .int .i64 D]), (p0, [.int .i64 A, .int .i64 B])])
            ((go_split_ands; refine Bks.five ?_; (first | assumption | (exact Bks.drew (by assumption)) | (refine Bks.next ?_ (by assumption); assumption))))
            (((go_at_call 10; refine (ldom_any _ _ _ _ _).mono ?_; rintro e w' ⟨rfl, hb⟩; (first | rw [H1.out] | rw [H2.out] | rw [H3.out] | rw [H4.out]))))
        all_goals
          have hEnd : Bks 23 w w' [(p4, [.int .i64 A, .int .i64 B]), (p3, [.int .i64 A, .int .i64 B]), (p2, [.int .i64 F, .int .i64 H]), (p1, [.int .i64 C, .int .i64 D]), (p0, [.int .i64 A, .int .i64 B])] := by go_split_ands; assumption
          have hB := hEnd.below
          clear hEnd
          go_wp2_with fail
          go_ret
          exact ⟨rfl, hB⟩
      · obtain ⟨h4, hj⟩ := he
        have H1 := Lib.hid h1; clear h1
        have H2 := Lib.hid h2; clear h2
        have H3 := Lib.hid h3; clear h3
        have H4 := Lib.hid h4; clear h4
        obtain ⟨a0, a1, a2, a3, a4, a5, a6, a7, hS⟩ := s12.five
        clear s12
        go_wp2_with fail
        go_region_held3 (fun w' => w'.cell? ⟨p0, 0, none⟩ = some (.int .i64 A) ∧ w'.cell? ⟨p0, 1, none⟩ = some (.int .i64 B) ∧ w'.cell? ⟨p1, 0, none⟩ = some (.int .i64 C) ∧ w'.cell? ⟨p1, 1, none⟩ = some (.int .i64 D) ∧ w'.cell? ⟨p2, 0, none⟩ = some (.int .i64 F) ∧ w'.cell? ⟨p2, 1, none⟩ = some (.int .i64 H) ∧ w'.cell? ⟨p3, 0, none⟩ = some (.int .i64 J) ∧ w'.cell? ⟨p3, 1, none⟩ = some (.int .i64 K) ∧ Bks 23 w w' [(p4, [.int .i64 J, .int .i64 K]), (p3, [.int .i64 J, .int .i64 K]), (p2, [.int .i64 F, .int .i64 H]), (p1, [.int .i64 C, .int .i64 D]), (p0, [.int .i64 A, .int .i64 B])])
            ((go_split_ands; refine Bks.five ?_; (first | assumption | (exact Bks.drew (by assumption)) | (refine Bks.next ?_ (by assumption); assumption))))
            (((go_at_call 10; refine (ldom_any _ _ _ _ _).mono ?_; rintro e w' ⟨rfl, hb⟩; (first | rw [H1.out] | rw [H2.out] | rw [H3.out] | rw [H4.out]))))
        all_goals
          have hEnd : Bks 23 w w' [(p4, [.int .i64 J, .int .i64 K]), (p3, [.int .i64 J, .int .i64 K]), (p2, [.int .i64 F, .int .i64 H]), (p1, [.int .i64 C, .int .i64 D]), (p0, [.int .i64 A, .int .i64 B])] := by go_split_ands; assumption
          have hB := hEnd.below
          clear hEnd
          go_wp2_with fail
          go_ret
          exact ⟨rfl, hB⟩
      · obtain ⟨h4, hj, hk⟩ := he
        have hj := hj.symm; subst hj
        have H1 := Lib.hid h1; clear h1
        have H2 := Lib.hid h2; clear h2
        have H3 := Lib.hid h3; clear h3
        have H4 := Lib.hid h4; clear h4
        obtain ⟨a0, a1, a2, a3, a4, a5, a6, a7, hS⟩ := s12.five
        clear s12
        go_wp2_with fail
        go_region_held3 (fun w' => w'.cell? ⟨p0, 0, none⟩ = some (.int .i64 A) ∧ w'.cell? ⟨p0, 1, none⟩ = some (.int .i64 B) ∧ w'.cell? ⟨p1, 0, none⟩ = some (.int .i64 C) ∧ w'.cell? ⟨p1, 1, none⟩ = some (.int .i64 D) ∧ w'.cell? ⟨p2, 0, none⟩ = some (.int .i64 F) ∧ w'.cell? ⟨p2, 1, none⟩ = some (.int .i64 H) ∧ w'.cell? ⟨p3, 0, none⟩ = some (.int .i64 A) ∧ w'.cell? ⟨p3, 1, none⟩ = some (.int .i64 K) ∧ Bks 23 w w' [(p4, [.int .i64 A, .int .i64 K]), (p3, [.int .i64 A, .int .i64 K]), (p2, [.int .i64 F, .int .i64 H]), (p1, [.int .i64 C, .int .i64 D]), (p0, [.int .i64 A, .int .i64 B])])
            ((go_split_ands; refine Bks.five ?_; (first | assumption | (exact Bks.drew (by assumption)) | (refine Bks.next ?_ (by assumption); assumption))))
            (((go_at_call 10; refine (ldom_any _ _ _ _ _).mono ?_; rintro e w' ⟨rfl, hb⟩; (first | rw [H1.out] | rw [H2.out] | rw [H3.out] | rw [H4.out]))))
        all_goals
          have hEnd : Bks 23 w w' [(p4, [.int .i64 A, .int .i64 K]), (p3, [.int .i64 A, .int .i64 K]), (p2, [.int .i64 F, .int .i64 H]), (p1, [.int .i64 C, .int .i64 D]), (p0, [.int .i64 A, .int .i64 B])] := by go_split_ands; assumption
          have hB := hEnd.below
          clear hEnd
          go_wp2_with fail
          go_ret
          exact ⟨rfl, hB⟩
    · rcases HE.out with he | he | he
      all_goals clear HE
      · obtain ⟨h4, hj, hk⟩ := he
        rw [hj, hk, h1] at h3
        cases h3
      · obtain ⟨h4, hj⟩ := he
        have H1 := Lib.hid h1; clear h1
        have H2 := Lib.hid h2; clear h2
        have H3 := Lib.hid h3; clear h3
        have H4 := Lib.hid h4; clear h4
        obtain ⟨a0, a1, a2, a3, a4, a5, a6, a7, hS⟩ := s12.five
        clear s12
        go_wp2_with fail
        go_region_held3 (fun w' => w'.cell? ⟨p0, 0, none⟩ = some (.int .i64 A) ∧ w'.cell? ⟨p0, 1, none⟩ = some (.int .i64 B) ∧ w'.cell? ⟨p1, 0, none⟩ = some (.int .i64 C) ∧ w'.cell? ⟨p1, 1, none⟩ = some (.int .i64 D) ∧ w'.cell? ⟨p2, 0, none⟩ = some (.int .i64 F) ∧ w'.cell? ⟨p2, 1, none⟩ = some (.int .i64 H) ∧ w'.cell? ⟨p3, 0, none⟩ = some (.int .i64 J) ∧ w'.cell? ⟨p3, 1, none⟩ = some (.int .i64 K) ∧ Bks 23 w w' [(p4, [.int .i64 J, .int .i64 K]), (p3, [.int .i64 J, .int .i64 K]), (p2, [.int .i64 F, .int .i64 H]), (p1, [.int .i64 C, .int .i64 D]), (p0, [.int .i64 A, .int .i64 B])])
            ((go_split_ands; refine Bks.five ?_; (first | assumption | (exact Bks.drew (by assumption)) | (refine Bks.next ?_ (by assumption); assumption))))
            (((go_at_call 10; refine (ldom_any _ _ _ _ _).mono ?_; rintro e w' ⟨rfl, hb⟩; (first | rw [H1.out] | rw [H2.out] | rw [H3.out] | rw [H4.out]))))
        all_goals
          have hEnd : Bks 23 w w' [(p4, [.int .i64 J, .int .i64 K]), (p3, [.int .i64 J, .int .i64 K]), (p2, [.int .i64 F, .int .i64 H]), (p1, [.int .i64 C, .int .i64 D]), (p0, [.int .i64 A, .int .i64 B])] := by go_split_ands; assumption
          have hB := hEnd.below
          clear hEnd
          go_wp2_with fail
          go_ret
          exact ⟨rfl, hB⟩
      · obtain ⟨h4, hj, hk⟩ := he
        have hj := hj.symm; subst hj
        have H1 := Lib.hid h1; clear h1
        have H2 := Lib.hid h2; clear h2
        have H3 := Lib.hid h3; clear h3
        have H4 := Lib.hid h4; clear h4
        obtain ⟨a0, a1, a2, a3, a4, a5, a6, a7, hS⟩ := s12.five
        clear s12
        go_wp2_with fail
        go_region_held3 (fun w' => w'.cell? ⟨p0, 0, none⟩ = some (.int .i64 A) ∧ w'.cell? ⟨p0, 1, none⟩ = some (.int .i64 B) ∧ w'.cell? ⟨p1, 0, none⟩ = some (.int .i64 C) ∧ w'.cell? ⟨p1, 1, none⟩ = some (.int .i64 D) ∧ w'.cell? ⟨p2, 0, none⟩ = some (.int .i64 F) ∧ w'.cell? ⟨p2, 1, none⟩ = some (.int .i64 H) ∧ w'.cell? ⟨p3, 0, none⟩ = some (.int .i64 A) ∧ w'.cell? ⟨p3, 1, none⟩ = some (.int .i64 K) ∧ Bks 23 w w' [(p4, [.int .i64 A, .int .i64 K]), (p3, [.int .i64 A, .int .i64 K]), (p2, [.int .i64 F, .int .i64 H]), (p1, [.int .i64 C, .int .i64 D]), (p0, [.int .i64 A, .int .i64 B])])
            ((go_split_ands; refine Bks.five ?_; (first | assumption | (exact Bks.drew (by assumption)) | (refine Bks.next ?_ (by assumption); assumption))))
            (((go_at_call 10; refine (ldom_any _ _ _ _ _).mono ?_; rintro e w' ⟨rfl, hb⟩; (first | rw [H1.out] | rw [H2.out] | rw [H3.out] | rw [H4.out]))))
        all_goals
          have hEnd : Bks 23 w w' [(p4, [.int .i64 A, .int .i64 K]), (p3, [.int .i64 A, .int .i64 K]), (p2, [.int .i64 F, .int .i64 H]), (p1, [.int .i64 C, .int .i64 D]), (p0, [.int .i64 A, .int .i64 B])] := by go_split_ands; assumption
          have hB := hEnd.below
          clear hEnd
          go_wp2_with fail
          go_ret
          exact ⟨rfl, hB⟩
    · rcases HE.out with he | he | he
      all_goals clear HE
      · obtain ⟨h4, hj, hk⟩ := he
        have hj := hj.symm; subst hj
        have hk := hk.symm; subst hk
        have H1 := Lib.hid h1; clear h1
        have H3 := Lib.hid h3; clear h3
        have H4 := Lib.hid h4; clear h4
        obtain ⟨a0, a1, a2, a3, a4, a5, a6, a7, hS⟩ := s12.five
        clear s12
        go_wp2_with fail
        refine wp_region_held_drew (S := (fun w' => w'.cell? ⟨p0, 0, none⟩ = some (.int .i64 A) ∧ w'.cell? ⟨p0, 1, none⟩ = some (.int .i64 B) ∧ w'.cell? ⟨p1, 0, none⟩ = some (.int .i64 C) ∧ w'.cell? ⟨p1, 1, none⟩ = some (.int .i64 D) ∧ w'.cell? ⟨p2, 0, none⟩ = some (.int .i64 F) ∧ w'.cell? ⟨p2, 1, none⟩ = some (.int .i64 H) ∧ w'.cell? ⟨p3, 0, none⟩ = some (.int .i64 A) ∧ w'.cell? ⟨p3, 1, none⟩ = some (.int .i64 B) ∧ Bks 23 w w' [(p4, [.int .i64 A, .int .i64 B]), (p3, [.int .i64 A, .int .i64 B]), (p2, [.int .i64 F, .int .i64 H]), (p1, [.int .i64 C, .int .i64 D]), (p0, [.int .i64 A, .int .i64 B])])) (by kernel_rfl) ?_ (fun hHeld => ?_)
        · try dsimp only
          go_split_ands; refine Bks.five ?_; (first | assumption | (exact Bks.drew (by assumption)) | (refine Bks.next ?_ (by assumption); assumption))
        refine wpAnyH_take (i := 0) (v := ?v0zT) rfl (by kernel_rfl) (by kernel_rfl) (by kernel_rfl) (fun _ _ _ h => h) (Or.inl ⟨by rfl, ?hy0zT⟩) (by assumption) ?rest0zT
        case hy0zT => intro w hSw; (try dsimp only at hSw); first | (go_simp; done) | (go_simp; with_reducible rfl)
        try simp only [Act.put, List.getElem_toArray, List.getElem_cons_succ, List.getElem_cons_zero, List.setIfInBounds_toArray, List.set_cons_zero, List.set_cons_succ]
        refine wpAnyH_take (i := 1) (v := ?v1zT) rfl (by kernel_rfl) (by kernel_rfl) (by kernel_rfl) (fun _ _ _ h => h) (Or.inl ⟨by rfl, ?hy1zT⟩) (by assumption) ?rest1zT
        case hy1zT => intro w hSw; (try dsimp only at hSw); first | (go_simp; done) | (go_simp; with_reducible rfl)
        try simp only [Act.put, List.getElem_toArray, List.getElem_cons_succ, List.getElem_cons_zero, List.setIfInBounds_toArray, List.set_cons_zero, List.set_cons_succ]
        refine wpAnyH_take (i := 8) (v := ?v8zT) rfl (by kernel_rfl) (by kernel_rfl) (by kernel_rfl) (fun _ _ _ h => h) (Or.inl ⟨by rfl, ?hy8zT⟩) (by assumption) ?rest8zT
        case hy8zT => intro w hSw; (try dsimp only at hSw); first | (go_simp; done) | (go_simp; with_reducible rfl)
        try simp only [Act.put, List.getElem_toArray, List.getElem_cons_succ, List.getElem_cons_zero, List.setIfInBounds_toArray, List.set_cons_zero, List.set_cons_succ]
        refine wpAnyH_take (i := 9) (v := ?v9zT) rfl (by kernel_rfl) (by kernel_rfl) (by kernel_rfl) (fun _ _ _ h => h) (Or.inl ⟨by rfl, ?hy9zT⟩) (by assumption) ?rest9zT
        case hy9zT => intro w hSw; (try dsimp only at hSw); first | (go_simp; done) | (go_simp; with_reducible rfl)
        try simp only [Act.put, List.getElem_toArray, List.getElem_cons_succ, List.getElem_cons_zero, List.setIfInBounds_toArray, List.set_cons_zero, List.set_cons_succ]
        refine wpAnyH_ready (rs := [2]) (by kernel_rfl) (by simp) ?_
        refine AllReadyH.cons rfl (fun K hK => ?_) AllReadyH.nil
        go_simp
        refine (ldom_any _ _ _ _ _).mono ?_
        rintro e w' ⟨rfl, hb⟩
        first | rw [H1.out] | rw [H3.out] | rw [H4.out]
        go_wp2_with fail
        refine hK.out _ _ ?_ (fun hHeld2 => ?_)
        · try dsimp only
          go_split_ands; refine Bks.five ?_; (first | assumption | (exact Bks.drew (by assumption)) | (refine Bks.next ?_ (by assumption); assumption))
        clear hK K hHeld
        have hHeld := hHeld2; clear hHeld2
        try simp only [Act.put, List.getElem_toArray, List.getElem_cons_succ, List.getElem_cons_zero, List.setIfInBounds_toArray, List.set_cons_zero, List.set_cons_succ]
        refine wpAnyH_take (i := 3) (v := ?v3zT) rfl (by kernel_rfl) (by kernel_rfl) (by kernel_rfl) (fun _ _ _ h => h) (Or.inl ⟨by rfl, ?hy3zT⟩) (by assumption) ?rest3zT
        case hy3zT => intro w hSw; (try dsimp only at hSw); first | (go_simp; done) | (go_simp; with_reducible rfl)
        try simp only [Act.put, List.getElem_toArray, List.getElem_cons_succ, List.getElem_cons_zero, List.setIfInBounds_toArray, List.set_cons_zero, List.set_cons_succ]
        refine wpAnyH_take (i := 4) (v := undef) rfl (by kernel_rfl) (by kernel_rfl) (by kernel_rfl) (fun _ _ _ h => h) (Or.inr ⟨by rfl, rfl⟩) (by assumption) ?rest4zT
        try simp only [Act.put, List.getElem_toArray, List.getElem_cons_succ, List.getElem_cons_zero, List.setIfInBounds_toArray, List.set_cons_zero, List.set_cons_succ]
        refine wpAnyH_take (i := 5) (v := undef) rfl (by kernel_rfl) (by kernel_rfl) (by kernel_rfl) (fun _ _ _ h => h) (Or.inr ⟨by rfl, rfl⟩) (by assumption) ?rest5zT
        try simp only [Act.put, List.getElem_toArray, List.getElem_cons_succ, List.getElem_cons_zero, List.setIfInBounds_toArray, List.set_cons_zero, List.set_cons_succ]
        refine wpAnyH_take (i := 6) (v := undef) rfl (by kernel_rfl) (by kernel_rfl) (by kernel_rfl) (fun _ _ _ h => h) (Or.inr ⟨by rfl, rfl⟩) (by assumption) ?rest6zT
        try simp only [Act.put, List.getElem_toArray, List.getElem_cons_succ, List.getElem_cons_zero, List.setIfInBounds_toArray, List.set_cons_zero, List.set_cons_succ]
        refine wpAnyH_take (i := 7) (v := ?v7zT) rfl (by kernel_rfl) (by kernel_rfl) (by kernel_rfl) (fun _ _ _ h => h) (Or.inl ⟨by rfl, ?hy7zT⟩) (by assumption) ?rest7zT
        case hy7zT => intro w hSw; (try dsimp only at hSw); first | (go_simp; done) | (go_simp; with_reducible rfl)
        try simp only [Act.put, List.getElem_toArray, List.getElem_cons_succ, List.getElem_cons_zero, List.setIfInBounds_toArray, List.set_cons_zero, List.set_cons_succ]
        refine wpAnyH_ready (rs := [10]) (by kernel_rfl) (by simp) ?_
        refine AllReadyH.cons rfl (fun K hK => ?_) AllReadyH.nil
        go_simp
        refine (ldom_any _ _ _ _ _).mono ?_
        rintro e w' ⟨rfl, hb⟩
        first | rw [H1.out] | rw [H3.out] | rw [H4.out]
        go_wp2_with fail
        refine hK.out _ _ ?_ (fun hHeld2 => ?_)
        · try dsimp only
          go_split_ands; refine Bks.five ?_; (first | assumption | (exact Bks.drew (by assumption)) | (refine Bks.next ?_ (by assumption); assumption))
        clear hK K hHeld
        have hHeld := hHeld2; clear hHeld2
        try simp only [Act.put, List.getElem_toArray, List.getElem_cons_succ, List.getElem_cons_zero, List.setIfInBounds_toArray, List.set_cons_zero, List.set_cons_succ]
        refine wpAnyH_take (i := 11) (v := ?v11zT) rfl (by kernel_rfl) (by kernel_rfl) (by kernel_rfl) (fun _ _ _ h => h) (Or.inl ⟨by rfl, ?hy11zT⟩) (by assumption) ?rest11zT
        case hy11zT => intro w hSw; (try dsimp only at hSw); first | (go_simp; done) | (go_simp; with_reducible rfl)
        try simp only [Act.put, List.getElem_toArray, List.getElem_cons_succ, List.getElem_cons_zero, List.setIfInBounds_toArray, List.set_cons_zero, List.set_cons_succ]
        refine wpAnyH_take (i := 12) (v := ?v12zT) rfl (by kernel_rfl) (by kernel_rfl) (by kernel_rfl) (fun _ _ _ h => h) (Or.inl ⟨by rfl, ?hy12zT⟩) (by assumption) ?rest12zT
        case hy12zT => intro w hSw; (try dsimp only at hSw); first | (go_simp; done) | (go_simp; with_reducible rfl)
        try simp only [Act.put, List.getElem_toArray, List.getElem_cons_succ, List.getElem_cons_zero, List.setIfInBounds_toArray, List.set_cons_zero, List.set_cons_succ]
        refine wpAnyH_take (i := 13) (v := ?v13zT) rfl (by kernel_rfl) (by kernel_rfl) (by kernel_rfl) (fun _ _ _ h => h) (Or.inl ⟨by rfl, ?hy13zT⟩) (by assumption) ?rest13zT
        case hy13zT => intro w hSw; (try dsimp only at hSw); first | (go_simp; done) | (go_simp; with_reducible rfl)
        try simp only [Act.put, List.getElem_toArray, List.getElem_cons_succ, List.getElem_cons_zero, List.setIfInBounds_toArray, List.set_cons_zero, List.set_cons_succ]
        refine wpAnyH_take (i := 14) (v := ?v14zT) rfl (by kernel_rfl) (by kernel_rfl) (by kernel_rfl) (fun _ _ _ h => h) (Or.inl ⟨by rfl, ?hy14zT⟩) (by assumption) ?rest14zT
        case hy14zT => intro w hSw; (try dsimp only at hSw); first | (go_simp; done) | (go_simp; with_reducible rfl)
        try simp only [Act.put, List.getElem_toArray, List.getElem_cons_succ, List.getElem_cons_zero, List.setIfInBounds_toArray, List.set_cons_zero, List.set_cons_succ]
        refine wpAnyH_take (i := 16) (v := ?v16zT) rfl (by kernel_rfl) (by kernel_rfl) (by kernel_rfl) (fun _ _ _ h => h) (Or.inl ⟨by rfl, ?hy16zT⟩) (by assumption) ?rest16zT
        case hy16zT => intro w hSw; (try dsimp only at hSw); first | (go_simp; done) | (go_simp; with_reducible rfl)
        try simp only [Act.put, List.getElem_toArray, List.getElem_cons_succ, List.getElem_cons_zero, List.setIfInBounds_toArray, List.set_cons_zero, List.set_cons_succ]
        refine wpAnyH_take (i := 17) (v := ?v17zT) rfl (by kernel_rfl) (by kernel_rfl) (by kernel_rfl) (fun _ _ _ h => h) (Or.inl ⟨by rfl, ?hy17zT⟩) (by assumption) ?rest17zT
        case hy17zT => intro w hSw; (try dsimp only at hSw); first | (go_simp; done) | (go_simp; with_reducible rfl)
        try simp only [Act.put, List.getElem_toArray, List.getElem_cons_succ, List.getElem_cons_zero, List.setIfInBounds_toArray, List.set_cons_zero, List.set_cons_succ]
        refine wpAnyH_take (i := 18) (v := ?v18zT) rfl (by kernel_rfl) (by kernel_rfl) (by kernel_rfl) (fun _ _ _ h => h) (Or.inl ⟨by rfl, ?hy18zT⟩) (by assumption) ?rest18zT
        case hy18zT => intro w hSw; (try dsimp only at hSw); first | (go_simp; done) | (go_simp; with_reducible rfl)
        try simp only [Act.put, List.getElem_toArray, List.getElem_cons_succ, List.getElem_cons_zero, List.setIfInBounds_toArray, List.set_cons_zero, List.set_cons_succ]
        refine wpAnyH_ready (rs := [15]) (by kernel_rfl) (by simp) ?_
        refine AllReadyH.cons rfl (fun K hK => ?_) AllReadyH.nil
        go_simp
        refine (ldom_any _ _ _ _ _).mono ?_
        rintro e w' ⟨rfl, hb⟩
        first | rw [H1.out] | rw [H3.out] | rw [H4.out]
        go_wp2_with fail
        refine hK.out _ _ ?_ (fun hHeld2 => ?_)
        · try dsimp only
          go_split_ands; refine Bks.five ?_; (first | assumption | (exact Bks.drew (by assumption)) | (refine Bks.next ?_ (by assumption); assumption))
        clear hK K hHeld
        have hHeld := hHeld2; clear hHeld2
        try simp only [Act.put, List.getElem_toArray, List.getElem_cons_succ, List.getElem_cons_zero, List.setIfInBounds_toArray, List.set_cons_zero, List.set_cons_succ]
        refine wpAnyH_take (i := 19) (v := ?v19zT) rfl (by kernel_rfl) (by kernel_rfl) (by kernel_rfl) (fun _ _ _ h => h) (Or.inl ⟨by rfl, ?hy19zT⟩) (by assumption) ?rest19zT
        case hy19zT => intro w hSw; (try dsimp only at hSw); first | (go_simp; done) | (go_simp; with_reducible rfl)
        try simp only [Act.put, List.getElem_toArray, List.getElem_cons_succ, List.getElem_cons_zero, List.setIfInBounds_toArray, List.set_cons_zero, List.set_cons_succ]
        refine wpAnyH_take (i := 20) (v := ?v20zT) rfl (by kernel_rfl) (by kernel_rfl) (by kernel_rfl) (fun _ _ _ h => h) (Or.inl ⟨by rfl, ?hy20zT⟩) (by assumption) ?rest20zT
        case hy20zT => intro w hSw; (try dsimp only at hSw); first | (go_simp; done) | (go_simp; with_reducible rfl)
        try simp only [Act.put, List.getElem_toArray, List.getElem_cons_succ, List.getElem_cons_zero, List.setIfInBounds_toArray, List.set_cons_zero, List.set_cons_succ]
        refine wpAnyH_take (i := 21) (v := ?v21zT) rfl (by kernel_rfl) (by kernel_rfl) (by kernel_rfl) (fun _ _ _ h => h) (Or.inl ⟨by rfl, ?hy21zT⟩) (by assumption) ?rest21zT
        case hy21zT => intro w hSw; (try dsimp only at hSw); first | (go_simp; done) | (go_simp; with_reducible rfl)
        try simp only [Act.put, List.getElem_toArray, List.getElem_cons_succ, List.getElem_cons_zero, List.setIfInBounds_toArray, List.set_cons_zero, List.set_cons_succ]
        refine wpAnyH_done (by kernel_rfl) ?_ _
        all_goals
          have hEnd : Bks 23 w w' [(p4, [.int .i64 A, .int .i64 B]), (p3, [.int .i64 A, .int .i64 B]), (p2, [.int .i64 F, .int .i64 H]), (p1, [.int .i64 C, .int .i64 D]), (p0, [.int .i64 A, .int .i64 B])] := by go_split_ands; assumption
          have hB := hEnd.below
          clear hEnd
          go_wp2_with fail
          go_ret
          exact ⟨rfl, hB⟩
      · obtain ⟨h4, hj⟩ := he
        have H1 := Lib.hid h1; clear h1
        have H3 := Lib.hid h3; clear h3
        have H4 := Lib.hid h4; clear h4
        obtain ⟨a0, a1, a2, a3, a4, a5, a6, a7, hS⟩ := s12.five
        clear s12
        go_wp2_with fail
        refine wp_region_held_drew (S := (fun w' => w'.cell? ⟨p0, 0, none⟩ = some (.int .i64 A) ∧ w'.cell? ⟨p0, 1, none⟩ = some (.int .i64 B) ∧ w'.cell? ⟨p1, 0, none⟩ = some (.int .i64 C) ∧ w'.cell? ⟨p1, 1, none⟩ = some (.int .i64 D) ∧ w'.cell? ⟨p2, 0, none⟩ = some (.int .i64 F) ∧ w'.cell? ⟨p2, 1, none⟩ = some (.int .i64 H) ∧ w'.cell? ⟨p3, 0, none⟩ = some (.int .i64 J) ∧ w'.cell? ⟨p3, 1, none⟩ = some (.int .i64 K) ∧ Bks 23 w w' [(p4, [.int .i64 J, .int .i64 K]), (p3, [.int .i64 J, .int .i64 K]), (p2, [.int .i64 F, .int .i64 H]), (p1, [.int .i64 C, .int .i64 D]), (p0, [.int .i64 A, .int .i64 B])])) (by kernel_rfl) ?_ (fun hHeld => ?_)
        · try dsimp only
          go_split_ands; refine Bks.five ?_; (first | assumption | (exact Bks.drew (by assumption)) | (refine Bks.next ?_ (by assumption); assumption))
        refine wpAnyH_take (i := 0) (v := ?v0zN1) rfl (by kernel_rfl) (by kernel_rfl) (by kernel_rfl) (fun _ _ _ h => h) (Or.inl ⟨by rfl, ?hy0zN1⟩) (by assumption) ?rest0zN1
        case hy0zN1 => intro w hSw; (try dsimp only at hSw); first | (go_simp; done) | (go_simp; with_reducible rfl)
        try simp only [Act.put, List.getElem_toArray, List.getElem_cons_succ, List.getElem_cons_zero, List.setIfInBounds_toArray, List.set_cons_zero, List.set_cons_succ]
        refine wpAnyH_take (i := 1) (v := ?v1zN1) rfl (by kernel_rfl) (by kernel_rfl) (by kernel_rfl) (fun _ _ _ h => h) (Or.inl ⟨by rfl, ?hy1zN1⟩) (by assumption) ?rest1zN1
        case hy1zN1 => intro w hSw; (try dsimp only at hSw); first | (go_simp; done) | (go_simp; with_reducible rfl)
        try simp only [Act.put, List.getElem_toArray, List.getElem_cons_succ, List.getElem_cons_zero, List.setIfInBounds_toArray, List.set_cons_zero, List.set_cons_succ]
        refine wpAnyH_take (i := 8) (v := ?v8zN1) rfl (by kernel_rfl) (by kernel_rfl) (by kernel_rfl) (fun _ _ _ h => h) (Or.inl ⟨by rfl, ?hy8zN1⟩) (by assumption) ?rest8zN1
        case hy8zN1 => intro w hSw; (try dsimp only at hSw); first | (go_simp; done) | (go_simp; with_reducible rfl)
        try simp only [Act.put, List.getElem_toArray, List.getElem_cons_succ, List.getElem_cons_zero, List.setIfInBounds_toArray, List.set_cons_zero, List.set_cons_succ]
        refine wpAnyH_take (i := 9) (v := ?v9zN1) rfl (by kernel_rfl) (by kernel_rfl) (by kernel_rfl) (fun _ _ _ h => h) (Or.inl ⟨by rfl, ?hy9zN1⟩) (by assumption) ?rest9zN1
        case hy9zN1 => intro w hSw; (try dsimp only at hSw); first | (go_simp; done) | (go_simp; with_reducible rfl)
        try simp only [Act.put, List.getElem_toArray, List.getElem_cons_succ, List.getElem_cons_zero, List.setIfInBounds_toArray, List.set_cons_zero, List.set_cons_succ]
        refine wpAnyH_ready (rs := [2]) (by kernel_rfl) (by simp) ?_
        refine AllReadyH.cons rfl (fun K hK => ?_) AllReadyH.nil
        go_simp
        refine (ldom_any _ _ _ _ _).mono ?_
        rintro e w' ⟨rfl, hb⟩
        first | rw [H1.out] | rw [H3.out] | rw [H4.out]
        go_wp2_with fail
        refine hK.out _ _ ?_ (fun hHeld2 => ?_)
        · try dsimp only
          go_split_ands; refine Bks.five ?_; (first | assumption | (exact Bks.drew (by assumption)) | (refine Bks.next ?_ (by assumption); assumption))
        clear hK K hHeld
        have hHeld := hHeld2; clear hHeld2
        try simp only [Act.put, List.getElem_toArray, List.getElem_cons_succ, List.getElem_cons_zero, List.setIfInBounds_toArray, List.set_cons_zero, List.set_cons_succ]
        refine wpAnyH_take (i := 3) (v := ?v3zN1) rfl (by kernel_rfl) (by kernel_rfl) (by kernel_rfl) (fun _ _ _ h => h) (Or.inl ⟨by rfl, ?hy3zN1⟩) (by assumption) ?rest3zN1
        case hy3zN1 => intro w hSw; (try dsimp only at hSw); first | (go_simp; done) | (go_simp; with_reducible rfl)
        try simp only [Act.put, List.getElem_toArray, List.getElem_cons_succ, List.getElem_cons_zero, List.setIfInBounds_toArray, List.set_cons_zero, List.set_cons_succ]
        refine wpAnyH_take (i := 4) (v := undef) rfl (by kernel_rfl) (by kernel_rfl) (by kernel_rfl) (fun _ _ _ h => h) (Or.inr ⟨by rfl, rfl⟩) (by assumption) ?rest4zN1
        try simp only [Act.put, List.getElem_toArray, List.getElem_cons_succ, List.getElem_cons_zero, List.setIfInBounds_toArray, List.set_cons_zero, List.set_cons_succ]
        refine wpAnyH_take (i := 5) (v := undef) rfl (by kernel_rfl) (by kernel_rfl) (by kernel_rfl) (fun _ _ _ h => h) (Or.inr ⟨by rfl, rfl⟩) (by assumption) ?rest5zN1
        try simp only [Act.put, List.getElem_toArray, List.getElem_cons_succ, List.getElem_cons_zero, List.setIfInBounds_toArray, List.set_cons_zero, List.set_cons_succ]
        refine wpAnyH_take (i := 6) (v := undef) rfl (by kernel_rfl) (by kernel_rfl) (by kernel_rfl) (fun _ _ _ h => h) (Or.inr ⟨by rfl, rfl⟩) (by assumption) ?rest6zN1
        try simp only [Act.put, List.getElem_toArray, List.getElem_cons_succ, List.getElem_cons_zero, List.setIfInBounds_toArray, List.set_cons_zero, List.set_cons_succ]
        refine wpAnyH_take (i := 7) (v := ?v7zN1) rfl (by kernel_rfl) (by kernel_rfl) (by kernel_rfl) (fun _ _ _ h => h) (Or.inl ⟨by rfl, ?hy7zN1⟩) (by assumption) ?rest7zN1
        case hy7zN1 => intro w hSw; (try dsimp only at hSw); first | (go_simp; done) | (go_simp; with_reducible rfl)
        try simp only [Act.put, List.getElem_toArray, List.getElem_cons_succ, List.getElem_cons_zero, List.setIfInBounds_toArray, List.set_cons_zero, List.set_cons_succ]
        refine wpAnyH_ready (rs := [10]) (by kernel_rfl) (by simp) ?_
        refine AllReadyH.cons rfl (fun K hK => ?_) AllReadyH.nil
        go_simp
        refine (ldom_any _ _ _ _ _).mono ?_
        rintro e w' ⟨rfl, hb⟩
        first | rw [H1.out] | rw [H3.out] | rw [H4.out]
        go_wp2_with fail
        refine hK.out _ _ ?_ (fun hHeld2 => ?_)
        · try dsimp only
          go_split_ands; refine Bks.five ?_; (first | assumption | (exact Bks.drew (by assumption)) | (refine Bks.next ?_ (by assumption); assumption))
        clear hK K hHeld
        have hHeld := hHeld2; clear hHeld2
        try simp only [Act.put, List.getElem_toArray, List.getElem_cons_succ, List.getElem_cons_zero, List.setIfInBounds_toArray, List.set_cons_zero, List.set_cons_succ]
        refine wpAnyH_take (i := 11) (v := ?v11zN1) rfl (by kernel_rfl) (by kernel_rfl) (by kernel_rfl) (fun _ _ _ h => h) (Or.inl ⟨by rfl, ?hy11zN1⟩) (by assumption) ?rest11zN1
        case hy11zN1 => intro w hSw; (try dsimp only at hSw); first | (go_simp; done) | (go_simp; with_reducible rfl)
        try simp only [Act.put, List.getElem_toArray, List.getElem_cons_succ, List.getElem_cons_zero, List.setIfInBounds_toArray, List.set_cons_zero, List.set_cons_succ]
        refine wpAnyH_take (i := 12) (v := ?v12zN1) rfl (by kernel_rfl) (by kernel_rfl) (by kernel_rfl) (fun _ _ _ h => h) (Or.inl ⟨by rfl, ?hy12zN1⟩) (by assumption) ?rest12zN1
        case hy12zN1 => intro w hSw; (try dsimp only at hSw); first | (go_simp; done) | (go_simp; with_reducible rfl)
        try simp only [Act.put, List.getElem_toArray, List.getElem_cons_succ, List.getElem_cons_zero, List.setIfInBounds_toArray, List.set_cons_zero, List.set_cons_succ]
        refine wpAnyH_take (i := 13) (v := ?v13zN1) rfl (by kernel_rfl) (by kernel_rfl) (by kernel_rfl) (fun _ _ _ h => h) (Or.inl ⟨by rfl, ?hy13zN1⟩) (by assumption) ?rest13zN1
        case hy13zN1 => intro w hSw; (try dsimp only at hSw); first | (go_simp; done) | (go_simp; with_reducible rfl)
        try simp only [Act.put, List.getElem_toArray, List.getElem_cons_succ, List.getElem_cons_zero, List.setIfInBounds_toArray, List.set_cons_zero, List.set_cons_succ]
        refine wpAnyH_take (i := 14) (v := ?v14zN1) rfl (by kernel_rfl) (by kernel_rfl) (by kernel_rfl) (fun _ _ _ h => h) (Or.inl ⟨by rfl, ?hy14zN1⟩) (by assumption) ?rest14zN1
        case hy14zN1 => intro w hSw; (try dsimp only at hSw); first | (go_simp; done) | (go_simp; with_reducible rfl)
        try simp only [Act.put, List.getElem_toArray, List.getElem_cons_succ, List.getElem_cons_zero, List.setIfInBounds_toArray, List.set_cons_zero, List.set_cons_succ]
        refine wpAnyH_take (i := 16) (v := ?v16zN1) rfl (by kernel_rfl) (by kernel_rfl) (by kernel_rfl) (fun _ _ _ h => h) (Or.inl ⟨by rfl, ?hy16zN1⟩) (by assumption) ?rest16zN1
        case hy16zN1 => intro w hSw; (try dsimp only at hSw); first | (go_simp; done) | (go_simp; with_reducible rfl)
        try simp only [Act.put, List.getElem_toArray, List.getElem_cons_succ, List.getElem_cons_zero, List.setIfInBounds_toArray, List.set_cons_zero, List.set_cons_succ]
        refine wpAnyH_take (i := 17) (v := ?v17zN1) rfl (by kernel_rfl) (by kernel_rfl) (by kernel_rfl) (fun _ _ _ h => h) (Or.inl ⟨by rfl, ?hy17zN1⟩) (by assumption) ?rest17zN1
        case hy17zN1 => intro w hSw; (try dsimp only at hSw); first | (go_simp; done) | (go_simp; with_reducible rfl)
        try simp only [Act.put, List.getElem_toArray, List.getElem_cons_succ, List.getElem_cons_zero, List.setIfInBounds_toArray, List.set_cons_zero, List.set_cons_succ]
        refine wpAnyH_take (i := 18) (v := ?v18zN1) rfl (by kernel_rfl) (by kernel_rfl) (by kernel_rfl) (fun _ _ _ h => h) (Or.inl ⟨by rfl, ?hy18zN1⟩) (by assumption) ?rest18zN1
        case hy18zN1 => intro w hSw; (try dsimp only at hSw); first | (go_simp; done) | (go_simp; with_reducible rfl)
        try simp only [Act.put, List.getElem_toArray, List.getElem_cons_succ, List.getElem_cons_zero, List.setIfInBounds_toArray, List.set_cons_zero, List.set_cons_succ]
        refine wpAnyH_ready (rs := [15]) (by kernel_rfl) (by simp) ?_
        refine AllReadyH.cons rfl (fun K hK => ?_) AllReadyH.nil
        go_simp
        refine (ldom_any _ _ _ _ _).mono ?_
        rintro e w' ⟨rfl, hb⟩
        first | rw [H1.out] | rw [H3.out] | rw [H4.out]
        go_wp2_with fail
        refine hK.out _ _ ?_ (fun hHeld2 => ?_)
        · try dsimp only
          go_split_ands; refine Bks.five ?_; (first | assumption | (exact Bks.drew (by assumption)) | (refine Bks.next ?_ (by assumption); assumption))
        clear hK K hHeld
        have hHeld := hHeld2; clear hHeld2
        try simp only [Act.put, List.getElem_toArray, List.getElem_cons_succ, List.getElem_cons_zero, List.setIfInBounds_toArray, List.set_cons_zero, List.set_cons_succ]
        refine wpAnyH_take (i := 19) (v := ?v19zN1) rfl (by kernel_rfl) (by kernel_rfl) (by kernel_rfl) (fun _ _ _ h => h) (Or.inl ⟨by rfl, ?hy19zN1⟩) (by assumption) ?rest19zN1
        case hy19zN1 => intro w hSw; (try dsimp only at hSw); first | (go_simp; done) | (go_simp; with_reducible rfl)
        try simp only [Act.put, List.getElem_toArray, List.getElem_cons_succ, List.getElem_cons_zero, List.setIfInBounds_toArray, List.set_cons_zero, List.set_cons_succ]
        refine wpAnyH_take (i := 20) (v := ?v20zN1) rfl (by kernel_rfl) (by kernel_rfl) (by kernel_rfl) (fun _ _ _ h => h) (Or.inl ⟨by rfl, ?hy20zN1⟩) (by assumption) ?rest20zN1
        case hy20zN1 => intro w hSw; (try dsimp only at hSw); first | (go_simp; done) | (go_simp; with_reducible rfl)
        try simp only [Act.put, List.getElem_toArray, List.getElem_cons_succ, List.getElem_cons_zero, List.setIfInBounds_toArray, List.set_cons_zero, List.set_cons_succ]
        refine wpAnyH_take (i := 21) (v := ?v21zN1) rfl (by kernel_rfl) (by kernel_rfl) (by kernel_rfl) (fun _ _ _ h => h) (Or.inl ⟨by rfl, ?hy21zN1⟩) (by assumption) ?rest21zN1
        case hy21zN1 => intro w hSw; (try dsimp only at hSw); first | (go_simp; done) | (go_simp; with_reducible rfl)
        try simp only [Act.put, List.getElem_toArray, List.getElem_cons_succ, List.getElem_cons_zero, List.setIfInBounds_toArray, List.set_cons_zero, List.set_cons_succ]
        refine wpAnyH_done (by kernel_rfl) ?_ _
        all_goals
          have hEnd : Bks 23 w w' [(p4, [.int .i64 J, .int .i64 K]), (p3, [.int .i64 J, .int .i64 K]), (p2, [.int .i64 F, .int .i64 H]), (p1, [.int .i64 C, .int .i64 D]), (p0, [.int .i64 A, .int .i64 B])] := by go_split_ands; assumption
          have hB := hEnd.below
          clear hEnd
          go_wp2_with fail
          go_ret
          exact ⟨rfl, hB⟩
      · obtain ⟨h4, hj, hk⟩ := he
        have hj := hj.symm; subst hj
        have H1 := Lib.hid h1; clear h1
        have H3 := Lib.hid h3; clear h3
        have H4 := Lib.hid h4; clear h4
        obtain ⟨a0, a1, a2, a3, a4, a5, a6, a7, hS⟩ := s12.five
        clear s12
        go_wp2_with fail
        refine wp_region_held_drew (S := (fun w' => w'.cell? ⟨p0, 0, none⟩ = some (.int .i64 A) ∧ w'.cell? ⟨p0, 1, none⟩ = some (.int .i64 B) ∧ w'.cell? ⟨p1, 0, none⟩ = some (.int .i64 C) ∧ w'.cell? ⟨p1, 1, none⟩ = some (.int .i64 D) ∧ w'.cell? ⟨p2, 0, none⟩ = some (.int .i64 F) ∧ w'.cell? ⟨p2, 1, none⟩ = some (.int .i64 H) ∧ w'.cell? ⟨p3, 0, none⟩ = some (.int .i64 A) ∧ w'.cell? ⟨p3, 1, none⟩ = some (.int .i64 K) ∧ Bks 23 w w' [(p4, [.int .i64 A, .int .i64 K]), (p3, [.int .i64 A, .int .i64 K]), (p2, [.int .i64 F, .int .i64 H]), (p1, [.int .i64 C, .int .i64 D]), (p0, [.int .i64 A, .int .i64 B])])) (by kernel_rfl) ?_ (fun hHeld => ?_)
        · try dsimp only
          go_split_ands; refine Bks.five ?_; (first | assumption | (exact Bks.drew (by assumption)) | (refine Bks.next ?_ (by assumption); assumption))
        refine wpAnyH_take (i := 0) (v := ?v0zN2) rfl (by kernel_rfl) (by kernel_rfl) (by kernel_rfl) (fun _ _ _ h => h) (Or.inl ⟨by rfl, ?hy0zN2⟩) (by assumption) ?rest0zN2
        case hy0zN2 => intro w hSw; (try dsimp only at hSw); first | (go_simp; done) | (go_simp; with_reducible rfl)
        try simp only [Act.put, List.getElem_toArray, List.getElem_cons_succ, List.getElem_cons_zero, List.setIfInBounds_toArray, List.set_cons_zero, List.set_cons_succ]
        refine wpAnyH_take (i := 1) (v := ?v1zN2) rfl (by kernel_rfl) (by kernel_rfl) (by kernel_rfl) (fun _ _ _ h => h) (Or.inl ⟨by rfl, ?hy1zN2⟩) (by assumption) ?rest1zN2
        case hy1zN2 => intro w hSw; (try dsimp only at hSw); first | (go_simp; done) | (go_simp; with_reducible rfl)
        try simp only [Act.put, List.getElem_toArray, List.getElem_cons_succ, List.getElem_cons_zero, List.setIfInBounds_toArray, List.set_cons_zero, List.set_cons_succ]
        refine wpAnyH_take (i := 8) (v := ?v8zN2) rfl (by kernel_rfl) (by kernel_rfl) (by kernel_rfl) (fun _ _ _ h => h) (Or.inl ⟨by rfl, ?hy8zN2⟩) (by assumption) ?rest8zN2
        case hy8zN2 => intro w hSw; (try dsimp only at hSw); first | (go_simp; done) | (go_simp; with_reducible rfl)
        try simp only [Act.put, List.getElem_toArray, List.getElem_cons_succ, List.getElem_cons_zero, List.setIfInBounds_toArray, List.set_cons_zero, List.set_cons_succ]
        refine wpAnyH_take (i := 9) (v := ?v9zN2) rfl (by kernel_rfl) (by kernel_rfl) (by kernel_rfl) (fun _ _ _ h => h) (Or.inl ⟨by rfl, ?hy9zN2⟩) (by assumption) ?rest9zN2
        case hy9zN2 => intro w hSw; (try dsimp only at hSw); first | (go_simp; done) | (go_simp; with_reducible rfl)
        try simp only [Act.put, List.getElem_toArray, List.getElem_cons_succ, List.getElem_cons_zero, List.setIfInBounds_toArray, List.set_cons_zero, List.set_cons_succ]
        refine wpAnyH_ready (rs := [2]) (by kernel_rfl) (by simp) ?_
        refine AllReadyH.cons rfl (fun K hK => ?_) AllReadyH.nil
        go_simp
        refine (ldom_any _ _ _ _ _).mono ?_
        rintro e w' ⟨rfl, hb⟩
        first | rw [H1.out] | rw [H3.out] | rw [H4.out]
        go_wp2_with fail
        refine hK.out _ _ ?_ (fun hHeld2 => ?_)
        · try dsimp only
          go_split_ands; refine Bks.five ?_; (first | assumption | (exact Bks.drew (by assumption)) | (refine Bks.next ?_ (by assumption); assumption))
        clear hK K hHeld
        have hHeld := hHeld2; clear hHeld2
        try simp only [Act.put, List.getElem_toArray, List.getElem_cons_succ, List.getElem_cons_zero, List.setIfInBounds_toArray, List.set_cons_zero, List.set_cons_succ]
        refine wpAnyH_take (i := 3) (v := ?v3zN2) rfl (by kernel_rfl) (by kernel_rfl) (by kernel_rfl) (fun _ _ _ h => h) (Or.inl ⟨by rfl, ?hy3zN2⟩) (by assumption) ?rest3zN2
        case hy3zN2 => intro w hSw; (try dsimp only at hSw); first | (go_simp; done) | (go_simp; with_reducible rfl)
        try simp only [Act.put, List.getElem_toArray, List.getElem_cons_succ, List.getElem_cons_zero, List.setIfInBounds_toArray, List.set_cons_zero, List.set_cons_succ]
        refine wpAnyH_take (i := 4) (v := undef) rfl (by kernel_rfl) (by kernel_rfl) (by kernel_rfl) (fun _ _ _ h => h) (Or.inr ⟨by rfl, rfl⟩) (by assumption) ?rest4zN2
        try simp only [Act.put, List.getElem_toArray, List.getElem_cons_succ, List.getElem_cons_zero, List.setIfInBounds_toArray, List.set_cons_zero, List.set_cons_succ]
        refine wpAnyH_take (i := 5) (v := undef) rfl (by kernel_rfl) (by kernel_rfl) (by kernel_rfl) (fun _ _ _ h => h) (Or.inr ⟨by rfl, rfl⟩) (by assumption) ?rest5zN2
        try simp only [Act.put, List.getElem_toArray, List.getElem_cons_succ, List.getElem_cons_zero, List.setIfInBounds_toArray, List.set_cons_zero, List.set_cons_succ]
        refine wpAnyH_take (i := 6) (v := undef) rfl (by kernel_rfl) (by kernel_rfl) (by kernel_rfl) (fun _ _ _ h => h) (Or.inr ⟨by rfl, rfl⟩) (by assumption) ?rest6zN2
        try simp only [Act.put, List.getElem_toArray, List.getElem_cons_succ, List.getElem_cons_zero, List.setIfInBounds_toArray, List.set_cons_zero, List.set_cons_succ]
        refine wpAnyH_take (i := 7) (v := ?v7zN2) rfl (by kernel_rfl) (by kernel_rfl) (by kernel_rfl) (fun _ _ _ h => h) (Or.inl ⟨by rfl, ?hy7zN2⟩) (by assumption) ?rest7zN2
        case hy7zN2 => intro w hSw; (try dsimp only at hSw); first | (go_simp; done) | (go_simp; with_reducible rfl)
        try simp only [Act.put, List.getElem_toArray, List.getElem_cons_succ, List.getElem_cons_zero, List.setIfInBounds_toArray, List.set_cons_zero, List.set_cons_succ]
        refine wpAnyH_ready (rs := [10]) (by kernel_rfl) (by simp) ?_
        refine AllReadyH.cons rfl (fun K hK => ?_) AllReadyH.nil
        go_simp
        refine (ldom_any _ _ _ _ _).mono ?_
        rintro e w' ⟨rfl, hb⟩
        first | rw [H1.out] | rw [H3.out] | rw [H4.out]
        go_wp2_with fail
        refine hK.out _ _ ?_ (fun hHeld2 => ?_)
        · try dsimp only
          go_split_ands; refine Bks.five ?_; (first | assumption | (exact Bks.drew (by assumption)) | (refine Bks.next ?_ (by assumption); assumption))
        clear hK K hHeld
        have hHeld := hHeld2; clear hHeld2
        try simp only [Act.put, List.getElem_toArray, List.getElem_cons_succ, List.getElem_cons_zero, List.setIfInBounds_toArray, List.set_cons_zero, List.set_cons_succ]
        refine wpAnyH_take (i := 11) (v := ?v11zN2) rfl (by kernel_rfl) (by kernel_rfl) (by kernel_rfl) (fun _ _ _ h => h) (Or.inl ⟨by rfl, ?hy11zN2⟩) (by assumption) ?rest11zN2
        case hy11zN2 => intro w hSw; (try dsimp only at hSw); first | (go_simp; done) | (go_simp; with_reducible rfl)
        try simp only [Act.put, List.getElem_toArray, List.getElem_cons_succ, List.getElem_cons_zero, List.setIfInBounds_toArray, List.set_cons_zero, List.set_cons_succ]
        refine wpAnyH_take (i := 12) (v := ?v12zN2) rfl (by kernel_rfl) (by kernel_rfl) (by kernel_rfl) (fun _ _ _ h => h) (Or.inl ⟨by rfl, ?hy12zN2⟩) (by assumption) ?rest12zN2
        case hy12zN2 => intro w hSw; (try dsimp only at hSw); first | (go_simp; done) | (go_simp; with_reducible rfl)
        try simp only [Act.put, List.getElem_toArray, List.getElem_cons_succ, List.getElem_cons_zero, List.setIfInBounds_toArray, List.set_cons_zero, List.set_cons_succ]
        refine wpAnyH_take (i := 13) (v := ?v13zN2) rfl (by kernel_rfl) (by kernel_rfl) (by kernel_rfl) (fun _ _ _ h => h) (Or.inl ⟨by rfl, ?hy13zN2⟩) (by assumption) ?rest13zN2
        case hy13zN2 => intro w hSw; (try dsimp only at hSw); first | (go_simp; done) | (go_simp; with_reducible rfl)
        try simp only [Act.put, List.getElem_toArray, List.getElem_cons_succ, List.getElem_cons_zero, List.setIfInBounds_toArray, List.set_cons_zero, List.set_cons_succ]
        refine wpAnyH_take (i := 14) (v := ?v14zN2) rfl (by kernel_rfl) (by kernel_rfl) (by kernel_rfl) (fun _ _ _ h => h) (Or.inl ⟨by rfl, ?hy14zN2⟩) (by assumption) ?rest14zN2
        case hy14zN2 => intro w hSw; (try dsimp only at hSw); first | (go_simp; done) | (go_simp; with_reducible rfl)
        try simp only [Act.put, List.getElem_toArray, List.getElem_cons_succ, List.getElem_cons_zero, List.setIfInBounds_toArray, List.set_cons_zero, List.set_cons_succ]
        refine wpAnyH_take (i := 16) (v := ?v16zN2) rfl (by kernel_rfl) (by kernel_rfl) (by kernel_rfl) (fun _ _ _ h => h) (Or.inl ⟨by rfl, ?hy16zN2⟩) (by assumption) ?rest16zN2
        case hy16zN2 => intro w hSw; (try dsimp only at hSw); first | (go_simp; done) | (go_simp; with_reducible rfl)
        try simp only [Act.put, List.getElem_toArray, List.getElem_cons_succ, List.getElem_cons_zero, List.setIfInBounds_toArray, List.set_cons_zero, List.set_cons_succ]
        refine wpAnyH_take (i := 17) (v := ?v17zN2) rfl (by kernel_rfl) (by kernel_rfl) (by kernel_rfl) (fun _ _ _ h => h) (Or.inl ⟨by rfl, ?hy17zN2⟩) (by assumption) ?rest17zN2
        case hy17zN2 => intro w hSw; (try dsimp only at hSw); first | (go_simp; done) | (go_simp; with_reducible rfl)
        try simp only [Act.put, List.getElem_toArray, List.getElem_cons_succ, List.getElem_cons_zero, List.setIfInBounds_toArray, List.set_cons_zero, List.set_cons_succ]
        refine wpAnyH_take (i := 18) (v := ?v18zN2) rfl (by kernel_rfl) (by kernel_rfl) (by kernel_rfl) (fun _ _ _ h => h) (Or.inl ⟨by rfl, ?hy18zN2⟩) (by assumption) ?rest18zN2
        case hy18zN2 => intro w hSw; (try dsimp only at hSw); first | (go_simp; done) | (go_simp; with_reducible rfl)
        try simp only [Act.put, List.getElem_toArray, List.getElem_cons_succ, List.getElem_cons_zero, List.setIfInBounds_toArray, List.set_cons_zero, List.set_cons_succ]
        refine wpAnyH_ready (rs := [15]) (by kernel_rfl) (by simp) ?_
        refine AllReadyH.cons rfl (fun K hK => ?_) AllReadyH.nil
        go_simp
        refine (ldom_any _ _ _ _ _).mono ?_
        rintro e w' ⟨rfl, hb⟩
        first | rw [H1.out] | rw [H3.out] | rw [H4.out]
        go_wp2_with fail
        refine hK.out _ _ ?_ (fun hHeld2 => ?_)
        · try dsimp only
          go_split_ands; refine Bks.five ?_; (first | assumption | (exact Bks.drew (by assumption)) | (refine Bks.next ?_ (by assumption); assumption))
        clear hK K hHeld
        have hHeld := hHeld2; clear hHeld2
        try simp only [Act.put, List.getElem_toArray, List.getElem_cons_succ, List.getElem_cons_zero, List.setIfInBounds_toArray, List.set_cons_zero, List.set_cons_succ]
        refine wpAnyH_take (i := 19) (v := ?v19zN2) rfl (by kernel_rfl) (by kernel_rfl) (by kernel_rfl) (fun _ _ _ h => h) (Or.inl ⟨by rfl, ?hy19zN2⟩) (by assumption) ?rest19zN2
        case hy19zN2 => intro w hSw; (try dsimp only at hSw); first | (go_simp; done) | (go_simp; with_reducible rfl)
        try simp only [Act.put, List.getElem_toArray, List.getElem_cons_succ, List.getElem_cons_zero, List.setIfInBounds_toArray, List.set_cons_zero, List.set_cons_succ]
        refine wpAnyH_take (i := 20) (v := ?v20zN2) rfl (by kernel_rfl) (by kernel_rfl) (by kernel_rfl) (fun _ _ _ h => h) (Or.inl ⟨by rfl, ?hy20zN2⟩) (by assumption) ?rest20zN2
        case hy20zN2 => intro w hSw; (try dsimp only at hSw); first | (go_simp; done) | (go_simp; with_reducible rfl)
        try simp only [Act.put, List.getElem_toArray, List.getElem_cons_succ, List.getElem_cons_zero, List.setIfInBounds_toArray, List.set_cons_zero, List.set_cons_succ]
        refine wpAnyH_take (i := 21) (v := ?v21zN2) rfl (by kernel_rfl) (by kernel_rfl) (by kernel_rfl) (fun _ _ _ h => h) (Or.inl ⟨by rfl, ?hy21zN2⟩) (by assumption) ?rest21zN2
        case hy21zN2 => intro w hSw; (try dsimp only at hSw); first | (go_simp; done) | (go_simp; with_reducible rfl)
        try simp only [Act.put, List.getElem_toArray, List.getElem_cons_succ, List.getElem_cons_zero, List.setIfInBounds_toArray, List.set_cons_zero, List.set_cons_succ]
        refine wpAnyH_done (by kernel_rfl) ?_ _
        all_goals
          have hEnd : Bks 23 w w' [(p4, [.int .i64 A, .int .i64 K]), (p3, [.int .i64 A, .int .i64 K]), (p2, [.int .i64 F, .int .i64 H]), (p1, [.int .i64 C, .int .i64 D]), (p0, [.int .i64 A, .int .i64 B])] := by go_split_ands; assumption
          have hB := hEnd.below
          clear hEnd
          go_wp2_with fail
          go_ret
          exact ⟨rfl, hB⟩

end Go.Proofs.Ytllppgjddboelaa
