/-
  Layer 18's law ExtentForms: it answers true for every input.
-/
import Derived.Test.YtegclnaibbkelaaExAwake
import Derived.Test.YtegclnaibbkelaaEx3
import Derived.Deep.CutBlock
import Derived.Deep.DeepCutAuto
namespace Go.Proofs.Ytegclnaibbkelaa
open Go.RowKit
set_option linter.unusedVariables false
set_option linter.unusedSimpArgs false
set_option maxRecDepth 100000

theorem extmay_long (A : Option Addr) (n cap : Nat) (s : Int) (w : World) (h : 4 < n) (hn : n ≤ maxLen) :
    Calls Try.prog 11 #[.slice A n cap, .int .i64 s] w fun e w' => e = .returned (.bool false) ∧ Below w.heap.size w w' := by
  unfold maxLen at hn
  have h1 : 1 ≤ n := by omega
  go_enter Try.func11, Try.ntmps11
  go_wp2_with fail
  go_ret
  exact ⟨rfl, Below.refl _ _⟩
theorem to_long (A : Option Addr) (n cap : Nat) (part lba k : Int) (w : World) (h : 4 < n) (hn : n ≤ maxLen) :
    Calls Try.prog 8 #[.slice A n cap, .int .i64 part, .int .i64 lba, .int .i64 k] w fun e w' => e = .returned (.tuple #[.int .i64 0, .int .i64 1800]) ∧ Below w.heap.size w w' := by
  have HM := Lib.hid (extmay_long A n cap 64 w h hn)
  unfold maxLen at hn
  go_enter Try.func8, Try.ntmps8
  go_wp2_with fail
  refine HM.out.mono ?_
  rintro e w1 ⟨rfl, b1⟩
  have HB := Lib.hid b1
  clear b1
  go_wp2_with fail
  go_ret2
  exact ⟨rfl, HB.out⟩

theorem make_parts (n : Nat) (hn : n ≤ 65536) : ∃ MC : Array Value, ∀ W : World, (Instr.makeSlice 22 (.int .i64 (n : Int)) (.int .i64 (n : Int))).run Try.prog W = .ok (.slice (some ⟨W.heap.size, 0, none⟩) n n) (W.alloc (.cells MC 39)) := by
  obtain ⟨i0, hi, hz0, hz1, hz2⟩ := info_parts infoPart
  refine ⟨madeCells (Value.agg #[.int .i64 0, .int .i64 0, .slice none 0 0, .int .i64 0, .int .i64 0]).cells (n * i0.size), fun W => ?_⟩
  have := run_makeSlice (P := Try.prog) W 22 39 i0 _ Try.underlying22 hi hz0 .i64 .i64 n n (by omega) (by omega) (by rw [hz1]; omega) (by rw [hz2]; omega) (by omega)
  simp only [Int.toNat_natCast] at this
  exact this

theorem extB_no {ps : List (Int × Int)} {s : Int} (i : Nat) (hi : i < ps.length) (h : ¬ (0 ≤ (ps.getD i (0, 0)).1 ∧ 0 ≤ (ps.getD i (0, 0)).2 ∧ (ps.getD i (0, 0)).1 ≤ s ∧ (ps.getD i (0, 0)).2 ≤ s - (ps.getD i (0, 0)).1)) : extB ps s = false := by
  cases e : extB ps s
  · rfl
  · exact (h (extB_run e i hi)).elim

/-- What the two calls behind the law's switch answer. -/
def FmC (w : World) (V : Value) (P A K WN : Int) (RW : Bool) (wx : World) : Prop :=
  Below w.heap.size w wx ∧ ∀ W, Below wx.heap.size wx W →
    (Calls Try.prog 8 #[V, .int .i64 P, .int .i64 A, .int .i64 K] W fun e w' => e = .returned (.tuple #[.int .i64 0, .int .i64 WN]) ∧ Below W.heap.size W w') ∧
    (Calls Try.prog 11 #[V, .int .i64 8] W fun e w' => e = .returned (.bool (!RW)) ∧ Below W.heap.size W w')
theorem FmC.of {w wx : World} {V : Value} {P A K WN : Int} {RW : Bool} {ps : List (Int × Int)} (hb : Below w.heap.size w wx) (h : PtS wx V ps) (h1 : toC ps P A K = (0, WN)) (h2 : extB ps 8 = !RW) : FmC w V P A K WN RW wx :=
  ⟨hb, fun W hW => ⟨to_is _ ps _ _ _ W (h.below hW) _ _ h1, extmay_is _ ps _ W (h.below hW) _ h2⟩⟩
theorem FmC.raw {w wx : World} {V : Value} {P A K : Int} {ps : List (Int × Int)} (hb : Below w.heap.size w wx) (h : PtS wx V ps) (h64 : extB ps 64 = false) (h8 : extB ps 8 = false) : FmC w V P A K 1800 true wx :=
  FmC.of hb h (toC_form (.inl h64)) h8
theorem FmC.long {w wx : World} {X : Option Addr} {n cap : Nat} {P A K : Int} (hb : Below w.heap.size w wx) (h : 4 < n) (hn : n ≤ maxLen) : FmC w (.slice X n cap) P A K 1800 true wx :=
  ⟨hb, fun W hW => ⟨to_long _ _ _ _ _ _ W h hn, extmay_long _ _ _ _ W h hn⟩⟩

def fmP : List (Int × Int) := [(0, 4), (4, 4)]
theorem fmP_set3 (z : Int) : (zpl fmP).set 3 (.int .i64 z) = zpl [(z, 4), (4, 4)] := rfl
theorem fmP_set8 (z : Int) : (zpl fmP).set 8 (.int .i64 z) = zpl [(0, 4), (z, 4)] := rfl
theorem fmP_set9 (z : Int) : (zpl fmP).set 9 (.int .i64 z) = zpl [(0, 4), (4, z)] := rfl

theorem toC_no (A K : Int) (h : ¬ (0 ≤ A ∧ 0 ≤ K ∧ A ≤ 4 ∧ K ≤ 4 - A)) : toC fmP 1 A K = (0, 1801) := by
  have e : toC fmP 1 A K = if runB A K 4 = true then (4 + A, 0) else (0, 1801) := toC_at (ps := fmP) (p := 1) (by kernel_rfl) (by decide)
  rw [e, if_neg (show ¬ runB A K 4 = true from fun h2 => h (of_decide_eq_true h2))]

set_option maxHeartbeats 4000000 in
theorem law_ExtentForms (q y : Int) (wq : (Lit.int .i64 q).wf = true) (wy : (Lit.int .i64 y).wf = true) (w : World) :
    Calls Try.prog 5 #[.int .i64 q, .int .i64 y] w fun e w' => e = .returned (.bool true) ∧ Below w.heap.size w w' := by
  have hU := u64b q
  have hF := band y 1023 (by omega) (by omega)
  generalize hU' : IntKind.u64.wrap q = U at hU
  generalize hF' : bits BinOp.and IntKind.i64 y 1023 = F at hF
  obtain ⟨hU0, hU1⟩ := hU
  obtain ⟨hF0, hF1⟩ := hF
  have hI0 : 0 ≤ U % 13 := by omega
  have hI1 : U % 13 < 13 := by omega
  obtain ⟨d, hd⟩ := Int.eq_ofNat_of_zero_le (show 0 ≤ 1 + F by omega)
  have hd1 : 1 ≤ d := by omega
  have hd2 : d ≤ 1024 := by omega
  generalize hI' : U % 13 = I at hI0 hI1
  obtain ⟨I, rfl⟩ := Int.eq_ofNat_of_zero_le hI0
  clear wq wy
  go_enter Try.func5, Try.ntmps5
  go_wp2_with fail
  refine (exawake_any _).mono ?_
  rintro e w1 ⟨rfl, b1⟩
  have HB := Lib.hid b1
  have hw1 := b1.size
  clear b1
  go_wp2_with fail
  refine (to_is _ fmP _ _ _ _ (PtS.lit w1 fmP 39 (by decide)) 5 0 (by kernel_rfl)).mono ?_
  rintro e w2 ⟨rfl, b⟩
  have HK := Lib.hid ((Blk.new w1 39 (zpl fmP)).below b (by simp))
  have HB := Lib.hid (Below.down (HB.out.alloc HB.out.size _) b (HB.out.alloc HB.out.size _).size)
  have hgs := HK.out.lt
  clear b
  go_upto_block 0 with fail
  have hw2 := HB.out.size
  go_cut [6, 8, 9, 10, 13, 14] (fun v p a k wn rw wx => ∃ (V : Value) (P A K WN : Int) (RW : Bool), v = V ∧ p = .int .i64 P ∧ a = .int .i64 A ∧ k = .int .i64 K ∧ wn = .int .i64 WN ∧ rw = .bool RW ∧ Hid (FmC w V P A K WN RW wx))
  case first =>
    have c3 := trivial; have c8 := trivial; have c9 := trivial; have f3 := trivial; have f8 := trivial; have f9 := trivial
    rcases (show I = 0 ∨ I = 1 ∨ I = 2 ∨ I = 3 ∨ I = 4 ∨ I = 5 ∨ I = 6 ∨ I = 7 ∨ I = 8 ∨ I = 9 ∨ I = 10 ∨ I = 11 ∨ I = 12 by omega) with rfl | rfl | rfl | rfl | rfl | rfl | rfl | rfl | rfl | rfl | rfl | rfl | rfl
    · have HF := Lib.hid (FmC.raw (P := 1) (A := 1) (K := 2) HB.out (ps := []) (V := .slice none 0 0) (PtS.of_sl (n := 0) ⟨none, 0, rfl, Nat.le_refl _, rfl, fun h => absurd h (by omega)⟩ rfl (by decide)) (by kernel_rfl) (by kernel_rfl))
      go_wp2_with fail
      go_meet
      exact ⟨_, _, _, _, _, _, rfl, rfl, rfl, rfl, rfl, rfl, HF⟩
    · obtain ⟨MC, hmk⟩ := make_parts (4 + d) (by omega)
      have h4d : (4 : Int) + (d : Int) = ((4 + d : Nat) : Int) := by omega
      rw [← h4d] at hmk
      have HF := Lib.hid (FmC.long (P := 1) (A := 1) (K := 2) (X := some ⟨w2.heap.size, 0, none⟩) (n := 4 + d) (cap := 4 + d) (HB.out.alloc HB.out.size (.cells MC 39)) (by omega) (by unfold maxLen; omega))
      clear h4d
      go_wp2_with fail
      go_meet
      exact ⟨_, _, _, _, _, _, rfl, rfl, rfl, rfl, rfl, rfl, HF⟩
    · have HF := Lib.hid (FmC.raw (P := 1) (A := 1) (K := 2) (HB.out.setCell (p := ⟨w1.heap.size, 8, none⟩) hw1 (.int .i64 3)) (PtS.of_blk (n := 2) (by rw [← fmP_set8]; exact HK.out.set 8 (.int .i64 3)) rfl (by decide)) (by kernel_rfl) (by kernel_rfl))
      clear c3 c8 c9 f3 f8 f9
      have c0 := HK.out.cell 8
      have f0 := HK.out.frozen 8
      simp only [fmP, zpl, zpc, List.flatMap_cons, List.flatMap_nil, List.append_nil, List.cons_append, List.nil_append, List.getElem?_cons_zero, List.getElem?_cons_succ] at c0
      go_wp2_with fail
      go_meet
      exact ⟨_, _, _, _, _, _, rfl, rfl, rfl, rfl, rfl, rfl, HF⟩
    · have HF := Lib.hid (FmC.raw (P := 1) (A := 1) (K := 2) (HB.out.setCell (p := ⟨w1.heap.size, 3, none⟩) hw1 (.int .i64 (-(d : Int)))) (PtS.of_blk (n := 2) (by rw [← fmP_set3]; exact HK.out.set 3 (.int .i64 (-(d : Int)))) rfl (by decide)) (extB_no 0 (by simp) (by simp only [List.getD_cons_zero]; omega)) (extB_no 0 (by simp) (by simp only [List.getD_cons_zero]; omega)))
      clear c3 c8 c9 f3 f8 f9
      have c0 := HK.out.cell 3
      have f0 := HK.out.frozen 3
      simp only [fmP, zpl, zpc, List.flatMap_cons, List.flatMap_nil, List.append_nil, List.cons_append, List.nil_append, List.getElem?_cons_zero, List.getElem?_cons_succ] at c0
      go_wp2_with fail
      go_meet
      exact ⟨_, _, _, _, _, _, rfl, rfl, rfl, rfl, rfl, rfl, HF⟩
    · have HF := Lib.hid (FmC.raw (P := 1) (A := 1) (K := 2) (HB.out.setCell (p := ⟨w1.heap.size, 9, none⟩) hw1 (.int .i64 (-(d : Int)))) (PtS.of_blk (n := 2) (by rw [← fmP_set9]; exact HK.out.set 9 (.int .i64 (-(d : Int)))) rfl (by decide)) (extB_no 1 (by simp) (by simp only [List.getD_cons_succ, List.getD_cons_zero]; omega)) (extB_no 1 (by simp) (by simp only [List.getD_cons_succ, List.getD_cons_zero]; omega)))
      clear c3 c8 c9 f3 f8 f9
      have c0 := HK.out.cell 9
      have f0 := HK.out.frozen 9
      simp only [fmP, zpl, zpc, List.flatMap_cons, List.flatMap_nil, List.append_nil, List.cons_append, List.nil_append, List.getElem?_cons_zero, List.getElem?_cons_succ] at c0
      go_wp2_with fail
      go_meet
      exact ⟨_, _, _, _, _, _, rfl, rfl, rfl, rfl, rfl, rfl, HF⟩
    · have HF := Lib.hid (FmC.raw (P := 1) (A := 1) (K := 2) (HB.out.setCell (p := ⟨w1.heap.size, 9, none⟩) hw1 (.int .i64 4611686018427387904)) (PtS.of_blk (n := 2) (by rw [← fmP_set9]; exact HK.out.set 9 (.int .i64 4611686018427387904)) rfl (by decide)) (extB_no 1 (by simp) (by simp only [List.getD_cons_succ, List.getD_cons_zero]; omega)) (extB_no 1 (by simp) (by simp only [List.getD_cons_succ, List.getD_cons_zero]; omega)))
      clear c3 c8 c9 f3 f8 f9
      have c0 := HK.out.cell 9
      have f0 := HK.out.frozen 9
      simp only [fmP, zpl, zpc, List.flatMap_cons, List.flatMap_nil, List.append_nil, List.cons_append, List.nil_append, List.getElem?_cons_zero, List.getElem?_cons_succ] at c0
      go_wp2_with fail
      go_meet
      exact ⟨_, _, _, _, _, _, rfl, rfl, rfl, rfl, rfl, rfl, HF⟩
    · have HF := Lib.hid (FmC.raw (P := 1) (A := 1) (K := 2) (HB.out.setCell (p := ⟨w1.heap.size, 8, none⟩) hw1 (.int .i64 (64 + (d : Int)))) (PtS.of_blk (n := 2) (by rw [← fmP_set8]; exact HK.out.set 8 (.int .i64 (64 + (d : Int)))) rfl (by decide)) (extB_no 1 (by simp) (by simp only [List.getD_cons_succ, List.getD_cons_zero]; omega)) (extB_no 1 (by simp) (by simp only [List.getD_cons_succ, List.getD_cons_zero]; omega)))
      clear c3 c8 c9 f3 f8 f9
      have c0 := HK.out.cell 8
      have f0 := HK.out.frozen 8
      simp only [fmP, zpl, zpc, List.flatMap_cons, List.flatMap_nil, List.append_nil, List.cons_append, List.nil_append, List.getElem?_cons_zero, List.getElem?_cons_succ] at c0
      go_wp2_with fail
      go_meet
      exact ⟨_, _, _, _, _, _, rfl, rfl, rfl, rfl, rfl, rfl, HF⟩
    · have HF := Lib.hid (FmC.of (P := (1 + (d : Int))) (A := 1) (K := 2) (WN := 1800) (RW := false) HB.out (PtS.of_blk (n := 2) HK.out rfl (by decide)) (toC_form (.inr (by show ¬ (0 ≤ 1 + (d : Int) ∧ 1 + (d : Int) < 2); omega))) (by kernel_rfl))
      go_wp2_with fail
      go_meet
      exact ⟨_, _, _, _, _, _, rfl, rfl, rfl, rfl, rfl, rfl, HF⟩
    · have HF := Lib.hid (FmC.of (P := (-(d : Int))) (A := 1) (K := 2) (WN := 1800) (RW := false) HB.out (PtS.of_blk (n := 2) HK.out rfl (by decide)) (toC_form (.inr (by omega))) (by kernel_rfl))
      go_wp2_with fail
      go_meet
      exact ⟨_, _, _, _, _, _, rfl, rfl, rfl, rfl, rfl, rfl, HF⟩
    · have HF := Lib.hid (FmC.of (P := 1) (A := (-(d : Int))) (K := 2) (WN := 1801) (RW := false) HB.out (PtS.of_blk (n := 2) HK.out rfl (by decide)) (toC_no _ _ (by omega)) (by kernel_rfl))
      go_wp2_with fail
      go_meet
      exact ⟨_, _, _, _, _, _, rfl, rfl, rfl, rfl, rfl, rfl, HF⟩
    · have HF := Lib.hid (FmC.of (P := 1) (A := 1) (K := (3 + (d : Int))) (WN := 1801) (RW := false) HB.out (PtS.of_blk (n := 2) HK.out rfl (by decide)) (toC_no _ _ (by omega)) (by kernel_rfl))
      go_wp2_with fail
      go_meet
      exact ⟨_, _, _, _, _, _, rfl, rfl, rfl, rfl, rfl, rfl, HF⟩
    · have HF := Lib.hid (FmC.of (P := 1) (A := 4611686018427387904) (K := 4611686018427387904) (WN := 1801) (RW := false) HB.out (PtS.of_blk (n := 2) HK.out rfl (by decide)) (by kernel_rfl) (by kernel_rfl))
      go_wp2_with fail
      go_meet
      exact ⟨_, _, _, _, _, _, rfl, rfl, rfl, rfl, rfl, rfl, HF⟩
    · have HF := Lib.hid (FmC.of (P := 1) (A := 1) (K := (-(d : Int))) (WN := 1801) (RW := false) HB.out (PtS.of_blk (n := 2) HK.out rfl (by decide)) (toC_no _ _ (by omega)) (by kernel_rfl))
      go_wp2_with fail
      go_meet
      exact ⟨_, _, _, _, _, _, rfl, rfl, rfl, rfl, rfl, rfl, HF⟩
  case rest =>
    obtain ⟨V, P, A, K, WN, RW, rfl, rfl, rfl, rfl, rfl, rfl, HF⟩ := hcut
    have HB := Lib.hid HF.out.1
    have HC := Lib.hid HF.out.2
    clear HK HF
    generalize wc = w3 at *
    have e1 : (WN == WN) = true := by simp
    have e2 : ((!RW) == (!RW)) = true := by simp
    go_wp2_with fail
    refine (HC.out _ (Below.refl _ _)).1.mono ?_
    rintro e w4 ⟨rfl, b4⟩
    go_wp2_with fail
    refine (num_any _ _).mono ?_; rintro e w' ⟨rfl, rfl⟩
    go_wp2_with fail
    refine (HC.out _ b4).2.mono ?_
    rintro e w5 ⟨rfl, b5⟩
    have HB := Lib.hid (Below.down HB.out (Below.down b4 b5 b4.size) HB.out.size)
    clear b4 b5
    go_wp2_with fail
    refine (num_any _ _).mono ?_; rintro e w' ⟨rfl, rfl⟩
    have HN1 : Hid (extB [(0, 0)] (64 + (d : Int)) = false) := Lib.hid (by unfold extB; rw [decide_eq_false (show ¬ (0 ≤ 64 + (d : Int) ∧ 64 + (d : Int) ≤ 64) by omega)]; simp)
    have HN2 : Hid (extB [(0, 0)] (-(d : Int)) = false) := Lib.hid (by unfold extB; rw [decide_eq_false (show ¬ (0 ≤ -(d : Int) ∧ -(d : Int) ≤ 64) by omega)]; simp)
    go_wp2_with fail
    refine (extmay_is _ _ _ _ (PtS.lit w5 [(0, 0)] 39 (by decide)) false HN1.out).mono ?_
    rintro e w6 ⟨rfl, b⟩
    have HB := Lib.hid (Below.down (HB.out.alloc HB.out.size _) b (HB.out.alloc HB.out.size _).size)
    clear b
    go_wp2_with fail
    refine (extmay_is _ _ _ _ (PtS.lit w6 [(0, 0)] 39 (by decide)) false HN2.out).mono ?_
    rintro e w7 ⟨rfl, b⟩
    have HB := Lib.hid (Below.down (HB.out.alloc HB.out.size _) b (HB.out.alloc HB.out.size _).size)
    clear b
    go_wp2_with fail
    go_ret
    exact ⟨rfl, HB.out⟩

end Go.Proofs.Ytegclnaibbkelaa
