/-
  Layer 7's law Iommus: one act of both.
-/
import Derived.Test.YtggdbiniklchoaaIoW
import Derived.Test.YtggdbiniklchoaaIor5
import Derived.Test.YtggdbiniklchoaaIor6
import Derived.Test.YtggdbiniklchoaaAddrAll
import Derived.Test.YtggdbiniklchoaaIop12
import Derived.Test.YtggdbiniklchoaaNum
import Derived.StillTailTactics
namespace Go.Proofs.Ytggdbiniklchoaa
open Go.RowKit
set_option linter.unusedVariables false
set_option linter.unusedSimpArgs false
set_option maxRecDepth 100000

section
variable {w0 w w' : World} {g x t y r b B : Nat} {v : Value} {ps : List (List Int)} {l l' : List UInt8}
/-- The document's call turns its memory's bytes: the program's stays. -/
theorem Wd.fr {cs : List Value} (h : Wd w0 g x t ps l w) (gr : w.grownBy w' (some b)) (hb : Blk w b 5 cs) (wb : w0.heap.size ≤ b) : Wd w0 g x t ps l w' := by
  obtain ⟨B', v', i⟩ := h.ix
  obtain ⟨L, ⟨z, qz, hp⟩, hL⟩ := h.cw
  obtain ⟨m, rs, q1, q2, q3, q4, hg⟩ := i.pm
  have ne : ∀ {k : Nat} {T : TypeId} {cs' : List Value}, Blk w k T cs' → T ≠ 5 → some k ≠ some b := fun hk hT e => hk.apart hb hT (by injection e)
  exact ⟨⟨B', v', ⟨i.sx.grown gr (ne i.sx (by decide)), i.pl.grown gr hb (by decide), ⟨m, rs, q1, q2, q3, q4, hg.grown gr (ne hg (by decide))⟩, i.n1, i.n4, i.lens, i.inr⟩⟩, ⟨L, ⟨z, qz, hp.grown gr (ne hp (by decide))⟩, hL⟩, bone h.b gr h.b.size wb, h.wg, h.wt⟩
/-- The program's call turns its memory and its cache: the document's stays. -/
theorem Rx.fr (h : Rx B w y r b v ps l) (k : Wd w0 g x t ps l' w) (tn : Tn g t w w') : Rx B w' y r b v ps l := by
  obtain ⟨B', v', i⟩ := k.ix
  obtain ⟨L, ⟨z, qz, hp⟩, hL⟩ := k.cw
  obtain ⟨m, rs, q1, q2, q3, q4, hg⟩ := i.pm
  have st : ∀ {k : Nat} {T : TypeId} {cs' : List Value}, Blk w k T cs' → T ≠ 57 → T ≠ 100 → Blk w' k T cs' := fun hk h1 h2 => tn.blk hk (hk.apart hg h1) (hk.apart hp h2)
  exact ⟨st h.sx (by decide) (by decide), h.pl.tn tn hg hp (by decide) (by decide), ⟨h.rm.1, h.rm.2.1, st h.rm.2.2.1 (by decide) (by decide), st h.rm.2.2.2 (by decide) (by decide)⟩, h.n1, h.n4, h.lens, h.inr⟩
/-- Both, saying the same. -/
structure Bo (w0 : World) (g x t y r b B : Nat) (v : Value) (ps : List (List Int)) (l : List UInt8) (w : World) : Prop where
  wd : Wd w0 g x t ps l w
  rx : Rx B w y r b v ps l
  wb : w0.heap.size ≤ b
theorem Bo.below (h : Bo w0 g x t y r b B v ps l w) (hb : Below w.heap.size w w') : Bo w0 g x t y r b B v ps l w' := ⟨h.wd.below hb, h.rx.below hb (Nat.le_refl _), h.wb⟩
theorem Bo.drewN (h : Bo w0 g x t y r b B v ps l w) (n : Nat) : Bo w0 g x t y r b B v ps l (w.drewN n) := ⟨h.wd.drewN n, h.rx.drewN n, h.wb⟩
theorem Bo.next (wd : Wd w0 g x t ps l' w) (rx' : Rx B w' y r b v ps l') (gr : w.grownBy w' (some b)) (rx : Rx B w y r b v ps l) (wb : w0.heap.size ≤ b) : Bo w0 g x t y r b B v ps l' w' :=
  ⟨wd.fr gr rx.rm.2.2.2 wb, rx', wb⟩
end
section
variable {w0 w w' : World} {g x t y r b B : Nat} {v : Value} {ps : List (List Int)} {l l' : List UInt8}
/-- The law's own word, put into the program's memory. -/
theorem put_w (A X c : Int) (h : Wd w0 g x t ps l w) (hc : errC (pwB l.length A X) = c) (hl : pwL l A X = l') :
    Calls Try.prog 37 #[.pointer (some ⟨g, 0, none⟩), .int .i64 A, .int .i64 X] w fun e w' => e = .returned (.int .i64 c) ∧ Wd w0 g x t ps l' w' ∧ Tn g t w w' := by
  subst hc hl
  refine (pputword_any g l A X w h.pm).mono ?_
  rintro e w' ⟨he, hp, hg⟩
  obtain ⟨B', v', i⟩ := h.ix
  have tn := (Tn.refl g t w).fst hg
  obtain ⟨m, rs, q1, q2, q3, q4, hgm⟩ := i.pm
  have i' : Ix B' w' x g t v' ps (pwL l A X) := ⟨i.sx.grown hg (fun e => i.sx.apart hgm (by decide) (by injection e)), i.pl.grown hg hgm (by decide), hp, i.n1, i.n4, i.lens, fun p hp f hf => by have := i.inr p hp f hf; unfold Proofs.Ytggdbiniklchoaa.frs at *; rw [pwL_len]; exact this⟩
  exact ⟨he, h.next i' (h.cw.mem i hg) tn, tn⟩
theorem trP_len (ps : List (List Int)) (l : List UInt8) (d a k : Int) (write : Bool) : (ioTrP ps l d a k write).length ≤ 65536 := by
  cases hB : ioTrB ps d a k with
  | false =>
    have e1 : ioTrC ps l d a k write = 700 := by unfold ioTrC; rw [hB]; rfl
    have e2 : ioTrP ps l d a k write = [] := by unfold ioTrP; rw [e1]; rfl
    rw [e2]; simp
  | true =>
    unfold ioTrB thB mayB at hB
    simp only [Bool.and_eq_true, decide_eq_true_eq] at hB
    obtain ⟨⟨_, h2, h3⟩, h4, _, h5, h6⟩ := hB
    obtain ⟨a, rfl⟩ := Int.eq_ofNat_of_zero_le h4
    obtain ⟨k, rfl⟩ := Int.eq_ofNat_of_zero_le (by omega : 0 ≤ k)
    unfold ioTrP
    split
    · have := spl_len k a
      simp only [List.length_map, Int.toNat_natCast]
      omega
    · simp
/-- A row of pieces written over. -/
theorem Bo.sp {C n : Nat} {u : Value} {xs : List Value} (h : Bo w0 g x t y r b B v ps l w) (ho : w.ownsRow C 65 3 u n xs) (gr : w.grownBy w' u.ownBlock) (hC : w0.heap.size ≤ C) : Bo w0 g x t y r b B v ps l w' := by
  cases hu : u.ownBlock with
  | none =>
    rw [hu] at gr
    exact h.below ⟨gr.os, gr.tape, gr.output, gr.size, fun k hk => gr.block k hk (by simp)⟩
  | some k =>
    obtain ⟨cs, hb⟩ := own_blk ho hu
    have hCk := (ho.lt k hu).1
    rw [hu] at gr
    obtain ⟨B', v', i⟩ := h.wd.ix
    obtain ⟨L, ⟨z, qz, hp⟩, hL⟩ := h.wd.cw
    obtain ⟨m, rs, q1, q2, q3, q4, hg⟩ := i.pm
    have ne : ∀ {k' : Nat} {T : TypeId} {cs' : List Value}, Blk w k' T cs' → T ≠ 65 → some k' ≠ some k := fun hk hT e => hk.apart hb hT (by injection e)
    refine ⟨⟨⟨B', v', ⟨i.sx.grown gr (ne i.sx (by decide)), i.pl.grown gr hb (by decide), ⟨m, rs, q1, q2, q3, q4, hg.grown gr (ne hg (by decide))⟩, i.n1, i.n4, i.lens, i.inr⟩⟩, ⟨L, ⟨z, qz, hp.grown gr (ne hp (by decide))⟩, hL⟩, bone h.wd.b gr h.wd.b.size (by omega), h.wd.wg, h.wd.wt⟩, ?_, h.wb⟩
    have hr := h.rx
    exact ⟨hr.sx.grown gr (ne hr.sx (by decide)), hr.pl.grown gr hb (by decide), hr.rm.grown gr (ne hr.rm.2.2.1 (by decide)) (ne hr.rm.2.2.2 (by decide)), hr.n1, hr.n4, hr.lens, hr.inr⟩
end
theorem num_st (n : Int) (w : World) : Calls Try.prog 6 #[.int .i64 n] w fun e w' => e = .returned (.int .i64 n) ∧ w' = w := (num_any n w).mono fun _ _ ⟨he, hw⟩ => ⟨he, hw.symm⟩

/-- The document's Translate, whatever is asked. -/
theorem rtr_any {B : Nat} {y r b : Nat} {v : Value} {ps : List (List Int)} {l : List UInt8} (d a k c : Int) (write : Bool) (P : List (Nat × Nat × Nat)) (w : World) (h : Rx B w y r b v ps l) (hc : ioTrC ps l d a k write = c) (hP : ioTrP ps l d a k write = P) :
    Calls Try.prog 33 #[.pointer (some ⟨y, 0, none⟩), .int .i64 d, .int .i64 a, .int .i64 k, .bool write] w (RtP B y r b v ps l w P c) := by
  subst hc hP
  cases hB : ioTrB ps d a k with
  | false =>
    have e1 : ioTrC ps l d a k write = 700 := by unfold ioTrC; rw [hB]; rfl
    have e2 : ioTrP ps l d a k write = [] := by unfold ioTrP; rw [e1]; rfl
    rw [e2, e1]
    exact rtranslate_no d a k write w h hB
  | true =>
    have hB' := hB
    unfold ioTrB thB mayB at hB'
    simp only [Bool.and_eq_true, decide_eq_true_eq] at hB'
    obtain ⟨⟨⟨h0, h1, _⟩, h2, h3⟩, h4, _, h5, h6⟩ := hB'
    obtain ⟨a, rfl⟩ := Int.eq_ofNat_of_zero_le h4
    obtain ⟨k, rfl⟩ := Int.eq_ofNat_of_zero_le (by omega : 0 ≤ k)
    have e1 : ioTrC ps l d (a : Int) (k : Int) write = runC l (ioRoot ps d) write (spl a k) := by unfold ioTrC; rw [hB]; rfl
    have e2 : ioTrP ps l d (a : Int) (k : Int) write = if runC l (ioRoot ps d) write (spl a k) = 0 then (spl a k).map (fun x => ((wF l (ioRoot ps d) ((x.1 : Nat) : Int)).toNat, x.2.1, x.2.2)) else [] := by unfold ioTrP; rw [e1]; rfl
    rw [e2, e1]
    exact rtranslate_yes d a k write w h h0 h1 (by omega) (by omega) (by omega)

/-- An act's cells. -/
def act9 (K D P F M A N : Int) (Wr : Bool) (X : Int) : List Value := [.int .i64 K, .int .i64 D, .int .i64 P, .int .i64 F, .int .i64 M, .int .i64 A, .int .i64 N, .bool Wr, .int .i64 X]

section
variable {w0 : World} {g x t y r b B : Nat} {v : Value} {ps : List (List Int)} {l : List UInt8}
set_option maxHeartbeats 2000000 in
theorem step_map (K D P F M A N : Int) (Wr : Bool) (X : Int) (w : World) (h : Bo w0 g x t y r b B v ps l w) (hK : K < 4) :
    Calls Try.prog 14 #[.pointer (some ⟨x, 0, none⟩), .pointer (some ⟨y, 0, none⟩), .pointer (some ⟨g, 0, none⟩), .pointer (some ⟨r, 0, none⟩), .agg #[.int .i64 K, .int .i64 D, .int .i64 P, .int .i64 F, .int .i64 M, .int .i64 A, .int .i64 N, .bool Wr, .int .i64 X]] w fun e w' => e = .returned (.bool true) ∧ Bo w0 g x t y r b B v ps (ioMapL ps l D P F M) w' := by
  have H := Lib.hid h; clear h
  obtain ⟨l', hl'⟩ : ∃ l', ioMapL ps l D P F M = l' := ⟨_, rfl⟩
  obtain ⟨c, hc⟩ : ∃ c, ioMapC ps l D P F M = c := ⟨_, rfl⟩
  rw [hl']
  have HL := Lib.hid hl'; have HC := Lib.hid hc; clear hl' hc
  go_enter Try.func14, Try.ntmps14
  go_wp2_with fail
  change Calls _ _ _ (w.alloc (.cells (act9 K D P F M A N Wr X).toArray 48)) _
  have hk : Blk (w.alloc (.cells (act9 K D P F M A N Wr X).toArray 48)) w.heap.size 48 (act9 K D P F M A N Wr X) := Blk.new _ _ _
  have h1 := H.out.below (show Below w.heap.size w (w.alloc (.cells (act9 K D P F M A N Wr X).toArray 48)) from (Below.refl _ _).alloc (Nat.le_refl _) _)
  generalize w.alloc (.cells (act9 K D P F M A N Wr X).toArray 48) = wa at *
  generalize w.heap.size = q at *
  clear H
  refine (map_w D P F M c h1.wd HC.out HL.out).mono ?_
  rintro e w2 ⟨rfl, wd2, tn2⟩
  have rx2 := h1.rx.fr h1.wd tn2
  have hk2 := h1.wd.kp tn2 |>.blk hk (by decide) (by decide)
  have wb := h1.wb
  clear h1 hk tn2
  have c1 := hk2.cell 1; have c2 := hk2.cell 2; have c3 := hk2.cell 3; have c4 := hk2.cell 4
  simp only [act9, List.getElem?_cons_zero, List.getElem?_cons_succ] at c1 c2 c3 c4
  clear hk2
  go_wp2_with fail
  go_still_tail 9, (by kernel_rfl)
  still_call (num_st _ _)
  repeat still_step
  refine wpStill_nil ?_
  change wpList _ _ _ _ _ w2.drew
  replace wd2 := wd2.drewN 1
  replace rx2 := rx2.drewN 1
  change Wd w0 g x t ps l' w2.drew at wd2
  change Rx B w2.drew y r b v ps l at rx2
  clear c1 c2 c3 c4
  generalize w2.drew = w3 at *
  go_wp2_with fail
  refine (rmap_any D P F M _ rx2).mono ?_
  rw [HC.out, HL.out]
  rintro e w4 ⟨rfl, rx4, g4⟩
  have bo := Bo.next wd2 rx4 g4 rx2 wb
  clear wd2 rx4 g4 rx2
  go_wp2_with fail
  go_ret
  exact ⟨rfl, bo⟩
set_option maxHeartbeats 2000000 in
theorem step_unmap (K D P F M A N : Int) (Wr : Bool) (X : Int) (w : World) (h : Bo w0 g x t y r b B v ps l w) (hK : K = 4) :
    Calls Try.prog 14 #[.pointer (some ⟨x, 0, none⟩), .pointer (some ⟨y, 0, none⟩), .pointer (some ⟨g, 0, none⟩), .pointer (some ⟨r, 0, none⟩), .agg #[.int .i64 K, .int .i64 D, .int .i64 P, .int .i64 F, .int .i64 M, .int .i64 A, .int .i64 N, .bool Wr, .int .i64 X]] w fun e w' => e = .returned (.bool true) ∧ Bo w0 g x t y r b B v ps (ioUnL ps l D P) w' := by
  subst hK
  have H := Lib.hid h; clear h
  obtain ⟨l', hl'⟩ : ∃ l', ioUnL ps l D P = l' := ⟨_, rfl⟩
  obtain ⟨c, hc⟩ : ∃ c, ioUnC ps l D P = c := ⟨_, rfl⟩
  rw [hl']
  have HL := Lib.hid hl'; have HC := Lib.hid hc; clear hl' hc
  go_enter Try.func14, Try.ntmps14
  go_wp2_with fail
  change Calls _ _ _ (w.alloc (.cells (act9 4 D P F M A N Wr X).toArray 48)) _
  have hk : Blk (w.alloc (.cells (act9 4 D P F M A N Wr X).toArray 48)) w.heap.size 48 (act9 4 D P F M A N Wr X) := Blk.new _ _ _
  have h1 := H.out.below (show Below w.heap.size w (w.alloc (.cells (act9 4 D P F M A N Wr X).toArray 48)) from (Below.refl _ _).alloc (Nat.le_refl _) _)
  generalize w.alloc (.cells (act9 4 D P F M A N Wr X).toArray 48) = wa at *
  generalize w.heap.size = q at *
  clear H
  refine (unmap_w D P c h1.wd HC.out HL.out).mono ?_
  rintro e w2 ⟨rfl, wd2, tn2⟩
  have rx2 := h1.rx.fr h1.wd tn2
  have hk2 := h1.wd.kp tn2 |>.blk hk (by decide) (by decide)
  have wb := h1.wb
  clear h1 hk tn2
  have c1 := hk2.cell 1; have c2 := hk2.cell 2
  simp only [act9, List.getElem?_cons_zero, List.getElem?_cons_succ] at c1 c2
  clear hk2
  go_wp2_with fail
  go_still_tail 7, (by kernel_rfl)
  still_call (num_st _ _)
  repeat still_step
  refine wpStill_nil ?_
  change wpList _ _ _ _ _ w2.drew
  replace wd2 := wd2.drewN 1
  replace rx2 := rx2.drewN 1
  change Wd w0 g x t ps l' w2.drew at wd2
  change Rx B w2.drew y r b v ps l at rx2
  clear c1 c2
  generalize w2.drew = w3 at *
  go_wp2_with fail
  refine (runmap_any D P _ rx2).mono ?_
  rw [HC.out, HL.out]
  rintro e w4 ⟨rfl, rx4, g4⟩
  have bo := Bo.next wd2 rx4 g4 rx2 wb
  clear wd2 rx4 g4 rx2
  go_wp2_with fail
  go_ret
  exact ⟨rfl, bo⟩
set_option maxHeartbeats 2000000 in
theorem step_clear (K D P F M A N : Int) (Wr : Bool) (X : Int) (w : World) (h : Bo w0 g x t y r b B v ps l w) (hK : K = 9) :
    Calls Try.prog 14 #[.pointer (some ⟨x, 0, none⟩), .pointer (some ⟨y, 0, none⟩), .pointer (some ⟨g, 0, none⟩), .pointer (some ⟨r, 0, none⟩), .agg #[.int .i64 K, .int .i64 D, .int .i64 P, .int .i64 F, .int .i64 M, .int .i64 A, .int .i64 N, .bool Wr, .int .i64 X]] w fun e w' => e = .returned (.bool true) ∧ Bo w0 g x t y r b B v ps (ioClL ps l D) w' := by
  subst hK
  have H := Lib.hid h; clear h
  obtain ⟨l', hl'⟩ : ∃ l', ioClL ps l D = l' := ⟨_, rfl⟩
  obtain ⟨c, hc⟩ : ∃ c, ioClC ps D = c := ⟨_, rfl⟩
  rw [hl']
  have HL := Lib.hid hl'; have HC := Lib.hid hc; clear hl' hc
  go_enter Try.func14, Try.ntmps14
  go_wp2_with fail
  change Calls _ _ _ (w.alloc (.cells (act9 9 D P F M A N Wr X).toArray 48)) _
  have hk : Blk (w.alloc (.cells (act9 9 D P F M A N Wr X).toArray 48)) w.heap.size 48 (act9 9 D P F M A N Wr X) := Blk.new _ _ _
  have h1 := H.out.below (show Below w.heap.size w (w.alloc (.cells (act9 9 D P F M A N Wr X).toArray 48)) from (Below.refl _ _).alloc (Nat.le_refl _) _)
  generalize w.alloc (.cells (act9 9 D P F M A N Wr X).toArray 48) = wa at *
  generalize w.heap.size = q at *
  clear H
  refine (clear_w D c h1.wd HC.out HL.out).mono ?_
  rintro e w2 ⟨rfl, wd2, tn2⟩
  have rx2 := h1.rx.fr h1.wd tn2
  have hk2 := h1.wd.kp tn2 |>.blk hk (by decide) (by decide)
  have wb := h1.wb
  clear h1 hk tn2
  have c1 := hk2.cell 1
  simp only [act9, List.getElem?_cons_zero, List.getElem?_cons_succ] at c1
  clear hk2
  go_wp2_with fail
  go_still_tail 5, (by kernel_rfl)
  still_call (num_st _ _)
  repeat still_step
  refine wpStill_nil ?_
  change wpList _ _ _ _ _ w2.drew
  replace wd2 := wd2.drewN 1
  replace rx2 := rx2.drewN 1
  change Wd w0 g x t ps l' w2.drew at wd2
  change Rx B w2.drew y r b v ps l at rx2
  clear c1
  generalize w2.drew = w3 at *
  go_wp2_with fail
  refine (rclear_any D _ rx2).mono ?_
  rw [HC.out, HL.out]
  rintro e w4 ⟨rfl, rx4, g4⟩
  have bo := Bo.next wd2 rx4 g4 rx2 wb
  clear wd2 rx4 g4 rx2
  go_wp2_with fail
  go_ret
  exact ⟨rfl, bo⟩
set_option maxHeartbeats 2000000 in
theorem step_put (K D P F M A N : Int) (Wr : Bool) (X : Int) (w : World) (h : Bo w0 g x t y r b B v ps l w) (hK : 9 < K) :
    Calls Try.prog 14 #[.pointer (some ⟨x, 0, none⟩), .pointer (some ⟨y, 0, none⟩), .pointer (some ⟨g, 0, none⟩), .pointer (some ⟨r, 0, none⟩), .agg #[.int .i64 K, .int .i64 D, .int .i64 P, .int .i64 F, .int .i64 M, .int .i64 A, .int .i64 N, .bool Wr, .int .i64 X]] w fun e w' => e = .returned (.bool true) ∧ Bo w0 g x t y r b B v ps (pwL l A X) w' := by
  have H := Lib.hid h; clear h
  obtain ⟨l', hl'⟩ : ∃ l', pwL l A X = l' := ⟨_, rfl⟩
  obtain ⟨c, hc⟩ : ∃ c, errC (pwB l.length A X) = c := ⟨_, rfl⟩
  rw [hl']
  have HL := Lib.hid hl'; have HC := Lib.hid hc; clear hl' hc
  go_enter Try.func14, Try.ntmps14
  go_wp2_with fail
  change Calls _ _ _ (w.alloc (.cells (act9 K D P F M A N Wr X).toArray 48)) _
  have hk : Blk (w.alloc (.cells (act9 K D P F M A N Wr X).toArray 48)) w.heap.size 48 (act9 K D P F M A N Wr X) := Blk.new _ _ _
  have h1 := H.out.below (show Below w.heap.size w (w.alloc (.cells (act9 K D P F M A N Wr X).toArray 48)) from (Below.refl _ _).alloc (Nat.le_refl _) _)
  generalize w.alloc (.cells (act9 K D P F M A N Wr X).toArray 48) = wa at *
  generalize w.heap.size = q at *
  clear H
  refine (put_w A X c h1.wd HC.out HL.out).mono ?_
  rintro e w2 ⟨rfl, wd2, tn2⟩
  have rx2 := h1.rx.fr h1.wd tn2
  have hk2 := h1.wd.kp tn2 |>.blk hk (by decide) (by decide)
  have wb := h1.wb
  clear h1 hk tn2
  have c5 := hk2.cell 5; have c8 := hk2.cell 8
  simp only [act9, List.getElem?_cons_zero, List.getElem?_cons_succ] at c5 c8
  clear hk2
  go_wp2_with fail
  go_still_tail 7, (by kernel_rfl)
  still_call (num_st _ _)
  repeat still_step
  refine wpStill_nil ?_
  change wpList _ _ _ _ _ w2.drew
  replace wd2 := wd2.drewN 1
  replace rx2 := rx2.drewN 1
  change Wd w0 g x t ps l' w2.drew at wd2
  change Rx B w2.drew y r b v ps l at rx2
  clear c5 c8
  generalize w2.drew = w3 at *
  go_wp2_with fail
  refine (rputword_any r b l A X _ rx2.rm).mono ?_
  rw [HC.out, HL.out]
  rintro e w4 ⟨rfl, rm4, g4⟩
  have rx4 := rx2.mem rm4 (by rw [← HL.out, pwL_len]) g4
  have bo := Bo.next wd2 rx4 g4 rx2 wb
  clear wd2 rx4 g4 rx2
  go_wp2_with fail
  go_ret
  exact ⟨rfl, bo⟩
set_option maxHeartbeats 2000000 in
theorem step_tr (K D P F M A N : Int) (Wr : Bool) (X : Int) (w : World) (h : Bo w0 g x t y r b B v ps l w) (hK : 4 < K ∧ K < 9) :
    Calls Try.prog 14 #[.pointer (some ⟨x, 0, none⟩), .pointer (some ⟨y, 0, none⟩), .pointer (some ⟨g, 0, none⟩), .pointer (some ⟨r, 0, none⟩), .agg #[.int .i64 K, .int .i64 D, .int .i64 P, .int .i64 F, .int .i64 M, .int .i64 A, .int .i64 N, .bool Wr, .int .i64 X]] w fun e w' => e = .returned (.bool true) ∧ Bo w0 g x t y r b B v ps l w' := by
  have H := Lib.hid h; clear h
  obtain ⟨c, hc⟩ : ∃ c, ioTrC ps l D A N Wr = c := ⟨_, rfl⟩
  obtain ⟨L, hL⟩ : ∃ L, ioTrP ps l D A N Wr = L := ⟨_, rfl⟩
  have hln : L.length ≤ 65536 := by rw [← hL]; exact trP_len ps l D A N Wr
  obtain ⟨hK1, hK2⟩ := hK
  have HL := Lib.hid hL; have HC := Lib.hid hc; clear hL hc
  go_enter Try.func14, Try.ntmps14
  go_wp2_with fail
  change Calls _ _ _ (w.alloc (.cells (act9 K D P F M A N Wr X).toArray 48)) _
  have hk : Blk (w.alloc (.cells (act9 K D P F M A N Wr X).toArray 48)) w.heap.size 48 (act9 K D P F M A N Wr X) := Blk.new _ _ _
  have h1 := H.out.below (show Below w.heap.size w (w.alloc (.cells (act9 K D P F M A N Wr X).toArray 48)) from (Below.refl _ _).alloc (Nat.le_refl _) _)
  generalize w.alloc (.cells (act9 K D P F M A N Wr X).toArray 48) = wa at *
  generalize w.heap.size = q at *
  clear H
  refine (tr_w D A N c Wr L h1.wd HC.out HL.out).mono ?_
  rintro e w2 ⟨A2, cap2, rfl, own2, wd2, tn2⟩
  have rx2 := h1.rx.fr h1.wd tn2
  have hk2 := h1.wd.kp tn2 |>.blk hk (by decide) (by decide)
  have wb := h1.wb
  have hsz := h1.wd.size
  clear h1 hk tn2
  have c1 := hk2.cell 1; have c5 := hk2.cell 5; have c6 := hk2.cell 6; have c7 := hk2.cell 7
  simp only [act9, List.getElem?_cons_zero, List.getElem?_cons_succ] at c1 c5 c6 c7
  clear hk2
  go_wp2_with fail
  refine (rtr_any D A N c Wr L _ rx2 HC.out HL.out).mono ?_
  rintro e w3 ⟨u3, rfl, own3, b3⟩
  have wd3 := wd2.below b3
  have rx3 := rx2.below b3 (Nat.le_refl _)
  have own2' := own_below own2 b3
  obtain ⟨A3, cap3, rfl, hcap3, _, _⟩ := own_slice own3
  have rlt := rx2.rm.2.2.1.lt
  clear c1 c5 c6 c7 wd2 rx2 own2 b3
  go_wp2_with fail
  refine (same_yes _ _ L _ (Sl.own own2') (Sl.own own3) hln).mono ?_
  rintro e w' ⟨rfl, n4, rfl⟩
  replace wd3 := wd3.drewN n4
  replace rx3 := rx3.drewN n4
  replace own2' := own_drewN own2' n4
  clear own3
  generalize w3.drewN n4 = w4 at *
  go_wp2_with fail
  refine (num_any c _).mono ?_
  rintro e w' ⟨rfl, rfl⟩
  go_wp2_with fail
  refine (spoil_any _ _ _ _ _ own2' (AllInts.flat L) hln).mono ?_
  rintro e w5 ⟨rfl, g5⟩
  have bo : Bo w0 g x t y r b B v ps l w5 := Bo.sp ⟨wd3, rx3, wb⟩ own2' g5 hsz
  clear own2' g5 wd3 rx3
  go_wp2_with fail
  go_ret
  exact ⟨rfl, bo⟩

/-- An act of both, whatever it is. -/
theorem step7_any (K D P F M A N : Int) (Wr : Bool) (X : Int) (w : World) (h : Bo w0 g x t y r b B v ps l w) :
    Calls Try.prog 14 #[.pointer (some ⟨x, 0, none⟩), .pointer (some ⟨y, 0, none⟩), .pointer (some ⟨g, 0, none⟩), .pointer (some ⟨r, 0, none⟩), .agg #[.int .i64 K, .int .i64 D, .int .i64 P, .int .i64 F, .int .i64 M, .int .i64 A, .int .i64 N, .bool Wr, .int .i64 X]] w fun e w' => e = .returned (.bool true) ∧ ∃ l', Bo w0 g x t y r b B v ps l' w' := by
  by_cases h1 : K < 4
  · exact (step_map K D P F M A N Wr X w h h1).mono fun e w' ⟨he, hb⟩ => ⟨he, _, hb⟩
  · by_cases h2 : K = 4
    · exact (step_unmap K D P F M A N Wr X w h h2).mono fun e w' ⟨he, hb⟩ => ⟨he, _, hb⟩
    · by_cases h3 : K < 9
      · exact (step_tr K D P F M A N Wr X w h ⟨by omega, h3⟩).mono fun e w' ⟨he, hb⟩ => ⟨he, _, hb⟩
      · by_cases h4 : K = 9
        · exact (step_clear K D P F M A N Wr X w h h4).mono fun e w' ⟨he, hb⟩ => ⟨he, _, hb⟩
        · exact (step_put K D P F M A N Wr X w h (by omega)).mono fun e w' ⟨he, hb⟩ => ⟨he, _, hb⟩
end

end Go.Proofs.Ytggdbiniklchoaa
