/-
  Contracts of the document's registers: NewRegs, there, Read, Write, Reset.
-/
import Derived.Test.YtocjkanhciohmaaRg0
import Derived.Laws.OwnMore
import Derived.IntWalk
namespace Go.Proofs.Ytocjkanhciohmaa
open Go.RowKit
set_option linter.unusedVariables false
set_option maxRecDepth 100000

/-- The document's registers: at block y, the rows at block b. -/
structure RG (w : World) (y b D : Nat) (F : Nat → Int) : Prop where
  le : D ≤ 4
  blk : Blk w y 54 [.slice (some ⟨b, 0, none⟩) D D]
  row : Blk w b 46 (itc F (D * 8))
section
variable {w w' : World} {y b D : Nat} {F : Nat → Int}
theorem RG.apart (h : RG w y b D F) : y ≠ b := h.blk.apart h.row (by decide)
theorem RG.cell0 (h : RG w y b D F) : w.cell? ⟨y, 0, none⟩ = some (.slice (some ⟨b, 0, none⟩) D D) := by rw [h.blk.cell]; rfl
theorem RG.at_ (h : RG w y b D F) (k : Nat) (hk : k < D * 8) : w.cell? ⟨b, k, none⟩ = some (.int .i64 (F k)) := by rw [h.row.cell, itc_get _ _ _ hk]
theorem RG.set (h : RG w y b D F) (k : Nat) (x : Int) : RG (w.setCell ⟨b, k, none⟩ (.int .i64 x)) y b D (iF F k x) :=
  ⟨h.le, h.blk.far h.apart _, by rw [← itc_set]; exact h.row.set k _⟩
theorem RG.wipe (h : RG w y b D F) (i : Nat) (hi : i < D) : ∃ w3, Sem.run Try.prog (storeCells ⟨b, i * 8, none⟩ zReg.toList) w = .ok () w3 ∧ RG w3 y b D (zF F i) ∧ w.grownBy w3 (some b) := by
  have hl := itc_len F (D * 8)
  have hst := run_storeCells_at Try.prog b (i * 8) 46 zReg.toList 0 _ w h.row (by simp only [List.size_toArray]; rw [hl, show zReg.toList.length = 8 from rfl]; omega) (itc_one noI 8)
  refine ⟨_, hst, ⟨h.le, h.blk.grown (grown_setRow _ _ _) (fun e => h.apart (by injection e)), ?_⟩, grown_setRow _ _ _⟩
  have e := itc_wipe F (D * 8) i [] (by omega)
  simp only [List.length_nil, Nat.zero_add, List.nil_append] at e
  simp only [Nat.add_zero, zReg]
  rw [e]
  exact h.row.row _
end
/-- As a thing. -/
def obRG (y b D : Nat) (F : Nat → Int) : Ob :=
  ⟨fun S w => RG w y b D F ∧ ∀ k, S k ↔ (k = y ∨ k = b), fun ⟨h, e⟩ hk hs => ⟨⟨h.le, (hk y h.blk.lt ((e y).2 (.inl rfl))).trans h.blk, (hk b h.row.lt ((e b).2 (.inr rfl))).trans h.row⟩, e⟩, fun ⟨h, e⟩ hb => ((e _).1 hb).elim (fun e => e ▸ h.blk.lt) (fun e => e ▸ h.row.lt)⟩
def obDG (y D : Nat) (F : Nat → Int) : Ob := obX fun b => obRG y b D F
section
variable {S : Nat → Prop} {W0 w w' : World} {os : List Ob} {i y b D : Nat} {F F' : Nat → Int}
theorem Tk.dg (h : Tk S W0 os w) (hi : os[i]? = some (obDG y D F)) : ∃ b, RG w y b D F ∧ ∀ w' F', RG w' y b D F' → w.grownBy w' (some b) → Tk S W0 (os.set i (obDG y D F')) w' := by
  obtain ⟨S1, ⟨b, q⟩, _, k⟩ := h.call hi
  exact ⟨b, q.1, fun w' F' hp hg => k w' _ [] ⟨S1, obs_one.2 ⟨b, hp, q.2⟩, fun _ _ h => h, (Fo.refl _ _).grown hg (fun x hx => .inl ((q.2 x).2 (.inr (by injection hx with hx; exact hx.symm))))⟩⟩
end

theorem dgthere_any (y b D : Nat) (F : Nat → Int) (d v : Int) (w : World) (h : RG w y b D F) :
    Calls Try.prog 17 #[.pointer (some ⟨y, 0, none⟩), .int .i64 d, .int .i64 v] w fun e w' => e = .returned (.bool (inR D d v)) ∧ w = w' := by
  have hc := h.cell0
  clear h
  by_cases h0 : 0 ≤ d
  · by_cases h1 : d < (D : Int)
    · by_cases h2 : 0 ≤ v
      · by_cases h3 : v < 8
        · have HB := Lib.hid (show inR D d v = true by simp only [inR, decide_eq_true_eq]; omega)
          go_enter Try.func17, Try.ntmps17
          go_wp2
          go_ret
          exact ⟨by rw [HB.out]; rfl, rfl⟩
        · have HB := Lib.hid (show inR D d v = false by simp only [inR, decide_eq_false_iff_not]; omega)
          have h4 : decide (v < 8) = false := by simp; omega
          clear h3
          go_enter Try.func17, Try.ntmps17
          go_wp2
          go_ret
          exact ⟨by rw [HB.out]; rfl, rfl⟩
      · have HB := Lib.hid (show inR D d v = false by simp only [inR, decide_eq_false_iff_not]; omega)
        go_enter Try.func17, Try.ntmps17
        go_wp2
        go_ret
        exact ⟨by rw [HB.out]; rfl, rfl⟩
    · have HB := Lib.hid (show inR D d v = false by simp only [inR, decide_eq_false_iff_not]; omega)
      go_enter Try.func17, Try.ntmps17
      go_wp2
      go_ret
      exact ⟨by rw [HB.out]; rfl, rfl⟩
  · have HB := Lib.hid (show inR D d v = false by simp only [inR, decide_eq_false_iff_not]; omega)
    go_enter Try.func17, Try.ntmps17
    go_wp2
    go_ret
    exact ⟨by rw [HB.out]; rfl, rfl⟩

theorem dgread_any (y b D : Nat) (F : Nat → Int) (d r : Int) (w : World) (h : RG w y b D F) :
    Calls Try.prog 15 #[.pointer (some ⟨y, 0, none⟩), .int .i64 d, .int .i64 r] w fun e w' => e = .returned (.tuple #[.int .i64 (gxX D F d r), .int .i64 (gxC D d r)]) ∧ w = w' := by
  have H := Lib.hid h
  have hD := h.le
  cases hin : inR D d r with
  | true =>
    have HC := Lib.hid (show gxC D d r = 0 by simp [gxC, hin])
    have HX := Lib.hid (show gxX D F d r = F (ixR d r) by simp [gxX, hin])
    have HB := Lib.hid hin
    obtain ⟨i, j, rfl, rfl, hi, hj, hij, hix⟩ := inR_way hin
    have c0 := h.at_ _ hij
    have hp := h.cell0
    rw [hix] at HX
    generalize F (i * 8 + j) = x at *
    clear h hin hix
    go_enter Try.func15, Try.ntmps15
    go_wp2_with fail
    refine (dgthere_any y b D F _ _ _ H.out).mono ?_
    rintro e w' ⟨rfl, rfl⟩
    rw [HB.out]
    go_wp2_with fail
    go_ret2
    exact ⟨by rw [HX.out, HC.out]; rfl, rfl⟩
  | false =>
    have HC := Lib.hid (show gxC D d r = 1400 by simp [gxC, hin])
    have HX := Lib.hid (show gxX D F d r = 0 by simp [gxX, hin])
    have HB := Lib.hid hin
    clear h hin
    go_enter Try.func15, Try.ntmps15
    go_wp2_with fail
    refine (dgthere_any y b D F _ _ _ H.out).mono ?_
    rintro e w' ⟨rfl, rfl⟩
    rw [HB.out]
    go_wp2_with fail
    go_ret2
    exact ⟨by rw [HX.out, HC.out]; rfl, rfl⟩

theorem dgwrite_any (y b D : Nat) (F : Nat → Int) (d r x : Int) (w : World) (h : RG w y b D F) :
    Calls Try.prog 11 #[.pointer (some ⟨y, 0, none⟩), .int .i64 d, .int .i64 r, .int .i64 x] w fun e w' => e = .returned (.int .i64 (gwC D d r x)) ∧ RG w' y b D (gwF D F d r x) ∧ w.grownBy w' (some b) := by
  have H := Lib.hid h
  have hD := h.le
  cases hin : inR D d r with
  | true =>
    have HB := Lib.hid hin
    by_cases hx : 0 ≤ x ∧ x ≤ 65535
    · have HW := Lib.hid (show gwC D d r x = 0 ∧ gwF D F d r x = iF F (ixR d r) x by simp [gwC, gwF, gwB, hin, hx])
      obtain ⟨i, j, rfl, rfl, hi, hj, hij, hix⟩ := inR_way hin
      rw [hix] at HW
      have c0 := h.at_ _ hij
      have hp := h.cell0
      have f0 := h.row.frozen (i * 8 + j)
      have hs := h.set (i * 8 + j) x
      have hg : w.grownBy (w.setCell ⟨b, i * 8 + j, none⟩ (.int .i64 x)) (some b) := gone _
      have hx0 : decide (x < 0) = false := by simp; omega
      have hx1 : decide (65535 < x) = false := by simp; omega
      have HS := Lib.hid hs; have HG := Lib.hid hg
      clear h hin hs hg hx hix
      go_enter Try.func11, Try.ntmps11
      go_wp2_with fail
      refine (dgthere_any y b D F _ _ _ H.out).mono ?_
      rintro e w' ⟨rfl, rfl⟩
      rw [HB.out]
      go_wp2_with fail
      go_ret
      exact ⟨by rw [HW.out.1]; rfl, by rw [HW.out.2]; exact HS.out, HG.out⟩
    · have HW := Lib.hid (show gwC D d r x = 1400 ∧ gwF D F d r x = F by simp [gwC, gwF, gwB, hx])
      have hr : x < 0 ∨ (decide (x < 0) = false ∧ 65535 < x) := by
        by_cases h0 : x < 0
        · exact .inl h0
        · exact .inr ⟨by simp; omega, by omega⟩
      clear h hin hx
      rcases hr with hr | ⟨hr, hr2⟩
      all_goals
        go_enter Try.func11, Try.ntmps11
        go_wp2_with fail
        refine (dgthere_any y b D F _ _ _ H.out).mono ?_
        rintro e w' ⟨rfl, rfl⟩
        rw [HB.out]
        go_wp2_with fail
        go_ret
        exact ⟨by rw [HW.out.1]; rfl, by rw [HW.out.2]; exact H.out, grefl _ _⟩
  | false =>
    have HB := Lib.hid hin
    have HW := Lib.hid (show gwC D d r x = 1400 ∧ gwF D F d r x = F by simp [gwC, gwF, gwB, hin])
    clear h hin
    go_enter Try.func11, Try.ntmps11
    go_wp2_with fail
    refine (dgthere_any y b D F _ _ _ H.out).mono ?_
    rintro e w' ⟨rfl, rfl⟩
    rw [HB.out]
    go_wp2_with fail
    go_ret
    exact ⟨by rw [HW.out.1]; rfl, by rw [HW.out.2]; exact H.out, grefl _ _⟩

theorem dgreset_any (y b D : Nat) (F : Nat → Int) (d : Int) (w : World) (h : RG w y b D F) :
    Calls Try.prog 13 #[.pointer (some ⟨y, 0, none⟩), .int .i64 d] w fun e w' => e = .returned (.int .i64 (grC D d)) ∧ RG w' y b D (grF D F d) ∧ w.grownBy w' (some b) := by
  have H := Lib.hid h
  have hD := h.le
  have hin : inR D d 0 = rcB D d := by simp only [inR, rcB]; congr 1; simp
  cases hb : rcB D d with
  | true =>
    have HW := Lib.hid (show grC D d = 0 ∧ grF D F d = zF F d.toNat by simp [grC, grF, hb])
    rw [hb] at hin
    obtain ⟨i, j, rfl, -, hi, -, -, -⟩ := inR_way hin
    obtain ⟨w3, hst, hp3, gr3⟩ := h.wipe i (by omega)
    have hp := h.cell0
    have HZ := zReg_run
    have hne := zReg_ne
    have hsz := zReg_size
    rw [Int.toNat_natCast] at HW
    have HB := Lib.hid hin; clear hb h hin
    go_enter Try.func13, Try.ntmps13
    go_wp2_with fail
    refine (dgthere_any y b D F _ 0 _ H.out).mono ?_
    rintro e w' ⟨rfl, rfl⟩
    rw [HB.out]
    go_wp2_with fail
    go_ret
    exact ⟨by rw [HW.out.1]; rfl, by rw [HW.out.2]; exact hp3, gr3⟩
  | false =>
    have HW := Lib.hid (show grC D d = 1400 ∧ grF D F d = F by simp [grC, grF, hb])
    rw [hb] at hin
    have HB := Lib.hid hin; clear hb h hin
    go_enter Try.func13, Try.ntmps13
    go_wp2_with fail
    refine (dgthere_any y b D F _ 0 _ H.out).mono ?_
    rintro e w' ⟨rfl, rfl⟩
    rw [HB.out]
    go_wp2_with fail
    go_ret
    exact ⟨by rw [HW.out.1]; rfl, by rw [HW.out.2]; exact H.out, grefl _ _⟩

theorem dgnew_no (c : Int) (w : World) (h : ¬ (1 ≤ c ∧ c ≤ 4)) :
    Calls Try.prog 7 #[.int .i64 c] w fun e w' => e = .returned (.tuple #[.pointer none, .int .i64 1400]) ∧ w = w' := by
  by_cases h1 : c < 1
  · clear h
    go_enter Try.func7, Try.ntmps7
    go_wp2
    go_ret2
    exact ⟨rfl, rfl⟩
  · have h2 : 4 < c := by omega
    clear h
    go_enter Try.func7, Try.ntmps7
    go_wp2
    go_ret2
    exact ⟨rfl, rfl⟩

theorem make_regs (w : World) (n : Nat) (hn : n ≤ 4) : (Instr.makeSlice 52 (.int .i64 (n : Int)) (.int .i64 (n : Int))).run Try.prog w = .ok (.slice (some ⟨w.heap.size, 0, none⟩) n n) (w.alloc (.cells (itc noI (n * 8)).toArray 46)) := by
  have hi : (Try.prog.info? 46).map (fun i => (i.zero, i.size, i.bytes)) = some (some (.agg zReg), 8, 64) := by kernel_rfl
  obtain ⟨i0, hi, hz0, hz1, hz2⟩ := info_parts hi
  have := run_makeSlice (P := Try.prog) w 52 46 i0 (.agg zReg) Try.underlying52 hi hz0 .i64 .i64 n n (by omega) (by omega) (by rw [hz1]; omega) (by rw [hz2]; omega) (by omega)
  rw [this, Int.toNat_natCast, hz1]
  have e : madeCells (Value.agg zReg).cells (n * 8) = (itc noI (n * 8)).toArray := by
    rcases (show n = 0 ∨ n = 1 ∨ n = 2 ∨ n = 3 ∨ n = 4 by omega) with rfl | rfl | rfl | rfl | rfl <;> kernel_rfl
  rw [e]

theorem dgnew_yes (c : Nat) (w : World) (h1 : 1 ≤ c) (h2 : c ≤ 4) :
    Calls Try.prog 7 #[.int .i64 c] w fun e w' => ∃ y, e = .returned (.tuple #[.pointer (some ⟨y, 0, none⟩), .int .i64 0]) ∧ Tk nos w [obDG y c noI] w' := by
  have hm := fun w => make_regs w c h2
  have h3 : decide ((c : Int) < 1) = false := by simp; omega
  have h4 : decide ((4 : Int) < c) = false := by simp; omega
  go_enter Try.func7, Try.ntmps7
  go_wp2
  go_ret2
  refine ⟨_, rfl, ?_⟩
  have t1 := (Tk.empty w).alloc 46 (itc noI (c * 8))
  have t2 := t1.alloc 54 [.slice (some ⟨w.heap.size, 0, none⟩) c c]
  rw [show (w.alloc (.cells (itc noI (c * 8)).toArray 46)).heap.size = w.heap.size + 1 by simp] at t2
  refine t2.wrap1 (fun q => ?_)
  obtain ⟨S1, S2, q1, q2, d, e⟩ := q
  have q2 := obs_one.1 q2
  exact ⟨_, ⟨h2, q1.1, q2.1⟩, fun k => by rw [e, q1.2, q2.2]⟩

section
variable {S : Nat → Prop} {W0 : World} {os : List Ob} {i y D : Nat} {F : Nat → Int}
theorem tk_dgread (d r : Int) (w : World) (h : Tk S W0 os w) (hi : os[i]? = some (obDG y D F)) :
    Calls Try.prog 15 #[.pointer (some ⟨y, 0, none⟩), .int .i64 d, .int .i64 r] w fun e w' => e = .returned (.tuple #[.int .i64 (gxX D F d r), .int .i64 (gxC D d r)]) ∧ w = w' := by
  obtain ⟨b, q, _⟩ := h.dg hi
  exact dgread_any y b D F d r w q
theorem tk_dgwrite (d r x : Int) (w : World) (h : Tk S W0 os w) (hi : os[i]? = some (obDG y D F)) :
    Calls Try.prog 11 #[.pointer (some ⟨y, 0, none⟩), .int .i64 d, .int .i64 r, .int .i64 x] w fun e w' => e = .returned (.int .i64 (gwC D d r x)) ∧ Tk S W0 (os.set i (obDG y D (gwF D F d r x))) w' := by
  obtain ⟨b, q, k⟩ := h.dg hi
  exact (dgwrite_any y b D F d r x w q).mono fun _ _ ⟨he, hp, hg⟩ => ⟨he, k _ _ hp hg⟩
theorem tk_dgreset (d : Int) (w : World) (h : Tk S W0 os w) (hi : os[i]? = some (obDG y D F)) :
    Calls Try.prog 13 #[.pointer (some ⟨y, 0, none⟩), .int .i64 d] w fun e w' => e = .returned (.int .i64 (grC D d)) ∧ Tk S W0 (os.set i (obDG y D (grF D F d))) w' := by
  obtain ⟨b, q, k⟩ := h.dg hi
  exact (dgreset_any y b D F d w q).mono fun _ _ ⟨he, hp, hg⟩ => ⟨he, k _ _ hp hg⟩
end
end Go.Proofs.Ytocjkanhciohmaa
