/-
  Plain words for layer 14: registers of devices; what the calls answer and leave. Both the program's and the document's in one text.
-/
import Derived.Test.YtocjkanhciohmaaRm0
import Derived.Test.YtocjkanhciohmaaItc
import Derived.Test.YtocjkanhciohmaaPlain2
import Derived.Test.YtocjkanhciohmaaOb
import Derived.Test.YtocjkanhciohmaaChecked
namespace Go.Proofs.Ytocjkanhciohmaa
open Go.RowKit
set_option linter.unusedVariables false
set_option maxRecDepth 100000

def gxC (D : Nat) (d r : Int) : Int := if inR D d r then 0 else 1400
def gxX (D : Nat) (F : Nat → Int) (d r : Int) : Int := if inR D d r then F (ixR d r) else 0
def gwB (D : Nat) (d r x : Int) : Bool := inR D d r && decide (0 ≤ x ∧ x ≤ 65535)
def gwC (D : Nat) (d r x : Int) : Int := if gwB D d r x then 0 else 1400
def gwF (D : Nat) (F : Nat → Int) (d r x : Int) : Nat → Int := if gwB D d r x then iF F (ixR d r) x else F
def grC (D : Nat) (d : Int) : Int := if rcB D d then 0 else 1400
def grF (D : Nat) (F : Nat → Int) (d : Int) : Nat → Int := if rcB D d then zF F d.toNat else F

theorem inR_way {D : Nat} {d v : Int} (hc : inR D d v = true) : ∃ i j : Nat, d = i ∧ v = j ∧ (i : Int) < D ∧ (j : Int) < 8 ∧ i * 8 + j < D * 8 ∧ ixR d v = i * 8 + j := by
  obtain ⟨i, j, rfl, rfl, hi, hj⟩ := (inR_iff D d v).1 hc
  exact ⟨i, j, rfl, rfl, by omega, by omega, by omega, by simp [ixR]⟩
theorem set_sameO {d : Ob} : ∀ {l : List Ob} {i : Nat}, l[i]? = some d → l.set i d = l
  | a :: l, 0, h => by simp at h; subst h; rfl
  | a :: l, i + 1, h => by simp only [List.set_cons_succ]; rw [set_sameO (by simpa using h)]

/-- The program's registers: at block g, D how many devices. -/
def PG (w : World) (g : Nat) (D : Nat) (F : Nat → Int) : Prop := D ≤ 4 ∧ Blk w g 51 (.int .i64 D :: itc F 32)
section
variable {w w' : World} {g D : Nat} {F : Nat → Int}
theorem PG.le (h : PG w g D F) : D ≤ 4 := h.1
theorem PG.size (h : PG w g D F) : w.cell? ⟨g, 0, none⟩ = some (.int .i64 D) := by rw [h.2.cell]; rfl
theorem PG.frozen (h : PG w g D F) (i : Nat) : w.frozen? ⟨g, i, none⟩ = false := h.2.frozen i
theorem PG.at_ (h : PG w g D F) (k : Nat) (hk : k < 32) : w.cell? ⟨g, 1 + k, none⟩ = some (.int .i64 (F k)) := by
  rw [h.2.cell, show 1 + k = k + 1 by omega, List.getElem?_cons_succ, itc_get _ _ _ hk]
theorem PG.set (h : PG w g D F) (k : Nat) (x : Int) : PG (w.setCell ⟨g, 1 + k, none⟩ (.int .i64 x)) g D (iF F k x) := by
  refine ⟨h.1, ?_⟩
  have h4 := h.2.set (1 + k) (.int .i64 x)
  rw [show 1 + k = k + 1 by omega] at h4 ⊢
  rw [← itc_set]
  simpa only [List.set_cons_succ] using h4
end
/-- As a thing. -/
def obPG (g D : Nat) (F : Nat → Int) : Ob :=
  ⟨fun S w => PG w g D F ∧ ∀ b, S b ↔ b = g, fun ⟨h, e⟩ hk hs => ⟨⟨h.1, (hk g h.2.lt ((e g).2 rfl)).trans h.2⟩, e⟩, fun ⟨h, e⟩ hb => ((e _).1 hb) ▸ h.2.lt⟩
section
variable {S : Nat → Prop} {W0 w w' : World} {os : List Ob} {i g D : Nat} {F F' : Nat → Int}
theorem Tk.pg (h : Tk S W0 os w) (hi : os[i]? = some (obPG g D F)) : PG w g D F := by obtain ⟨_, q, _⟩ := h.get hi; exact q.1
theorem Tk.setPG (h : Tk S W0 os w) (hi : os[i]? = some (obPG g D F)) (hp : PG w' g D F') (hg : w.grownBy w' (some g)) : Tk S W0 (os.set i (obPG g D F')) w' := by
  obtain ⟨S1, q, _, k⟩ := h.call hi
  exact k w' _ [] ⟨S1, obs_one.2 ⟨hp, q.2⟩, fun _ _ h => h, (Fo.refl _ _).grown hg (fun x hx => .inl ((q.2 x).2 (by injection hx with hx; exact hx.symm)))⟩
end

/-- Eight registers that are 0: kept closed to the walk. -/
def zReg : Array Value := (itc noI 8).toArray
theorem zReg_ne : ¬ (zReg = #[]) := by simp [zReg, itc]
theorem zReg_size : zReg.size = 8 := rfl
theorem zReg_run (w : World) : Sem.run Try.prog (zeroValue 46) w = .ok (.agg zReg) w := by
  have hi : (Try.prog.info? 46).map (fun i => i.zero) = some (some (.agg zReg)) := by kernel_rfl
  cases h : Try.prog.info? 46 with
  | none => rw [h] at hi; cases hi
  | some i =>
    rw [h] at hi
    simp only [Option.map_some, Option.some.injEq] at hi
    simp [zeroValue, typeInfo, h, hi]
theorem PG.wipe {w : World} {g D : Nat} {F : Nat → Int} (h : PG w g D F) (i : Nat) (hi : i < 4) : ∃ w3, Sem.run Try.prog (storeCells ⟨g, 1 + i * 8, none⟩ zReg.toList) w = .ok () w3 ∧ PG w3 g D (zF F i) ∧ w.grownBy w3 (some g) := by
  obtain ⟨h1, hb⟩ := h
  have hl := itc_len F 32
  have hst := run_storeCells_at Try.prog g (1 + i * 8) 51 zReg.toList 0 _ w hb (by simp only [List.size_toArray, List.length_cons]; rw [hl, show zReg.toList.length = 8 from rfl]; omega) (itc_one noI 8)
  refine ⟨_, hst, ⟨h1, ?_⟩, grown_setRow _ _ _⟩
  have e := itc_wipe F 32 i [.int .i64 (D : Int)] (by omega)
  simp only [List.length_cons, List.length_nil, Nat.zero_add, List.singleton_append] at e
  simp only [Nat.add_zero, zReg]
  rw [e]
  exact hb.row _

theorem ghas_any (g D : Nat) (F : Nat → Int) (d : Int) (w : World) (h : PG w g D F) :
    Calls Try.prog 18 #[.pointer (some ⟨g, 0, none⟩), .int .i64 d] w fun e w' => e = .returned (.bool (rcB D d)) ∧ w = w' := by
  have hc := h.size
  have HB := Lib.hid (show rcB D d = decide (0 ≤ d ∧ d < (D : Int)) from rfl)
  clear h
  by_cases h0 : 0 ≤ d
  · by_cases h1 : d < (D : Int)
    · go_enter Try.func18, Try.ntmps18
      go_wp2
      go_ret
      exact ⟨by rw [HB.out, decide_eq_true (show 0 ≤ d ∧ d < (D : Int) from ⟨h0, h1⟩)]; rfl, rfl⟩
    · go_enter Try.func18, Try.ntmps18
      go_wp2
      go_ret
      exact ⟨by rw [HB.out, decide_eq_false (show ¬ (0 ≤ d ∧ d < (D : Int)) by omega)]; rfl, rfl⟩
  · go_enter Try.func18, Try.ntmps18
    go_wp2
    go_ret
    exact ⟨by rw [HB.out, decide_eq_false (show ¬ (0 ≤ d ∧ d < (D : Int)) by omega)]; rfl, rfl⟩

/-- Where find points. -/
def gfP (g D : Nat) (d r : Int) : Value := .pointer (if inR D d r then some ⟨g, 1 + ixR d r, none⟩ else none)
theorem gfind_any (g D : Nat) (F : Nat → Int) (d r : Int) (w : World) (h : PG w g D F) :
    Calls Try.prog 16 #[.pointer (some ⟨g, 0, none⟩), .int .i64 d, .int .i64 r] w fun e w' => e = .returned (.tuple #[gfP g D d r, .int .i64 (gxC D d r)]) ∧ w = w' := by
  have H := Lib.hid h
  cases hin : inR D d r with
  | true =>
    have HP := Lib.hid (show gfP g D d r = .pointer (some ⟨g, 1 + ixR d r, none⟩) by simp [gfP, hin])
    have HC := Lib.hid (show gxC D d r = 0 by simp [gxC, hin])
    obtain ⟨i, j, rfl, rfl, hi, hj, hij, hix⟩ := inR_way hin
    have hD := h.le
    have HB := Lib.hid (show rcB D (i : Int) = true by simp [rcB]; omega)
    have hi4 : (i : Int) < 4 := by omega
    have hj8 : decide (8 ≤ (j : Int)) = false := by simp; omega
    have hj0 : decide ((j : Int) < 0) = false := by simp
    clear h hin
    go_enter Try.func16, Try.ntmps16
    go_wp2_with fail
    refine (ghas_any g D F _ _ H.out).mono ?_
    rintro e w' ⟨rfl, rfl⟩
    rw [HB.out]
    go_wp2_with fail
    go_ret2
    exact ⟨by rw [HP.out, HC.out, hix, show 1 + (i * 8 + j) = 1 + i * 8 + j by omega]; rfl, rfl⟩
  | false =>
    have HP := Lib.hid (show gfP g D d r = .pointer none by simp [gfP, hin])
    have HC := Lib.hid (show gxC D d r = 1400 by simp [gxC, hin])
    have hin2 : ¬ (0 ≤ d ∧ d < (D : Int) ∧ 0 ≤ r ∧ r < 8) := by unfold inR at hin; simpa using hin
    clear h hin
    cases hd : rcB D d with
    | false =>
      have HB := Lib.hid hd
      clear hd hin2
      go_enter Try.func16, Try.ntmps16
      go_wp2_with fail
      refine (ghas_any g D F _ _ H.out).mono ?_
      rintro e w' ⟨rfl, rfl⟩
      rw [HB.out]
      go_wp2_with fail
      go_ret2
      exact ⟨by rw [HP.out, HC.out]; rfl, rfl⟩
    | true =>
      have hr : r < 0 ∨ (decide (r < 0) = false ∧ 8 ≤ r) := by
        simp only [rcB, decide_eq_true_eq] at hd
        by_cases h0 : r < 0
        · exact .inl h0
        · exact .inr ⟨by simp; omega, by omega⟩
      have HB := Lib.hid hd
      clear hd hin2
      rcases hr with hr | ⟨hr, hr2⟩
      all_goals
        go_enter Try.func16, Try.ntmps16
        go_wp2_with fail
        refine (ghas_any g D F _ _ H.out).mono ?_
        rintro e w' ⟨rfl, rfl⟩
        rw [HB.out]
        go_wp2_with fail
        go_ret2
        exact ⟨by rw [HP.out, HC.out]; rfl, rfl⟩

theorem gread_any (g D : Nat) (F : Nat → Int) (d r : Int) (w : World) (h : PG w g D F) :
    Calls Try.prog 14 #[.pointer (some ⟨g, 0, none⟩), .int .i64 d, .int .i64 r] w fun e w' => e = .returned (.tuple #[.int .i64 (gxX D F d r), .int .i64 (gxC D d r)]) ∧ w = w' := by
  have H := Lib.hid h
  cases hin : inR D d r with
  | true =>
    have HP := Lib.hid (show gfP g D d r = .pointer (some ⟨g, 1 + ixR d r, none⟩) by simp [gfP, hin])
    have HC := Lib.hid (show gxC D d r = 0 by simp [gxC, hin])
    have HX := Lib.hid (show gxX D F d r = F (ixR d r) by simp [gxX, hin])
    have hD := h.le
    have hk : ixR d r < 32 := by obtain ⟨i, j, rfl, rfl, hi, hj, hij, hix⟩ := inR_way hin; rw [hix]; omega
    have c0 := h.at_ _ hk
    generalize ixR d r = k at *
    clear h hin
    go_enter Try.func14, Try.ntmps14
    go_wp2_with fail
    refine (gfind_any g D F _ _ _ H.out).mono ?_
    rintro e w' ⟨rfl, rfl⟩
    rw [HP.out, HC.out]
    go_wp2_with fail
    go_ret2
    exact ⟨by rw [HX.out, HC.out]; rfl, rfl⟩
  | false =>
    have HP := Lib.hid (show gfP g D d r = .pointer none by simp [gfP, hin])
    have HC := Lib.hid (show gxC D d r = 1400 by simp [gxC, hin])
    have HX := Lib.hid (show gxX D F d r = 0 by simp [gxX, hin])
    clear h hin
    go_enter Try.func14, Try.ntmps14
    go_wp2_with fail
    refine (gfind_any g D F _ _ _ H.out).mono ?_
    rintro e w' ⟨rfl, rfl⟩
    rw [HP.out, HC.out]
    go_wp2_with fail
    go_ret2
    exact ⟨by rw [HX.out, HC.out]; rfl, rfl⟩

theorem gwrite_any (g D : Nat) (F : Nat → Int) (d r x : Int) (w : World) (h : PG w g D F) :
    Calls Try.prog 10 #[.pointer (some ⟨g, 0, none⟩), .int .i64 d, .int .i64 r, .int .i64 x] w fun e w' => e = .returned (.int .i64 (gwC D d r x)) ∧ PG w' g D (gwF D F d r x) ∧ w.grownBy w' (some g) := by
  have H := Lib.hid h
  cases hin : inR D d r with
  | true =>
    have HP := Lib.hid (show gfP g D d r = .pointer (some ⟨g, 1 + ixR d r, none⟩) by simp [gfP, hin])
    have HC := Lib.hid (show gxC D d r = 0 by simp [gxC, hin])
    by_cases hx : 0 ≤ x ∧ x ≤ 65535
    · have HW := Lib.hid (show gwC D d r x = 0 ∧ gwF D F d r x = iF F (ixR d r) x by simp [gwC, gwF, gwB, hin, hx])
      have f0 := h.frozen (1 + ixR d r)
      have hs := h.set (ixR d r) x
      have hg : w.grownBy (w.setCell ⟨g, 1 + ixR d r, none⟩ (.int .i64 x)) (some g) := gone _
      have hD := h.le
      have hk : ixR d r < 32 := by obtain ⟨i, j, rfl, rfl, hi, hj, hij, hix⟩ := inR_way hin; rw [hix]; omega
      have c0 := h.at_ _ hk
      have hx0 : decide (x < 0) = false := by simp; omega
      have hx1 : decide (65535 < x) = false := by simp; omega
      generalize ixR d r = k at *
      have HS := Lib.hid hs; have HG := Lib.hid hg
      clear h hin hs hg hx
      go_enter Try.func10, Try.ntmps10
      go_wp2_with fail
      refine (gfind_any g D F _ _ _ H.out).mono ?_
      rintro e w' ⟨rfl, rfl⟩
      rw [HP.out, HC.out]
      go_wp2_with fail
      go_ret
      exact ⟨by rw [HW.out.1]; rfl, by rw [HW.out.2]; exact HS.out, HG.out⟩
    · have HW := Lib.hid (show gwC D d r x = 1400 ∧ gwF D F d r x = F by simp [gwC, gwF, gwB, hx])
      have hr : x < 0 ∨ (decide (x < 0) = false ∧ 65535 < x) := by
        by_cases h0 : x < 0
        · exact .inl h0
        · exact .inr ⟨by simp; omega, by omega⟩
      clear h hin hx
      rcases hr with hr | ⟨hr, hr2⟩
      all_goals
        go_enter Try.func10, Try.ntmps10
        go_wp2_with fail
        refine (gfind_any g D F _ _ _ H.out).mono ?_
        rintro e w' ⟨rfl, rfl⟩
        rw [HP.out, HC.out]
        go_wp2_with fail
        go_ret
        exact ⟨by rw [HW.out.1]; rfl, by rw [HW.out.2]; exact H.out, grefl _ _⟩
  | false =>
    have HP := Lib.hid (show gfP g D d r = .pointer none by simp [gfP, hin])
    have HC := Lib.hid (show gxC D d r = 1400 by simp [gxC, hin])
    have HW := Lib.hid (show gwC D d r x = 1400 ∧ gwF D F d r x = F by simp [gwC, gwF, gwB, hin])
    clear h hin
    go_enter Try.func10, Try.ntmps10
    go_wp2_with fail
    refine (gfind_any g D F _ _ _ H.out).mono ?_
    rintro e w' ⟨rfl, rfl⟩
    rw [HP.out, HC.out]
    go_wp2_with fail
    go_ret
    exact ⟨by rw [HW.out.1]; rfl, by rw [HW.out.2]; exact H.out, grefl _ _⟩

theorem greset_any (g D : Nat) (F : Nat → Int) (d : Int) (w : World) (h : PG w g D F) :
    Calls Try.prog 12 #[.pointer (some ⟨g, 0, none⟩), .int .i64 d] w fun e w' => e = .returned (.int .i64 (grC D d)) ∧ PG w' g D (grF D F d) ∧ w.grownBy w' (some g) := by
  have H := Lib.hid h
  cases hb : rcB D d with
  | true =>
    have HW := Lib.hid (show grC D d = 0 ∧ grF D F d = zF F d.toNat by simp [grC, grF, hb])
    have hd : 0 ≤ d ∧ d < D := by simpa [rcB] using hb
    obtain ⟨hd0, hd1⟩ := hd
    obtain ⟨i, rfl⟩ := Int.eq_ofNat_of_zero_le hd0
    have hD := h.le
    have hi4 : (i : Int) < 4 := by omega
    obtain ⟨w3, hst, hp3, gr3⟩ := h.wipe i (by omega)
    have HZ := zReg_run
    have hne := zReg_ne
    have hsz := zReg_size
    rw [Int.toNat_natCast] at HW
    have HB := Lib.hid hb; clear hb h
    go_enter Try.func12, Try.ntmps12
    go_wp2_with fail
    refine (ghas_any g D F _ _ H.out).mono ?_
    rintro e w' ⟨rfl, rfl⟩
    rw [HB.out]
    go_wp2_with fail
    go_ret
    exact ⟨by rw [HW.out.1]; rfl, by rw [HW.out.2]; exact hp3, gr3⟩
  | false =>
    have HW := Lib.hid (show grC D d = 1400 ∧ grF D F d = F by simp [grC, grF, hb])
    have HB := Lib.hid hb; clear hb h
    go_enter Try.func12, Try.ntmps12
    go_wp2_with fail
    refine (ghas_any g D F _ _ H.out).mono ?_
    rintro e w' ⟨rfl, rfl⟩
    rw [HB.out]
    go_wp2_with fail
    go_ret
    exact ⟨by rw [HW.out.1]; rfl, by rw [HW.out.2]; exact H.out, grefl _ _⟩

theorem gnew_no (c : Int) (w : World) (h : ¬ (1 ≤ c ∧ c ≤ 4)) :
    Calls Try.prog 6 #[.int .i64 c] w fun e w' => e = .returned (.tuple #[.pointer none, .int .i64 1400]) ∧ w = w' := by
  by_cases h1 : c < 1
  · clear h
    go_enter Try.func6, Try.ntmps6
    go_wp2
    go_ret2
    exact ⟨rfl, rfl⟩
  · have h2 : 4 < c := by omega
    clear h
    go_enter Try.func6, Try.ntmps6
    go_wp2
    go_ret2
    exact ⟨rfl, rfl⟩

/-- The cells of a new one: kept closed to the walk. -/
def zFile : Array Value := (Value.int .i64 0 :: itc noI 32).toArray
theorem zFile_ne : ¬ (zFile = #[]) := by simp [zFile]
theorem zFile_run (w : World) : Sem.run Try.prog (zeroValue 51) w = .ok (.agg zFile) w := by
  have hi : (Try.prog.info? 51).map (fun i => i.zero) = some (some (.agg zFile)) := by kernel_rfl
  cases h : Try.prog.info? 51 with
  | none => rw [h] at hi; cases hi
  | some i =>
    rw [h] at hi
    simp only [Option.map_some, Option.some.injEq] at hi
    simp [zeroValue, typeInfo, h, hi]
theorem zFile_set (c : Int) : zFile.setIfInBounds 0 (.int .i64 c) = (Value.int .i64 c :: itc noI 32).toArray := by simp [zFile]

theorem gnew_yes (c : Nat) (w : World) (h1 : 1 ≤ c) (h2 : c ≤ 4) :
    Calls Try.prog 6 #[.int .i64 c] w fun e w' => ∃ g, e = .returned (.tuple #[.pointer (some ⟨g, 0, none⟩), .int .i64 0]) ∧ Tk nos w [obPG g c noI] w' := by
  have hz := zFile_run
  have hne := zFile_ne
  have h3 : decide ((c : Int) < 1) = false := by simp; omega
  have h4 : decide ((4 : Int) < c) = false := by simp; omega
  go_enter Try.func6, Try.ntmps6
  go_wp2
  go_ret2
  refine ⟨_, rfl, ?_⟩
  rw [zFile_set]
  have t := (Tk.empty w).alloc 51 (Value.int .i64 c :: itc noI 32)
  exact t.wrap1 (fun q => by
    have q := obs_one.1 q
    exact ⟨⟨h2, q.1⟩, q.2⟩)

section
variable {S : Nat → Prop} {W0 : World} {os : List Ob} {i g D : Nat} {F : Nat → Int}
theorem tk_gread (d r : Int) (w : World) (h : Tk S W0 os w) (hi : os[i]? = some (obPG g D F)) :
    Calls Try.prog 14 #[.pointer (some ⟨g, 0, none⟩), .int .i64 d, .int .i64 r] w fun e w' => e = .returned (.tuple #[.int .i64 (gxX D F d r), .int .i64 (gxC D d r)]) ∧ w = w' := gread_any g D F d r w (h.pg hi)
theorem tk_gread_is (d r x c : Int) (w : World) (h : Tk S W0 os w) (hi : os[i]? = some (obPG g D F)) (hx : gxX D F d r = x) (hc : gxC D d r = c) :
    Calls Try.prog 14 #[.pointer (some ⟨g, 0, none⟩), .int .i64 d, .int .i64 r] w fun e w' => e = .returned (.tuple #[.int .i64 x, .int .i64 c]) ∧ w = w' := by
  have := gread_any g D F d r w (h.pg hi)
  rwa [hx, hc] at this
theorem tk_gwrite (d r x : Int) (w : World) (h : Tk S W0 os w) (hi : os[i]? = some (obPG g D F)) :
    Calls Try.prog 10 #[.pointer (some ⟨g, 0, none⟩), .int .i64 d, .int .i64 r, .int .i64 x] w fun e w' => e = .returned (.int .i64 (gwC D d r x)) ∧ Tk S W0 (os.set i (obPG g D (gwF D F d r x))) w' :=
  (gwrite_any g D F d r x w (h.pg hi)).mono fun _ _ ⟨he, hp, hg⟩ => ⟨he, h.setPG hi hp hg⟩
theorem tk_gwrite_is {os' : List Ob} (d r x c : Int) (w : World) (h : Tk S W0 os w) (hi : os[i]? = some (obPG g D F)) (hc : gwC D d r x = c) (ho : os.set i (obPG g D (gwF D F d r x)) = os') :
    Calls Try.prog 10 #[.pointer (some ⟨g, 0, none⟩), .int .i64 d, .int .i64 r, .int .i64 x] w fun e w' => e = .returned (.int .i64 c) ∧ Tk S W0 os' w' := by
  have := tk_gwrite d r x w h hi
  rwa [hc, ho] at this
theorem tk_greset (d : Int) (w : World) (h : Tk S W0 os w) (hi : os[i]? = some (obPG g D F)) :
    Calls Try.prog 12 #[.pointer (some ⟨g, 0, none⟩), .int .i64 d] w fun e w' => e = .returned (.int .i64 (grC D d)) ∧ Tk S W0 (os.set i (obPG g D (grF D F d))) w' :=
  (greset_any g D F d w (h.pg hi)).mono fun _ _ ⟨he, hp, hg⟩ => ⟨he, h.setPG hi hp hg⟩
theorem tk_greset_is {os' : List Ob} (d c : Int) (w : World) (h : Tk S W0 os w) (hi : os[i]? = some (obPG g D F)) (hc : grC D d = c) (ho : os.set i (obPG g D (grF D F d)) = os') :
    Calls Try.prog 12 #[.pointer (some ⟨g, 0, none⟩), .int .i64 d] w fun e w' => e = .returned (.int .i64 c) ∧ Tk S W0 os' w' := by
  have := tk_greset d w h hi
  rwa [hc, ho] at this
end
end Go.Proofs.Ytocjkanhciohmaa
