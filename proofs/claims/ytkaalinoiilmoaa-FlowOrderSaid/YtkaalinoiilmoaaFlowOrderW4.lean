/-
  What the proofs lean on: contracts of the program's functions, plain facts.
-/
import Derived.Laws.MakeOwn
import Derived.Test.YtkaalinoiilmoaaFlowOrderW3
import Derived.StillTailTactics
import Derived.Test.YtkaalinoiilmoaaFlowOrderW1
import Derived.Test.YtkaalinoiilmoaaFlowOrderW2
import Derived.BigQuiet
import Derived.Deep.Slices
import Derived.Deep.Fields
import Derived.ChangeSame
import Derived.WideKeyArgs
import Derived.OpenShut
import Derived.SizedLaws
namespace Go.Proofs.Ytkaalinoiilmoaa
open Go.RowKit Go.ChangeMaps
set_option linter.unusedVariables false
set_option linter.unusedSimpArgs false
set_option maxRecDepth 100000
theorem stcs_set : ∀ (l : List Stp) (k : Nat) (x : Stp), k < l.length →
    (((((((stcs l).set (k * 7) (.int .i64 x.k)).set (k * 7 + 1) (.int .i64 x.p)).set (k * 7 + 2) (.int .i64 x.d)).set (k * 7 + 3) (.int .i64 x.a)).set (k * 7 + 4) (.int .i64 x.b)).set (k * 7 + 5) (.int .i64 x.c)).set (k * 7 + 6) (.string x.s) = stcs (l.set k x) := by
  intro l
  induction l with
  | nil => intro k x h; simp at h
  | cons y l ih =>
    intro k x h
    match k with
    | 0 =>
      rw [List.set_cons_zero, stcs_cons, stcs_cons]
      simp [stc]
    | k + 1 =>
      have := ih k x (by simpa using h)
      rw [List.set_cons_succ, stcs_cons, stcs_cons, ← this, show (k + 1) * 7 = k * 7 + 7 by omega]
      have e : ∀ (m : List Value) (j : Nat) (v : Value), (stc y ++ m).set (j + 7) v = stc y ++ m.set j v := by intro m j v; rfl
      rw [show k * 7 + 7 + 1 = k * 7 + 1 + 7 by omega, show k * 7 + 7 + 2 = k * 7 + 2 + 7 by omega, show k * 7 + 7 + 3 = k * 7 + 3 + 7 by omega, show k * 7 + 7 + 4 = k * 7 + 4 + 7 by omega, show k * 7 + 7 + 5 = k * 7 + 5 + 7 by omega, show k * 7 + 7 + 6 = k * 7 + 6 + 7 by omega]
      simp only [e]
theorem infoStep : (Try.prog.info? 39).map (fun i => (i.zero, i.size, i.bytes)) = some (some (.agg #[.int .i64 0, .int .i64 0, .int .i64 0, .int .i64 0, .int .i64 0, .int .i64 0, .string ⟨#[]⟩]), 7, 64) := by kernel_rfl
theorem made_steps (n : Nat) : madeCells (Value.agg #[.int .i64 0, .int .i64 0, .int .i64 0, .int .i64 0, .int .i64 0, .int .i64 0, .string ⟨#[]⟩]).cells (n * 7) = (stcs (List.replicate n stD)).toArray := by
  apply Array.ext_getElem?
  intro i
  by_cases h : i < n * 7
  · have e := stcs_get (List.replicate n stD) (i / 7) (i % 7) (by rw [List.length_replicate]; omega) (by omega)
    rw [show i / 7 * 7 + i % 7 = i by omega] at e
    have e2 : (List.replicate n stD).getD (i / 7) stD = stD := by
      simp only [List.getD, List.getElem?_replicate]; split <;> rfl
    rw [e2] at e
    have e3 : (stcs (List.replicate n stD)).toArray[i]? = (stcs (List.replicate n stD))[i]? := by simp
    rw [e3, e]
    unfold madeCells
    rw [Array.getElem?_map, Array.getElem?_range]
    rw [if_pos h]
    have h7 := Nat.mod_lt i (show 7 > 0 by omega)
    show some ((#[Value.int .i64 0, .int .i64 0, .int .i64 0, .int .i64 0, .int .i64 0, .int .i64 0, .string ⟨#[]⟩] : Array Value)[i % 7]!) = _
    generalize i % 7 = j at *
    rcases (show j = 0 ∨ j = 1 ∨ j = 2 ∨ j = 3 ∨ j = 4 ∨ j = 5 ∨ j = 6 by omega) with rfl | rfl | rfl | rfl | rfl | rfl | rfl <;> rfl
  · rw [Array.getElem?_eq_none (by rw [size_madeCells]; omega), List.getElem?_toArray, List.getElem?_eq_none (by rw [stcs_len, List.length_replicate]; omega)]
theorem make_steps (n : Nat) (hn : n * 64 ≤ 281474976710656) (W : World) : (Instr.makeSlice 32 (.int .i64 (n : Int)) (.int .i64 (n : Int))).run Try.prog W = .ok (.slice (some ⟨W.heap.size, 0, none⟩) n n) (W.alloc (.cells (stcs (List.replicate n stD)).toArray 39)) := by
  obtain ⟨i0, hi, hz0, hz1, hz2⟩ := info_parts infoStep
  have := run_make (P := Try.prog) W 32 39 i0 _ Try.underlying32 hi hz0 .i64 .i64 n n (by omega) (by omega) (by rw [hz2]; omega) (by omega)
  rw [this, Int.toNat_natCast, hz1, made_steps]
def pgm (P : List Stp) (k : Nat) : List Stp := (List.range P.length).map (fun i => if i < k then P.getD i stD else stD)
theorem pgm_len (P : List Stp) (k : Nat) : (pgm P k).length = P.length := by simp [pgm]
theorem pgm_zero (P : List Stp) : pgm P 0 = List.replicate P.length stD := by
  unfold pgm
  apply List.ext_getElem?
  intro i
  simp only [List.getElem?_map, List.getElem?_replicate]
  by_cases h : i < P.length
  · simp [List.getElem?_range h, h]
  · rw [List.getElem?_eq_none (by simpa using h)]; simp [h]
theorem pgm_all (P : List Stp) : pgm P P.length = P := by
  unfold pgm
  apply List.ext_getElem?
  intro i
  by_cases h : i < P.length
  · simp [List.getElem?_range h, h]
  · rw [List.getElem?_eq_none (by simpa using h), List.getElem?_eq_none (by omega)]
theorem pgm_set (P : List Stp) (k : Nat) (h : k < P.length) : (pgm P k).set k (P.getD k stD) = pgm P (k + 1) := by
  unfold pgm
  apply List.ext_getElem?
  intro i
  rw [List.getElem?_set]
  by_cases hi : i < P.length
  · simp only [List.getElem?_map, List.getElem?_range hi, Option.map_some, List.length_map, List.length_range, h, if_true]
    by_cases e : k = i
    · subst e; simp
    · rw [if_neg e]
      by_cases h2 : i < k
      · rw [if_pos h2, if_pos (by omega)]
      · rw [if_neg h2, if_neg (by omega)]
  · rw [if_neg (by omega), List.getElem?_eq_none (by simpa using hi), List.getElem?_eq_none (by simpa using hi)]
theorem pgm_same (P : List Stp) (k : Nat) (h : P.getD k stD = stD) : pgm P (k + 1) = pgm P k := by
  unfold pgm
  refine List.map_congr_left (fun i _ => ?_)
  by_cases e : i = k
  · subst e; rw [if_pos (by omega), if_neg (by omega), h]
  · by_cases h2 : i < k
    · rw [if_pos (by omega), if_pos h2]
    · rw [if_neg (by omega), if_neg h2]
theorem hdW_t (c : Cf) : ∀ (l : List Stp) (h : Hs), h.t ≤ 1048575 → (hdW c h l).t ≤ 1048575 := by
  intro l
  induction l with
  | nil => exact fun h h1 => h1
  | cons s l ih =>
    intro h h1
    refine ih _ ?_
    unfold hdS
    split
    · split
      · dsimp only; omega
      · exact h1
    · split
      · exact h1
      · exact h1
theorem rowC7 {w : World} {g : Nat} {t : TypeId} {cs : List Value} {a : Nat} (h : Blk w g t cs) (hl : a + 6 < cs.length) : (∃ v, w.cell? ⟨g, a, none⟩ = some v) ∧ (∃ v, w.cell? ⟨g, a + 1, none⟩ = some v) ∧ (∃ v, w.cell? ⟨g, a + 2, none⟩ = some v) ∧ (∃ v, w.cell? ⟨g, a + 3, none⟩ = some v) ∧ (∃ v, w.cell? ⟨g, a + 4, none⟩ = some v) ∧ (∃ v, w.cell? ⟨g, a + 5, none⟩ = some v) ∧ (∃ v, w.cell? ⟨g, a + 6, none⟩ = some v) := by
  have e : ∀ j, j < cs.length → ∃ v, w.cell? ⟨g, j, none⟩ = some v := fun j hj => ⟨_, (h.cell j).trans (List.getElem?_eq_getElem hj)⟩
  exact ⟨e _ (by omega), e _ (by omega), e _ (by omega), e _ (by omega), e _ (by omega), e _ (by omega), e _ hl⟩
section
variable {w : World} {c : Cf} {vp vd vw vg : Value}
set_option maxHeartbeats 2000000 in
theorem vpurge_no (hc : CfAt w vp vd vw vg c) (v : Value) (p : Int) (hno : ¬ (cfMay c = true ∧ inP c.ps.length p = true)) :
    Calls Try.prog 12 #[.agg #[.int .i64 c.fr, vp, vd, .int .i64 c.mj, vw, vg, .int .i64 c.se, .int .i64 c.qu, .int .i64 c.qt], v, .int .i64 p] w fun e w' => e = .returned (.tuple #[.slice none 0 0, .int .i64 2300]) ∧ Below w.heap.size w w' := by
  obtain ⟨hb, hB⟩ := cf_box w c vp vd vw vg
  have HBB := Lib.hid hb; have HB := Lib.hid hB; have HA := Lib.hid (hc.below hB)
  obtain ⟨q0, q1, q2, q3, q4, q5, q6, q7, q8⟩ := cf_at hb
  clear hb hB hc
  have HM := Lib.hid (cmay_any HA.out)
  cases hm : cfMay c with
  | false =>
    rw [hm] at HM
    clear hm hno
    go_enter Try.func12, Try.ntmps12
    go_wp2_with fail
    refine HM.out.mono ?_
    rintro e w1 ⟨rfl, b1⟩
    have HB1 := Lib.hid b1
    clear b1
    go_wp2_with fail
    go_ret2
    exact ⟨rfl, Below.down HB.out HB1.out HB.out.size⟩
  | true =>
    rw [hm] at HM
    have hy : inP c.ps.length p = false := by
      cases h : inP c.ps.length p with
      | false => rfl
      | true => exact absurd ⟨hm, h⟩ hno
    have HH := Lib.hid (fun W hW => (vhaspart_any (w := W) (HA.out.below hW) p))
    rw [hy] at HH
    clear hm hy hno
    go_enter Try.func12, Try.ntmps12
    go_wp2_with fail
    generalize w.alloc (.cells #[.int .i64 c.fr, vp, vd, .int .i64 c.mj, vw, vg, .int .i64 c.se, .int .i64 c.qu, .int .i64 c.qt] 27) = w0 at *
    refine HM.out.mono ?_
    rintro e w1 ⟨rfl, b1⟩
    obtain ⟨q0, q1, q2, q3, q4, q5, q6, q7, q8⟩ := cf_at (HBB.out.below b1 HBB.out.lt)
    have HB1 := Lib.hid b1
    clear b1
    go_wp2_with fail
    refine (HH.out w1 HB1.out).mono ?_
    rintro e w2 ⟨rfl, b2⟩
    have HB2 := Lib.hid (Below.down HB1.out b2 HB1.out.size)
    clear b2
    go_wp2_with fail
    go_ret2
    exact ⟨rfl, Below.down HB.out HB2.out HB.out.size⟩
set_option maxHeartbeats 4000000 in
theorem vpurge_yes (hc : CfAt w vp vd vw vg c) (hm : cfMay c = true) (p : Nat) (hp : p < c.ps.length) (v : Value) (l : List Stp) (hv : Sl w v l.length 7 (stcs l)) (hn : l.length * 64 ≤ 140737488351232) :
    Calls Try.prog 12 #[.agg #[.int .i64 c.fr, vp, vd, .int .i64 c.mj, vw, vg, .int .i64 c.se, .int .i64 c.qu, .int .i64 c.qt], v, .int .i64 (p : Int)] w fun e w' => ∃ g, e = .returned (.tuple #[.slice (some ⟨g, 0, none⟩) l.length l.length, .int .i64 0]) ∧ Tk nos w [obB g 39 (stcs (pgL c p (hsNew c) l))] w' := by
  obtain ⟨hb, hB⟩ := cf_box w c vp vd vw vg
  have HBB := Lib.hid hb; have HB := Lib.hid hB; have HA := Lib.hid (hc.below hB); have HCW := Lib.hid hc
  obtain ⟨q0, q1, q2, q3, q4, q5, q6, q7, q8⟩ := cf_at hb
  have HV := Lib.hid hv
  obtain ⟨A, cap, rfl, hcap, -, -⟩ := hv
  have HM := Lib.hid (cmay_any HA.out)
  have HH := Lib.hid (fun W hW => (vhaspart_any (w := W) (HA.out.below hW) (p : Int)))
  rw [hm] at HM
  rw [inP_at hp] at HH
  have HC := Lib.hid hm; have HP := Lib.hid hp
  clear hb hB hc hm hp
  obtain ⟨n, hl⟩ : ∃ n, l.length = n := ⟨_, rfl⟩
  have HL := Lib.hid hl
  rw [hl] at HV hn ⊢
  have hmk := fun W => make_steps n (by omega) W
  clear hl hcap
  go_enter Try.func12, Try.ntmps12
  go_wp2_with fail
  generalize w.alloc (.cells #[.int .i64 c.fr, vp, vd, .int .i64 c.mj, vw, vg, .int .i64 c.se, .int .i64 c.qu, .int .i64 c.qt] 27) = w0 at *
  refine HM.out.mono ?_
  rintro e w1 ⟨rfl, b1⟩
  obtain ⟨q0, q1, q2, q3, q4, q5, q6, q7, q8⟩ := cf_at (HBB.out.below b1 HBB.out.lt)
  have HB1 := Lib.hid b1
  clear b1
  go_wp2_with fail
  refine (HH.out w1 HB1.out).mono ?_
  rintro e w2 ⟨rfl, b2⟩
  have HB2 := Lib.hid (Below.down HB1.out b2 HB1.out.size)
  clear b2 q0 q1 q2 q3 q4 q5 q6 q7 q8
  obtain ⟨q0, q1, q2, q3, q4, q5, q6, q7, q8⟩ := cf_at (HBB.out.below HB2.out HBB.out.lt)
  go_wp2_with fail
  refine (vhearing_any (HA.out.below HB2.out) HC.out p HP.out).mono ?_
  rintro e w3 ⟨ic, rfl, hic, t3⟩
  have T3 := Lib.hid (show Tk nos w (hO ic c p (hsNew c) []) w3 by
    have := ((Tk.empty w).next (Below.down HB.out HB2.out HB.out.size)).add t3
    rwa [List.append_nil] at this)
  obtain ⟨rfl, rfl, rfl, rfl⟩ := hic
  clear t3 q0 q1 q2 q3 q4 q5 q6 q7 q8
  unfold heV
  go_wp2_with fail
  obtain ⟨P, hP⟩ : ∃ P, pgL c p (hsNew c) l = P := ⟨_, rfl⟩
  have HPL := Lib.hid (show P.length = n by rw [← hP, pgL_len, HL.out])
  have HPA := Lib.hid (fun k (hk : k < n) => (show P.getD k stD = if hdB c p (hdW c (hsNew c) (l.take k)) (l.getD k stD) then l.getD k stD else stD by rw [← hP]; exact pgL_at c p l _ k (by rw [HL.out]; exact hk)))
  have HPE := Lib.hid hP
  have t4 : Tk nos w (hO ic c p (hsNew c) [obB w3.heap.size 39 (stcs (pgm P 0))]) (w3.alloc (.cells (stcs (List.replicate n stD)).toArray 39)) := by
    have := T3.out.alloc 39 (stcs (List.replicate n stD))
    rw [pgm_zero, HPL.out]
    exact this.perm (List.perm_append_comm (l₁ := [_]))
  have T4 := Lib.hid t4
  clear t4 T3 hP hmk
  generalize w3.alloc (.cells (stcs (List.replicate n stD)).toArray 39) = w4 at *
  generalize w3.heap.size = gL at *
  go_loopw [29, 10, 11] (fun i a b wr => ∃ (k : Nat), k ≤ n ∧ i = .int .i64 k ∧ a = a ∧ b = b ∧ Hid (Tk nos w (hO ic c p (hdW c (hsNew c) (l.take k)) [obB gL 39 (stcs (pgm P k))]) wr)) (fun i _ _ _ => n - (intOf i).toNat)
  case atStart => exact ⟨0, by omega, rfl, rfl, rfl, T4⟩
  case round =>
    clear T4
    obtain ⟨k, hkn, rfl, -, -, HT⟩ := hrel
    by_cases hlt : k < n
    · have hltI : (k : Int) < n := by omega
      have hbel := HT.out.below
      obtain ⟨sb, so, rfl, -, c0, c1, c2, c3, c4, c5, c6⟩ := stcs_at (HV.out.below hbel) HL.out k hlt
      have hPA := HPA.out k hlt
      have hW1 := hdW_succ c (hsNew c) l k (by rw [HL.out]; exact hlt)
      have hWt := hdW_t c (l.take k) (hsNew c) (Nat.zero_le _)
      generalize hdW c (hsNew c) (l.take k) = hs at *
      generalize l.getD k stD = x at *
      have t1 := (HT.out.alloc 39 (stc x)).perm (List.perm_append_comm (l₁ := [_]))
      have T1 : Hid (Tk nos w (hO ic c p hs [obB gL 39 (stcs (pgm P k)), obB wr.heap.size 39 (stc x)]) (wr.alloc (.cells (stc x).toArray 39))) := Lib.hid t1
      obtain ⟨s0, s1, s2, s3, s4, s5, s6⟩ := stp_cells (T1.out.blk (i := 7) rfl)
      have HPAk := Lib.hid hPA; have HW1 := Lib.hid hW1; have HWt := Lib.hid hWt
      clear t1 hbel hPA hW1 hWt
      go_wp2_with fail
      refine (tk_hear HC.out HWt.out (HCW.out.below T1.out.below) T1.out x).mono ?_
      rintro e w5 ⟨rfl, t5⟩
      rw [← HW1.out] at t5
      have T5 := Lib.hid t5
      have X5 := t5.blk (i := 6) rfl
      obtain ⟨s0, s1, s2, s3, s4, s5, s6⟩ := stp_cells (t5.blk (i := 7) rfl)
      clear t5 T1 HT
      cases hh : hdB c p hs x with
      | false =>
        have HX := Lib.hid (show pgm P (k + 1) = pgm P k from pgm_same P k (by rw [HPAk.out, hh]; rfl))
        clear hh X5
        go_wp2_with fail
        go_roundw
        case rel => exact ⟨k + 1, by omega, by go_num, trivial, trivial, Lib.hid (by rw [HX.out]; exact T5.out.sub (List.Sublist.append_left (List.sublist_append_left [_] [_]) (hO ic c p _ [])))⟩
        case measure => simp [intOf]; omega
      | true =>
        have HX := Lib.hid (show (pgm P k).set k x = pgm P (k + 1) by rw [← pgm_set P k (by rw [HPL.out]; exact hlt), HPAk.out, hh]; rfl)
        have hlen : k * 7 + 6 < (stcs (pgm P k)).length := by rw [stcs_len, pgm_len, HPL.out]; omega
        have T6 : Hid (Tk nos w (hO ic c p (hdW c (hsNew c) (l.take (k + 1))) [obB gL 39 (stcs (pgm P (k + 1))), obB wr.heap.size 39 (stc x)]) (((((((w5.setCell ⟨gL, k * 7, none⟩ (.int .i64 x.k)).setCell ⟨gL, k * 7 + 1, none⟩ (.int .i64 x.p)).setCell ⟨gL, k * 7 + 2, none⟩ (.int .i64 x.d)).setCell ⟨gL, k * 7 + 3, none⟩ (.int .i64 x.a)).setCell ⟨gL, k * 7 + 4, none⟩ (.int .i64 x.b)).setCell ⟨gL, k * 7 + 5, none⟩ (.int .i64 x.c)).setCell ⟨gL, k * 7 + 6, none⟩ (.string x.s))) := Lib.hid (by
          have t6 := ((((((T5.out.store (i := 6) rfl (k * 7) (.int .i64 x.k)).store (i := 6) rfl (k * 7 + 1) (.int .i64 x.p)).store (i := 6) rfl (k * 7 + 2) (.int .i64 x.d)).store (i := 6) rfl (k * 7 + 3) (.int .i64 x.a)).store (i := 6) rfl (k * 7 + 4) (.int .i64 x.b)).store (i := 6) rfl (k * 7 + 5) (.int .i64 x.c)).store (i := 6) rfl (k * 7 + 6) (.string x.s)
          rw [← HX.out, ← stcs_set _ k x (by rw [pgm_len, HPL.out]; exact hlt)]
          exact t6)
        obtain ⟨⟨v0, d0⟩, ⟨v1, d1⟩, ⟨v2, d2⟩, ⟨v3, d3⟩, ⟨v4, d4⟩, ⟨v5, d5⟩, ⟨v6, d6⟩⟩ := rowC7 X5 hlen
        have f0 := X5.frozen (k * 7)
        have f1 := X5.frozen (k * 7 + 1)
        have f2 := X5.frozen (k * 7 + 2)
        have f3 := X5.frozen (k * 7 + 3)
        have f4 := X5.frozen (k * 7 + 4)
        have f5 := X5.frozen (k * 7 + 5)
        have f6 := X5.frozen (k * 7 + 6)
        clear hh X5 hlen
        go_wp2_with fail
        go_roundw
        case rel => exact ⟨k + 1, by omega, by go_num, trivial, trivial, Lib.hid (T6.out.sub (List.Sublist.append_left (List.sublist_append_left [_] [_]) (hO ic c p _ [])))⟩
        case measure => simp [intOf]; omega
    · obtain rfl : k = n := by omega
      have hlk : l.take k = l := List.take_of_length_le (by rw [HL.out]; omega)
      have hpk : pgm P k = P := by rw [← HPL.out]; exact pgm_all P
      rw [hpk] at HT
      clear hlk hpk
      go_wp2_with fail
      go_ret2
      exact ⟨gL, rfl, by rw [HPE.out]; exact HT.out.sub (List.sublist_append_right (hO ic c p _ []) [_])⟩
end
end Go.Proofs.Ytkaalinoiilmoaa
namespace Go.Proofs.Ytkaalinoiilmoaa
open Go.RowKit
set_option linter.unusedVariables false
set_option linter.unusedSimpArgs false
set_option maxRecDepth 100000
def dec (x : De × Value) : List Value := [.int .i64 x.1.pt, x.2]
def dcl (L : List (De × Value)) : List Value := L.flatMap dec
theorem dcl_get (L : List (De × Value)) : ∀ i (h : i < L.length), (dcl L)[i * 2]? = some (.int .i64 L[i].1.pt) ∧ (dcl L)[i * 2 + 1]? = some L[i].2 := by
  induction L with
  | nil => intro i h; simp at h
  | cons p L ih =>
    intro i h
    have e : dcl (p :: L) = dec p ++ dcl L := by simp [dcl]
    match i with
    | 0 => rw [e]; simp [dec]
    | i + 1 =>
      have := ih i (by simpa using h)
      have hp : (dec p).length = 2 := rfl
      rw [e, List.getElem?_append_right (by omega), List.getElem?_append_right (by omega), hp]
      rw [show (i + 1) * 2 - 2 = i * 2 by omega, show (i + 1) * 2 + 1 - 2 = i * 2 + 1 by omega]
      simpa using this
end Go.Proofs.Ytkaalinoiilmoaa
namespace Go.Proofs.Ytkaalinoiilmoaa
open Go.RowKit
set_option linter.unusedVariables false
set_option linter.unusedSimpArgs false
set_option maxRecDepth 100000
structure P9 (w : World) (b1 b2 b3 b4 b5 b6 b7 b8 b9 : Nat) (x1 x2 x3 x4 x5 x6 x7 x8 x9 : List Value) : Prop where
  k1 : Blk w b1 3 x1
  k2 : Blk w b2 3 x2
  k3 : Blk w b3 3 x3
  k4 : Blk w b4 48 x4
  k5 : Blk w b5 3 x5
  k6 : Blk w b6 3 x6
  k7 : Blk w b7 64 x7
  k8 : Blk w b8 66 x8
  k9 : Blk w b9 50 x9
  ord : b1 < b2 ∧ b2 < b3 ∧ b3 < b4 ∧ b4 < b5 ∧ b5 < b6 ∧ b6 < b7 ∧ b7 < b8 ∧ b8 < b9
section
variable {w w' : World} {b1 b2 b3 b4 b5 b6 b7 b8 b9 : Nat} {x1 x2 x3 x4 x5 x6 x7 x8 x9 : List Value}
theorem P9.below (h : P9 w b1 b2 b3 b4 b5 b6 b7 b8 b9 x1 x2 x3 x4 x5 x6 x7 x8 x9) (hb : Below w.heap.size w w') : P9 w' b1 b2 b3 b4 b5 b6 b7 b8 b9 x1 x2 x3 x4 x5 x6 x7 x8 x9 :=
  ⟨h.k1.below hb h.k1.lt, h.k2.below hb h.k2.lt, h.k3.below hb h.k3.lt, h.k4.below hb h.k4.lt, h.k5.below hb h.k5.lt, h.k6.below hb h.k6.lt, h.k7.below hb h.k7.lt, h.k8.below hb h.k8.lt, h.k9.below hb h.k9.lt, h.ord⟩
theorem P9.far (h : P9 w b1 b2 b3 b4 b5 b6 b7 b8 b9 x1 x2 x3 x4 x5 x6 x7 x8 x9) {p : Addr} (hp : p.block < b1 ∨ b9 < p.block) (u : Value) : P9 (w.setCell p u) b1 b2 b3 b4 b5 b6 b7 b8 b9 x1 x2 x3 x4 x5 x6 x7 x8 x9 := by
  obtain ⟨o1, o2, o3, o4, o5, o6, o7, o8⟩ := h.ord
  exact ⟨h.k1.far (show b1 ≠ p.block by omega) u, h.k2.far (show b2 ≠ p.block by omega) u, h.k3.far (show b3 ≠ p.block by omega) u, h.k4.far (show b4 ≠ p.block by omega) u, h.k5.far (show b5 ≠ p.block by omega) u, h.k6.far (show b6 ≠ p.block by omega) u, h.k7.far (show b7 ≠ p.block by omega) u, h.k8.far (show b8 ≠ p.block by omega) u, h.k9.far (show b9 ≠ p.block by omega) u, h.ord⟩
theorem P9.s1 (h : P9 w b1 b2 b3 b4 b5 b6 b7 b8 b9 x1 x2 x3 x4 x5 x6 x7 x8 x9) (k : Nat) (u : Value) : P9 (w.setCell ⟨b1, k, none⟩ u) b1 b2 b3 b4 b5 b6 b7 b8 b9 (x1.set k u) x2 x3 x4 x5 x6 x7 x8 x9 := by
  obtain ⟨o1, o2, o3, o4, o5, o6, o7, o8⟩ := h.ord
  exact ⟨h.k1.set k u, h.k2.far (show b2 ≠ b1 by omega) u, h.k3.far (show b3 ≠ b1 by omega) u, h.k4.far (show b4 ≠ b1 by omega) u, h.k5.far (show b5 ≠ b1 by omega) u, h.k6.far (show b6 ≠ b1 by omega) u, h.k7.far (show b7 ≠ b1 by omega) u, h.k8.far (show b8 ≠ b1 by omega) u, h.k9.far (show b9 ≠ b1 by omega) u, h.ord⟩
theorem P9.s2 (h : P9 w b1 b2 b3 b4 b5 b6 b7 b8 b9 x1 x2 x3 x4 x5 x6 x7 x8 x9) (k : Nat) (u : Value) : P9 (w.setCell ⟨b2, k, none⟩ u) b1 b2 b3 b4 b5 b6 b7 b8 b9 x1 (x2.set k u) x3 x4 x5 x6 x7 x8 x9 := by
  obtain ⟨o1, o2, o3, o4, o5, o6, o7, o8⟩ := h.ord
  exact ⟨h.k1.far (show b1 ≠ b2 by omega) u, h.k2.set k u, h.k3.far (show b3 ≠ b2 by omega) u, h.k4.far (show b4 ≠ b2 by omega) u, h.k5.far (show b5 ≠ b2 by omega) u, h.k6.far (show b6 ≠ b2 by omega) u, h.k7.far (show b7 ≠ b2 by omega) u, h.k8.far (show b8 ≠ b2 by omega) u, h.k9.far (show b9 ≠ b2 by omega) u, h.ord⟩
theorem P9.s3 (h : P9 w b1 b2 b3 b4 b5 b6 b7 b8 b9 x1 x2 x3 x4 x5 x6 x7 x8 x9) (k : Nat) (u : Value) : P9 (w.setCell ⟨b3, k, none⟩ u) b1 b2 b3 b4 b5 b6 b7 b8 b9 x1 x2 (x3.set k u) x4 x5 x6 x7 x8 x9 := by
  obtain ⟨o1, o2, o3, o4, o5, o6, o7, o8⟩ := h.ord
  exact ⟨h.k1.far (show b1 ≠ b3 by omega) u, h.k2.far (show b2 ≠ b3 by omega) u, h.k3.set k u, h.k4.far (show b4 ≠ b3 by omega) u, h.k5.far (show b5 ≠ b3 by omega) u, h.k6.far (show b6 ≠ b3 by omega) u, h.k7.far (show b7 ≠ b3 by omega) u, h.k8.far (show b8 ≠ b3 by omega) u, h.k9.far (show b9 ≠ b3 by omega) u, h.ord⟩
theorem P9.s4 (h : P9 w b1 b2 b3 b4 b5 b6 b7 b8 b9 x1 x2 x3 x4 x5 x6 x7 x8 x9) (k : Nat) (u : Value) : P9 (w.setCell ⟨b4, k, none⟩ u) b1 b2 b3 b4 b5 b6 b7 b8 b9 x1 x2 x3 (x4.set k u) x5 x6 x7 x8 x9 := by
  obtain ⟨o1, o2, o3, o4, o5, o6, o7, o8⟩ := h.ord
  exact ⟨h.k1.far (show b1 ≠ b4 by omega) u, h.k2.far (show b2 ≠ b4 by omega) u, h.k3.far (show b3 ≠ b4 by omega) u, h.k4.set k u, h.k5.far (show b5 ≠ b4 by omega) u, h.k6.far (show b6 ≠ b4 by omega) u, h.k7.far (show b7 ≠ b4 by omega) u, h.k8.far (show b8 ≠ b4 by omega) u, h.k9.far (show b9 ≠ b4 by omega) u, h.ord⟩
theorem P9.s5 (h : P9 w b1 b2 b3 b4 b5 b6 b7 b8 b9 x1 x2 x3 x4 x5 x6 x7 x8 x9) (k : Nat) (u : Value) : P9 (w.setCell ⟨b5, k, none⟩ u) b1 b2 b3 b4 b5 b6 b7 b8 b9 x1 x2 x3 x4 (x5.set k u) x6 x7 x8 x9 := by
  obtain ⟨o1, o2, o3, o4, o5, o6, o7, o8⟩ := h.ord
  exact ⟨h.k1.far (show b1 ≠ b5 by omega) u, h.k2.far (show b2 ≠ b5 by omega) u, h.k3.far (show b3 ≠ b5 by omega) u, h.k4.far (show b4 ≠ b5 by omega) u, h.k5.set k u, h.k6.far (show b6 ≠ b5 by omega) u, h.k7.far (show b7 ≠ b5 by omega) u, h.k8.far (show b8 ≠ b5 by omega) u, h.k9.far (show b9 ≠ b5 by omega) u, h.ord⟩
theorem P9.s6 (h : P9 w b1 b2 b3 b4 b5 b6 b7 b8 b9 x1 x2 x3 x4 x5 x6 x7 x8 x9) (k : Nat) (u : Value) : P9 (w.setCell ⟨b6, k, none⟩ u) b1 b2 b3 b4 b5 b6 b7 b8 b9 x1 x2 x3 x4 x5 (x6.set k u) x7 x8 x9 := by
  obtain ⟨o1, o2, o3, o4, o5, o6, o7, o8⟩ := h.ord
  exact ⟨h.k1.far (show b1 ≠ b6 by omega) u, h.k2.far (show b2 ≠ b6 by omega) u, h.k3.far (show b3 ≠ b6 by omega) u, h.k4.far (show b4 ≠ b6 by omega) u, h.k5.far (show b5 ≠ b6 by omega) u, h.k6.set k u, h.k7.far (show b7 ≠ b6 by omega) u, h.k8.far (show b8 ≠ b6 by omega) u, h.k9.far (show b9 ≠ b6 by omega) u, h.ord⟩
theorem P9.s9 (h : P9 w b1 b2 b3 b4 b5 b6 b7 b8 b9 x1 x2 x3 x4 x5 x6 x7 x8 x9) (k : Nat) (u : Value) : P9 (w.setCell ⟨b9, k, none⟩ u) b1 b2 b3 b4 b5 b6 b7 b8 b9 x1 x2 x3 x4 x5 x6 x7 x8 (x9.set k u) := by
  obtain ⟨o1, o2, o3, o4, o5, o6, o7, o8⟩ := h.ord
  exact ⟨h.k1.far (show b1 ≠ b9 by omega) u, h.k2.far (show b2 ≠ b9 by omega) u, h.k3.far (show b3 ≠ b9 by omega) u, h.k4.far (show b4 ≠ b9 by omega) u, h.k5.far (show b5 ≠ b9 by omega) u, h.k6.far (show b6 ≠ b9 by omega) u, h.k7.far (show b7 ≠ b9 by omega) u, h.k8.far (show b8 ≠ b9 by omega) u, h.k9.set k u, h.ord⟩
end
def Rw (w : World) (v : Value) (l : List Int) : Prop := ∃ A c, v = .slice A l.length c ∧ Sl w v l.length 1 (ints l) ∧ (A = none → c = 0)
theorem Sl.blk {w : World} {b n cap size : Nat} {T : TypeId} {xs ys : List Value} (h : Blk w b T (xs ++ ys)) (hc : n ≤ cap) (hl : xs.length = n * size) : Sl w (.slice (some ⟨b, 0, none⟩) n cap) n size xs :=
  ⟨_, cap, rfl, hc, hl, fun h0 => ⟨b, 0, rfl, h.lt, fun j u hu => by
    rw [Nat.zero_add, h.cell, List.getElem?_append_left (by have := (List.getElem?_eq_some_iff.1 hu).1; exact this)]
    exact hu⟩⟩
theorem Sl.blk0 {w : World} {b n cap size : Nat} {T : TypeId} {xs : List Value} (h : Blk w b T xs) (hc : n ≤ cap) (hl : xs.length = n * size) : Sl w (.slice (some ⟨b, 0, none⟩) n cap) n size xs :=
  Sl.blk (ys := []) (by rw [List.append_nil]; exact h) hc hl
theorem Rw.blk {w : World} {b cap : Nat} {T : TypeId} {l : List Int} (h : Blk w b T (ints l)) (hc : l.length ≤ cap) : Rw w (.slice (some ⟨b, 0, none⟩) l.length cap) l :=
  ⟨_, cap, rfl, Sl.blk0 h hc (by rw [ints_len]; omega), fun e => by cases e⟩
theorem Rw.nil (w : World) : Rw w (.slice none 0 0) [] := ⟨_, _, rfl, ⟨none, 0, rfl, Nat.le_refl _, rfl, fun h => absurd h (by simp)⟩, fun _ => rfl⟩
theorem all3 {α : Type} {p : α → Prop} {a b c : α} (h1 : p a) (h2 : p b) (h3 : p c) : ∀ x ∈ [a, b, c], p x := by
  intro x hx
  simp only [List.mem_cons, List.not_mem_nil, or_false] at hx
  rcases hx with rfl | rfl | rfl
  · exact h1
  · exact h2
  · exact h3
theorem all2 {α : Type} {p : α → Prop} {a b : α} (h1 : p a) (h2 : p b) : ∀ x ∈ [a, b], p x := by
  intro x hx
  simp only [List.mem_cons, List.not_mem_nil, or_false] at hx
  rcases hx with rfl | rfl
  · exact h1
  · exact h2
theorem PaS.blk {w : World} {b n cap : Nat} {L : List (Pa × Value)} {l : List Pa} (e : L.map (·.1) = l) (hn : n = l.length) (h : Blk w b 48 (pcl L)) (hf : ∀ x ∈ L, Rw w x.2 x.1.fr) : PaS w (.slice (some ⟨b, 0, none⟩) n cap) l := by
  subst hn
  have hl : l.length = L.length := by rw [← e, List.length_map]
  refine ⟨_, cap, rfl, fun h0 => ⟨b, 0, rfl, h.lt, fun i hi => ?_⟩⟩
  have hi' : i < L.length := by omega
  obtain ⟨h0, h1, h2, h3, h4⟩ := pcl_get L i hi'
  have hg : l.getD i paD = L[i].1 := by
    subst e
    simp [List.getD, List.getElem?_map, List.getElem?_eq_getElem hi']
  obtain ⟨A2, c2, e2, hs, hnl⟩ := hf _ (List.getElem_mem hi')
  rw [hg]
  rw [e2] at h2 hs
  simp only [Nat.zero_add]
  exact ⟨A2, c2, (h.cell _).trans h0, (h.cell _).trans h1, (h.cell _).trans h2, (h.cell _).trans h3, (h.cell _).trans h4, hs, hnl⟩
theorem PaS.nil (w : World) : PaS w (.slice none 0 0) [] := ⟨none, 0, rfl, fun h => absurd h (by simp)⟩
theorem DeS.blk {w : World} {b n cap : Nat} {L : List (De × Value)} {l : List De} (e : L.map (·.1) = l) (hn : n = l.length) (h : Blk w b 64 (dcl L)) (hf : ∀ x ∈ L, Rw w x.2 x.1.po) : DeS w (.slice (some ⟨b, 0, none⟩) n cap) l := by
  subst hn
  have hl : l.length = L.length := by rw [← e, List.length_map]
  refine ⟨_, cap, rfl, fun h0 => ⟨b, 0, rfl, h.lt, fun i hi => ?_⟩⟩
  have hi' : i < L.length := by omega
  obtain ⟨h0, h1⟩ := dcl_get L i hi'
  have hg : l.getD i deD = L[i].1 := by
    subst e
    simp [List.getD, List.getElem?_map, List.getElem?_eq_getElem hi']
  obtain ⟨A2, c2, e2, hs, hnl⟩ := hf _ (List.getElem_mem hi')
  rw [hg]
  rw [e2] at h1 hs
  simp only [Nat.zero_add]
  exact ⟨A2, c2, (h.cell _).trans h0, (h.cell _).trans h1, hs, hnl⟩
theorem DeS.nil (w : World) : DeS w (.slice none 0 0) [] := ⟨none, 0, rfl, fun h => absurd h (by simp)⟩
theorem Ws.nil (w : World) : Ws w (.slice none 0 0) 0 [] := ⟨⟨none, 0, rfl, Nat.le_refl _, rfl, fun h => absurd h (by simp)⟩, rfl, by unfold maxLen; omega, fun x hx => by cases hx⟩
theorem paz_of {l : List Pa} (hl : l.length ≤ 1000) (h : ∀ x ∈ l, x.fr.length ≤ 1000) : PaZ l := by
  refine ⟨by omega, fun i => ?_⟩
  by_cases hi : i < l.length
  · have := h _ (List.getElem_mem hi)
    simp only [List.getD, List.getElem?_eq_getElem hi, Option.getD_some]; omega
  · simp [List.getD, List.getElem?_eq_none (show l.length ≤ i by omega), paD]
theorem dez_of {l : List De} (hl : l.length ≤ 1000) (h : ∀ x ∈ l, x.po.length ≤ 1000) : DeZ l := by
  refine ⟨by omega, fun i => ?_⟩
  by_cases hi : i < l.length
  · have := h _ (List.getElem_mem hi)
    simp only [List.getD, List.getElem?_eq_getElem hi, Option.getD_some]; omega
  · simp [List.getD, List.getElem?_eq_none (show l.length ≤ i by omega), deD]
theorem some_nil {a : Addr} {n c : Nat} : ∀ m k, Value.slice (some a) n c = .slice none m k → k = 0 := fun m k e => by cases e
def plL (b1 b2 b3 : Nat) : List (Pa × Value) := [(⟨0, 0, [0, 1, 2], 0, 4⟩, .slice (some ⟨b1, 0, none⟩) 3 3), (⟨2, 0, [3, 4], 4, 4⟩, .slice (some ⟨b2, 0, none⟩) 2 2), (⟨1, 2, [5, 6], 8, 2⟩, .slice (some ⟨b3, 0, none⟩) 2 2)]
def plM (b5 b6 : Nat) : List (De × Value) := [(⟨0, [8, 9, 10]⟩, .slice (some ⟨b5, 0, none⟩) 3 3), (⟨2, [11, 12]⟩, .slice (some ⟨b6, 0, none⟩) 2 2)]
def plW : List Win := [⟨0, 0, 2, 1⟩, ⟨1, 2, 2, 2⟩, ⟨2, 4, 2, 5⟩]
def plG : List Gr := [⟨2, 2, false⟩]
def plP : List Pa := [⟨0, 0, [0, 1, 2], 0, 4⟩, ⟨2, 0, [3, 4], 4, 4⟩, ⟨1, 2, [5, 6], 8, 2⟩]
def plD_Ch3 : List De := [⟨0, [8, 9, 10]⟩, ⟨2, [11, 12]⟩]
def plC : Cf := ⟨16, plP, plD_Ch3, 6, plW, plG, 10, 6, 2⟩
theorem plW64 : ∀ x ∈ plW, W64 x := all3 (by unfold W64; simp) (by unfold W64; simp) (by unfold W64; simp)
abbrev Pl9 (w : World) (b1 b2 b3 b4 b5 b6 b7 b8 b9 : Nat) : Prop := P9 w b1 b2 b3 b4 b5 b6 b7 b8 b9 (ints [0, 1, 2]) (ints [3, 4]) (ints [5, 6]) (pcl (plL b1 b2 b3)) (ints [8, 9, 10]) (ints [11, 12]) (dcl (plM b5 b6)) (ints (wins plW)) (grs plG)
theorem paz_pl : PaZ plP := paz_of (by decide) (all3 (by decide) (by decide) (by decide))
theorem dez_pl : DeZ plD_Ch3 := dez_of (by decide) (all2 (by decide) (by decide))
section
variable {w : World} {b1 b2 b3 b4 b5 b6 b7 b8 b9 : Nat} {x1 x2 x3 x4 x5 x6 x7 x8 x9 : List Value}
theorem P9.ps (h : P9 w b1 b2 b3 b4 b5 b6 b7 b8 b9 (ints [0, 1, 2]) (ints [3, 4]) (ints [5, 6]) (pcl (plL b1 b2 b3)) x5 x6 x7 x8 x9) : PaS w (.slice (some ⟨b4, 0, none⟩) 3 3) plP := PaS.blk rfl rfl h.k4 (all3 (Rw.blk h.k1 (by decide)) (Rw.blk h.k2 (by decide)) (Rw.blk h.k3 (by decide)))
theorem P9.ds (h : P9 w b1 b2 b3 b4 b5 b6 b7 b8 b9 x1 x2 x3 x4 (ints [8, 9, 10]) (ints [11, 12]) (dcl (plM b5 b6)) x8 x9) : DeS w (.slice (some ⟨b7, 0, none⟩) 2 2) plD_Ch3 := DeS.blk rfl rfl h.k7 (all2 (Rw.blk h.k5 (by decide)) (Rw.blk h.k6 (by decide)))
theorem P9.ws (h : P9 w b1 b2 b3 b4 b5 b6 b7 b8 b9 x1 x2 x3 x4 x5 x6 x7 (ints (wins plW)) x9) : Ws w (.slice (some ⟨b8, 0, none⟩) 3 3) 3 plW := ⟨Sl.blk0 h.k8 (by decide) rfl, rfl, by unfold maxLen; omega, plW64⟩
theorem P9.gs (h : P9 w b1 b2 b3 b4 b5 b6 b7 b8 b9 x1 x2 x3 x4 x5 x6 x7 x8 (grs plG)) : Sl w (.slice (some ⟨b9, 0, none⟩) 1 1) 1 3 (grs plG) := Sl.blk0 h.k9 (by decide) rfl
theorem Pl9.cf (h : Pl9 w b1 b2 b3 b4 b5 b6 b7 b8 b9) : CfAt w (.slice (some ⟨b4, 0, none⟩) 3 3) (.slice (some ⟨b7, 0, none⟩) 2 2) (.slice (some ⟨b8, 0, none⟩) 3 3) (.slice (some ⟨b9, 0, none⟩) 1 1) plC :=
  ⟨P9.ps h, paz_pl, P9.ds h, dez_pl, P9.ws h, by decide, some_nil, P9.gs h, by decide, some_nil⟩
end
def PlainIs (w : World) (e : Ending) (w' : World) : Prop := ∃ b1 b2 b3 b4 b5 b6 b7 b8 b9, e = .returned (.agg #[.int .i64 16, .slice (some ⟨b4, 0, none⟩) 3 3, .slice (some ⟨b7, 0, none⟩) 2 2, .int .i64 6, .slice (some ⟨b8, 0, none⟩) 3 3, .slice (some ⟨b9, 0, none⟩) 1 1, .int .i64 10, .int .i64 6, .int .i64 2]) ∧ Pl9 w' b1 b2 b3 b4 b5 b6 b7 b8 b9 ∧ w.heap.size ≤ b1 ∧ b9 < w'.heap.size ∧ Below w.heap.size w w'
end Go.Proofs.Ytkaalinoiilmoaa
namespace Go.Proofs.Ytkaalinoiilmoaa
open Go.RowKit
set_option linter.unusedVariables false
set_option maxRecDepth 100000
set_option maxHeartbeats 1000000 in
theorem plain23_any (w : World) : Calls Try.prog 15 #[] w (PlainIs w) := by
  go_enter Try.func15, Try.ntmps15
  go_wp2_with fail
  have h0 : Blk ((((((((((w.alloc (.cells #[.int .i64 16, .slice (some ⟨w.heap.size + 1 + 1 + 1 + 1, 0, none⟩) 3 3, .slice (some ⟨w.heap.size + 1 + 1 + 1 + 1 + 1 + 1 + 1, 0, none⟩) 2 2, .int .i64 6, .slice (some ⟨w.heap.size + 1 + 1 + 1 + 1 + 1 + 1 + 1 + 1, 0, none⟩) 3 3, .slice (some ⟨w.heap.size + 1 + 1 + 1 + 1 + 1 + 1 + 1 + 1 + 1, 0, none⟩) 1 1, .int .i64 10, .int .i64 6, .int .i64 2] 27)).alloc (.cells #[.int .i64 0, .int .i64 1, .int .i64 2] 3)).alloc (.cells #[.int .i64 3, .int .i64 4] 3)).alloc (.cells #[.int .i64 5, .int .i64 6] 3)).alloc (.cells #[.int .i64 0, .int .i64 0, .slice (some ⟨w.heap.size + 1, 0, none⟩) 3 3, .int .i64 0, .int .i64 4, .int .i64 2, .int .i64 0, .slice (some ⟨w.heap.size + 1 + 1, 0, none⟩) 2 2, .int .i64 4, .int .i64 4, .int .i64 1, .int .i64 2, .slice (some ⟨w.heap.size + 1 + 1 + 1, 0, none⟩) 2 2, .int .i64 8, .int .i64 2] 48)).alloc (.cells #[.int .i64 8, .int .i64 9, .int .i64 10] 3)).alloc (.cells #[.int .i64 11, .int .i64 12] 3)).alloc (.cells #[.int .i64 0, .slice (some ⟨w.heap.size + 1 + 1 + 1 + 1 + 1, 0, none⟩) 3 3, .int .i64 2, .slice (some ⟨w.heap.size + 1 + 1 + 1 + 1 + 1 + 1, 0, none⟩) 2 2] 64)).alloc (.cells #[.int .i64 0, .int .i64 0, .int .i64 2, .int .i64 1, .int .i64 1, .int .i64 2, .int .i64 2, .int .i64 2, .int .i64 2, .int .i64 4, .int .i64 2, .int .i64 5] 66)).alloc (.cells #[.int .i64 2, .int .i64 2, .bool false] 50)) (w.heap.size) 27 [.int .i64 16, .slice (some ⟨w.heap.size + 1 + 1 + 1 + 1, 0, none⟩) 3 3, .slice (some ⟨w.heap.size + 1 + 1 + 1 + 1 + 1 + 1 + 1, 0, none⟩) 2 2, .int .i64 6, .slice (some ⟨w.heap.size + 1 + 1 + 1 + 1 + 1 + 1 + 1 + 1, 0, none⟩) 3 3, .slice (some ⟨w.heap.size + 1 + 1 + 1 + 1 + 1 + 1 + 1 + 1 + 1, 0, none⟩) 1 1, .int .i64 10, .int .i64 6, .int .i64 2] := by
    have := (((((((((Blk.new w 27 [.int .i64 16, .slice (some ⟨w.heap.size + 1 + 1 + 1 + 1, 0, none⟩) 3 3, .slice (some ⟨w.heap.size + 1 + 1 + 1 + 1 + 1 + 1 + 1, 0, none⟩) 2 2, .int .i64 6, .slice (some ⟨w.heap.size + 1 + 1 + 1 + 1 + 1 + 1 + 1 + 1, 0, none⟩) 3 3, .slice (some ⟨w.heap.size + 1 + 1 + 1 + 1 + 1 + 1 + 1 + 1 + 1, 0, none⟩) 1 1, .int .i64 10, .int .i64 6, .int .i64 2]).alloc (.cells #[.int .i64 0, .int .i64 1, .int .i64 2] 3)).alloc (.cells #[.int .i64 3, .int .i64 4] 3)).alloc (.cells #[.int .i64 5, .int .i64 6] 3)).alloc (.cells #[.int .i64 0, .int .i64 0, .slice (some ⟨w.heap.size + 1, 0, none⟩) 3 3, .int .i64 0, .int .i64 4, .int .i64 2, .int .i64 0, .slice (some ⟨w.heap.size + 1 + 1, 0, none⟩) 2 2, .int .i64 4, .int .i64 4, .int .i64 1, .int .i64 2, .slice (some ⟨w.heap.size + 1 + 1 + 1, 0, none⟩) 2 2, .int .i64 8, .int .i64 2] 48)).alloc (.cells #[.int .i64 8, .int .i64 9, .int .i64 10] 3)).alloc (.cells #[.int .i64 11, .int .i64 12] 3)).alloc (.cells #[.int .i64 0, .slice (some ⟨w.heap.size + 1 + 1 + 1 + 1 + 1, 0, none⟩) 3 3, .int .i64 2, .slice (some ⟨w.heap.size + 1 + 1 + 1 + 1 + 1 + 1, 0, none⟩) 2 2] 64)).alloc (.cells #[.int .i64 0, .int .i64 0, .int .i64 2, .int .i64 1, .int .i64 1, .int .i64 2, .int .i64 2, .int .i64 2, .int .i64 2, .int .i64 4, .int .i64 2, .int .i64 5] 66)).alloc (.cells #[.int .i64 2, .int .i64 2, .bool false] 50)
    try simp only [World.size_alloc] at this
    exact this
  have h1 : Blk ((((((((((w.alloc (.cells #[.int .i64 16, .slice (some ⟨w.heap.size + 1 + 1 + 1 + 1, 0, none⟩) 3 3, .slice (some ⟨w.heap.size + 1 + 1 + 1 + 1 + 1 + 1 + 1, 0, none⟩) 2 2, .int .i64 6, .slice (some ⟨w.heap.size + 1 + 1 + 1 + 1 + 1 + 1 + 1 + 1, 0, none⟩) 3 3, .slice (some ⟨w.heap.size + 1 + 1 + 1 + 1 + 1 + 1 + 1 + 1 + 1, 0, none⟩) 1 1, .int .i64 10, .int .i64 6, .int .i64 2] 27)).alloc (.cells #[.int .i64 0, .int .i64 1, .int .i64 2] 3)).alloc (.cells #[.int .i64 3, .int .i64 4] 3)).alloc (.cells #[.int .i64 5, .int .i64 6] 3)).alloc (.cells #[.int .i64 0, .int .i64 0, .slice (some ⟨w.heap.size + 1, 0, none⟩) 3 3, .int .i64 0, .int .i64 4, .int .i64 2, .int .i64 0, .slice (some ⟨w.heap.size + 1 + 1, 0, none⟩) 2 2, .int .i64 4, .int .i64 4, .int .i64 1, .int .i64 2, .slice (some ⟨w.heap.size + 1 + 1 + 1, 0, none⟩) 2 2, .int .i64 8, .int .i64 2] 48)).alloc (.cells #[.int .i64 8, .int .i64 9, .int .i64 10] 3)).alloc (.cells #[.int .i64 11, .int .i64 12] 3)).alloc (.cells #[.int .i64 0, .slice (some ⟨w.heap.size + 1 + 1 + 1 + 1 + 1, 0, none⟩) 3 3, .int .i64 2, .slice (some ⟨w.heap.size + 1 + 1 + 1 + 1 + 1 + 1, 0, none⟩) 2 2] 64)).alloc (.cells #[.int .i64 0, .int .i64 0, .int .i64 2, .int .i64 1, .int .i64 1, .int .i64 2, .int .i64 2, .int .i64 2, .int .i64 2, .int .i64 4, .int .i64 2, .int .i64 5] 66)).alloc (.cells #[.int .i64 2, .int .i64 2, .bool false] 50)) (w.heap.size + 1) 3 [.int .i64 0, .int .i64 1, .int .i64 2] := by
    have := ((((((((Blk.new (w.alloc (.cells #[.int .i64 16, .slice (some ⟨w.heap.size + 1 + 1 + 1 + 1, 0, none⟩) 3 3, .slice (some ⟨w.heap.size + 1 + 1 + 1 + 1 + 1 + 1 + 1, 0, none⟩) 2 2, .int .i64 6, .slice (some ⟨w.heap.size + 1 + 1 + 1 + 1 + 1 + 1 + 1 + 1, 0, none⟩) 3 3, .slice (some ⟨w.heap.size + 1 + 1 + 1 + 1 + 1 + 1 + 1 + 1 + 1, 0, none⟩) 1 1, .int .i64 10, .int .i64 6, .int .i64 2] 27)) 3 [.int .i64 0, .int .i64 1, .int .i64 2]).alloc (.cells #[.int .i64 3, .int .i64 4] 3)).alloc (.cells #[.int .i64 5, .int .i64 6] 3)).alloc (.cells #[.int .i64 0, .int .i64 0, .slice (some ⟨w.heap.size + 1, 0, none⟩) 3 3, .int .i64 0, .int .i64 4, .int .i64 2, .int .i64 0, .slice (some ⟨w.heap.size + 1 + 1, 0, none⟩) 2 2, .int .i64 4, .int .i64 4, .int .i64 1, .int .i64 2, .slice (some ⟨w.heap.size + 1 + 1 + 1, 0, none⟩) 2 2, .int .i64 8, .int .i64 2] 48)).alloc (.cells #[.int .i64 8, .int .i64 9, .int .i64 10] 3)).alloc (.cells #[.int .i64 11, .int .i64 12] 3)).alloc (.cells #[.int .i64 0, .slice (some ⟨w.heap.size + 1 + 1 + 1 + 1 + 1, 0, none⟩) 3 3, .int .i64 2, .slice (some ⟨w.heap.size + 1 + 1 + 1 + 1 + 1 + 1, 0, none⟩) 2 2] 64)).alloc (.cells #[.int .i64 0, .int .i64 0, .int .i64 2, .int .i64 1, .int .i64 1, .int .i64 2, .int .i64 2, .int .i64 2, .int .i64 2, .int .i64 4, .int .i64 2, .int .i64 5] 66)).alloc (.cells #[.int .i64 2, .int .i64 2, .bool false] 50)
    try simp only [World.size_alloc] at this
    exact this
  have h2 : Blk ((((((((((w.alloc (.cells #[.int .i64 16, .slice (some ⟨w.heap.size + 1 + 1 + 1 + 1, 0, none⟩) 3 3, .slice (some ⟨w.heap.size + 1 + 1 + 1 + 1 + 1 + 1 + 1, 0, none⟩) 2 2, .int .i64 6, .slice (some ⟨w.heap.size + 1 + 1 + 1 + 1 + 1 + 1 + 1 + 1, 0, none⟩) 3 3, .slice (some ⟨w.heap.size + 1 + 1 + 1 + 1 + 1 + 1 + 1 + 1 + 1, 0, none⟩) 1 1, .int .i64 10, .int .i64 6, .int .i64 2] 27)).alloc (.cells #[.int .i64 0, .int .i64 1, .int .i64 2] 3)).alloc (.cells #[.int .i64 3, .int .i64 4] 3)).alloc (.cells #[.int .i64 5, .int .i64 6] 3)).alloc (.cells #[.int .i64 0, .int .i64 0, .slice (some ⟨w.heap.size + 1, 0, none⟩) 3 3, .int .i64 0, .int .i64 4, .int .i64 2, .int .i64 0, .slice (some ⟨w.heap.size + 1 + 1, 0, none⟩) 2 2, .int .i64 4, .int .i64 4, .int .i64 1, .int .i64 2, .slice (some ⟨w.heap.size + 1 + 1 + 1, 0, none⟩) 2 2, .int .i64 8, .int .i64 2] 48)).alloc (.cells #[.int .i64 8, .int .i64 9, .int .i64 10] 3)).alloc (.cells #[.int .i64 11, .int .i64 12] 3)).alloc (.cells #[.int .i64 0, .slice (some ⟨w.heap.size + 1 + 1 + 1 + 1 + 1, 0, none⟩) 3 3, .int .i64 2, .slice (some ⟨w.heap.size + 1 + 1 + 1 + 1 + 1 + 1, 0, none⟩) 2 2] 64)).alloc (.cells #[.int .i64 0, .int .i64 0, .int .i64 2, .int .i64 1, .int .i64 1, .int .i64 2, .int .i64 2, .int .i64 2, .int .i64 2, .int .i64 4, .int .i64 2, .int .i64 5] 66)).alloc (.cells #[.int .i64 2, .int .i64 2, .bool false] 50)) (w.heap.size + 1 + 1) 3 [.int .i64 3, .int .i64 4] := by
    have := (((((((Blk.new ((w.alloc (.cells #[.int .i64 16, .slice (some ⟨w.heap.size + 1 + 1 + 1 + 1, 0, none⟩) 3 3, .slice (some ⟨w.heap.size + 1 + 1 + 1 + 1 + 1 + 1 + 1, 0, none⟩) 2 2, .int .i64 6, .slice (some ⟨w.heap.size + 1 + 1 + 1 + 1 + 1 + 1 + 1 + 1, 0, none⟩) 3 3, .slice (some ⟨w.heap.size + 1 + 1 + 1 + 1 + 1 + 1 + 1 + 1 + 1, 0, none⟩) 1 1, .int .i64 10, .int .i64 6, .int .i64 2] 27)).alloc (.cells #[.int .i64 0, .int .i64 1, .int .i64 2] 3)) 3 [.int .i64 3, .int .i64 4]).alloc (.cells #[.int .i64 5, .int .i64 6] 3)).alloc (.cells #[.int .i64 0, .int .i64 0, .slice (some ⟨w.heap.size + 1, 0, none⟩) 3 3, .int .i64 0, .int .i64 4, .int .i64 2, .int .i64 0, .slice (some ⟨w.heap.size + 1 + 1, 0, none⟩) 2 2, .int .i64 4, .int .i64 4, .int .i64 1, .int .i64 2, .slice (some ⟨w.heap.size + 1 + 1 + 1, 0, none⟩) 2 2, .int .i64 8, .int .i64 2] 48)).alloc (.cells #[.int .i64 8, .int .i64 9, .int .i64 10] 3)).alloc (.cells #[.int .i64 11, .int .i64 12] 3)).alloc (.cells #[.int .i64 0, .slice (some ⟨w.heap.size + 1 + 1 + 1 + 1 + 1, 0, none⟩) 3 3, .int .i64 2, .slice (some ⟨w.heap.size + 1 + 1 + 1 + 1 + 1 + 1, 0, none⟩) 2 2] 64)).alloc (.cells #[.int .i64 0, .int .i64 0, .int .i64 2, .int .i64 1, .int .i64 1, .int .i64 2, .int .i64 2, .int .i64 2, .int .i64 2, .int .i64 4, .int .i64 2, .int .i64 5] 66)).alloc (.cells #[.int .i64 2, .int .i64 2, .bool false] 50)
    try simp only [World.size_alloc] at this
    exact this
  have h3 : Blk ((((((((((w.alloc (.cells #[.int .i64 16, .slice (some ⟨w.heap.size + 1 + 1 + 1 + 1, 0, none⟩) 3 3, .slice (some ⟨w.heap.size + 1 + 1 + 1 + 1 + 1 + 1 + 1, 0, none⟩) 2 2, .int .i64 6, .slice (some ⟨w.heap.size + 1 + 1 + 1 + 1 + 1 + 1 + 1 + 1, 0, none⟩) 3 3, .slice (some ⟨w.heap.size + 1 + 1 + 1 + 1 + 1 + 1 + 1 + 1 + 1, 0, none⟩) 1 1, .int .i64 10, .int .i64 6, .int .i64 2] 27)).alloc (.cells #[.int .i64 0, .int .i64 1, .int .i64 2] 3)).alloc (.cells #[.int .i64 3, .int .i64 4] 3)).alloc (.cells #[.int .i64 5, .int .i64 6] 3)).alloc (.cells #[.int .i64 0, .int .i64 0, .slice (some ⟨w.heap.size + 1, 0, none⟩) 3 3, .int .i64 0, .int .i64 4, .int .i64 2, .int .i64 0, .slice (some ⟨w.heap.size + 1 + 1, 0, none⟩) 2 2, .int .i64 4, .int .i64 4, .int .i64 1, .int .i64 2, .slice (some ⟨w.heap.size + 1 + 1 + 1, 0, none⟩) 2 2, .int .i64 8, .int .i64 2] 48)).alloc (.cells #[.int .i64 8, .int .i64 9, .int .i64 10] 3)).alloc (.cells #[.int .i64 11, .int .i64 12] 3)).alloc (.cells #[.int .i64 0, .slice (some ⟨w.heap.size + 1 + 1 + 1 + 1 + 1, 0, none⟩) 3 3, .int .i64 2, .slice (some ⟨w.heap.size + 1 + 1 + 1 + 1 + 1 + 1, 0, none⟩) 2 2] 64)).alloc (.cells #[.int .i64 0, .int .i64 0, .int .i64 2, .int .i64 1, .int .i64 1, .int .i64 2, .int .i64 2, .int .i64 2, .int .i64 2, .int .i64 4, .int .i64 2, .int .i64 5] 66)).alloc (.cells #[.int .i64 2, .int .i64 2, .bool false] 50)) (w.heap.size + 1 + 1 + 1) 3 [.int .i64 5, .int .i64 6] := by
    have := ((((((Blk.new (((w.alloc (.cells #[.int .i64 16, .slice (some ⟨w.heap.size + 1 + 1 + 1 + 1, 0, none⟩) 3 3, .slice (some ⟨w.heap.size + 1 + 1 + 1 + 1 + 1 + 1 + 1, 0, none⟩) 2 2, .int .i64 6, .slice (some ⟨w.heap.size + 1 + 1 + 1 + 1 + 1 + 1 + 1 + 1, 0, none⟩) 3 3, .slice (some ⟨w.heap.size + 1 + 1 + 1 + 1 + 1 + 1 + 1 + 1 + 1, 0, none⟩) 1 1, .int .i64 10, .int .i64 6, .int .i64 2] 27)).alloc (.cells #[.int .i64 0, .int .i64 1, .int .i64 2] 3)).alloc (.cells #[.int .i64 3, .int .i64 4] 3)) 3 [.int .i64 5, .int .i64 6]).alloc (.cells #[.int .i64 0, .int .i64 0, .slice (some ⟨w.heap.size + 1, 0, none⟩) 3 3, .int .i64 0, .int .i64 4, .int .i64 2, .int .i64 0, .slice (some ⟨w.heap.size + 1 + 1, 0, none⟩) 2 2, .int .i64 4, .int .i64 4, .int .i64 1, .int .i64 2, .slice (some ⟨w.heap.size + 1 + 1 + 1, 0, none⟩) 2 2, .int .i64 8, .int .i64 2] 48)).alloc (.cells #[.int .i64 8, .int .i64 9, .int .i64 10] 3)).alloc (.cells #[.int .i64 11, .int .i64 12] 3)).alloc (.cells #[.int .i64 0, .slice (some ⟨w.heap.size + 1 + 1 + 1 + 1 + 1, 0, none⟩) 3 3, .int .i64 2, .slice (some ⟨w.heap.size + 1 + 1 + 1 + 1 + 1 + 1, 0, none⟩) 2 2] 64)).alloc (.cells #[.int .i64 0, .int .i64 0, .int .i64 2, .int .i64 1, .int .i64 1, .int .i64 2, .int .i64 2, .int .i64 2, .int .i64 2, .int .i64 4, .int .i64 2, .int .i64 5] 66)).alloc (.cells #[.int .i64 2, .int .i64 2, .bool false] 50)
    try simp only [World.size_alloc] at this
    exact this
  have h4 : Blk ((((((((((w.alloc (.cells #[.int .i64 16, .slice (some ⟨w.heap.size + 1 + 1 + 1 + 1, 0, none⟩) 3 3, .slice (some ⟨w.heap.size + 1 + 1 + 1 + 1 + 1 + 1 + 1, 0, none⟩) 2 2, .int .i64 6, .slice (some ⟨w.heap.size + 1 + 1 + 1 + 1 + 1 + 1 + 1 + 1, 0, none⟩) 3 3, .slice (some ⟨w.heap.size + 1 + 1 + 1 + 1 + 1 + 1 + 1 + 1 + 1, 0, none⟩) 1 1, .int .i64 10, .int .i64 6, .int .i64 2] 27)).alloc (.cells #[.int .i64 0, .int .i64 1, .int .i64 2] 3)).alloc (.cells #[.int .i64 3, .int .i64 4] 3)).alloc (.cells #[.int .i64 5, .int .i64 6] 3)).alloc (.cells #[.int .i64 0, .int .i64 0, .slice (some ⟨w.heap.size + 1, 0, none⟩) 3 3, .int .i64 0, .int .i64 4, .int .i64 2, .int .i64 0, .slice (some ⟨w.heap.size + 1 + 1, 0, none⟩) 2 2, .int .i64 4, .int .i64 4, .int .i64 1, .int .i64 2, .slice (some ⟨w.heap.size + 1 + 1 + 1, 0, none⟩) 2 2, .int .i64 8, .int .i64 2] 48)).alloc (.cells #[.int .i64 8, .int .i64 9, .int .i64 10] 3)).alloc (.cells #[.int .i64 11, .int .i64 12] 3)).alloc (.cells #[.int .i64 0, .slice (some ⟨w.heap.size + 1 + 1 + 1 + 1 + 1, 0, none⟩) 3 3, .int .i64 2, .slice (some ⟨w.heap.size + 1 + 1 + 1 + 1 + 1 + 1, 0, none⟩) 2 2] 64)).alloc (.cells #[.int .i64 0, .int .i64 0, .int .i64 2, .int .i64 1, .int .i64 1, .int .i64 2, .int .i64 2, .int .i64 2, .int .i64 2, .int .i64 4, .int .i64 2, .int .i64 5] 66)).alloc (.cells #[.int .i64 2, .int .i64 2, .bool false] 50)) (w.heap.size + 1 + 1 + 1 + 1) 48 [.int .i64 0, .int .i64 0, .slice (some ⟨w.heap.size + 1, 0, none⟩) 3 3, .int .i64 0, .int .i64 4, .int .i64 2, .int .i64 0, .slice (some ⟨w.heap.size + 1 + 1, 0, none⟩) 2 2, .int .i64 4, .int .i64 4, .int .i64 1, .int .i64 2, .slice (some ⟨w.heap.size + 1 + 1 + 1, 0, none⟩) 2 2, .int .i64 8, .int .i64 2] := by
    have := (((((Blk.new ((((w.alloc (.cells #[.int .i64 16, .slice (some ⟨w.heap.size + 1 + 1 + 1 + 1, 0, none⟩) 3 3, .slice (some ⟨w.heap.size + 1 + 1 + 1 + 1 + 1 + 1 + 1, 0, none⟩) 2 2, .int .i64 6, .slice (some ⟨w.heap.size + 1 + 1 + 1 + 1 + 1 + 1 + 1 + 1, 0, none⟩) 3 3, .slice (some ⟨w.heap.size + 1 + 1 + 1 + 1 + 1 + 1 + 1 + 1 + 1, 0, none⟩) 1 1, .int .i64 10, .int .i64 6, .int .i64 2] 27)).alloc (.cells #[.int .i64 0, .int .i64 1, .int .i64 2] 3)).alloc (.cells #[.int .i64 3, .int .i64 4] 3)).alloc (.cells #[.int .i64 5, .int .i64 6] 3)) 48 [.int .i64 0, .int .i64 0, .slice (some ⟨w.heap.size + 1, 0, none⟩) 3 3, .int .i64 0, .int .i64 4, .int .i64 2, .int .i64 0, .slice (some ⟨w.heap.size + 1 + 1, 0, none⟩) 2 2, .int .i64 4, .int .i64 4, .int .i64 1, .int .i64 2, .slice (some ⟨w.heap.size + 1 + 1 + 1, 0, none⟩) 2 2, .int .i64 8, .int .i64 2]).alloc (.cells #[.int .i64 8, .int .i64 9, .int .i64 10] 3)).alloc (.cells #[.int .i64 11, .int .i64 12] 3)).alloc (.cells #[.int .i64 0, .slice (some ⟨w.heap.size + 1 + 1 + 1 + 1 + 1, 0, none⟩) 3 3, .int .i64 2, .slice (some ⟨w.heap.size + 1 + 1 + 1 + 1 + 1 + 1, 0, none⟩) 2 2] 64)).alloc (.cells #[.int .i64 0, .int .i64 0, .int .i64 2, .int .i64 1, .int .i64 1, .int .i64 2, .int .i64 2, .int .i64 2, .int .i64 2, .int .i64 4, .int .i64 2, .int .i64 5] 66)).alloc (.cells #[.int .i64 2, .int .i64 2, .bool false] 50)
    try simp only [World.size_alloc] at this
    exact this
  have h5 : Blk ((((((((((w.alloc (.cells #[.int .i64 16, .slice (some ⟨w.heap.size + 1 + 1 + 1 + 1, 0, none⟩) 3 3, .slice (some ⟨w.heap.size + 1 + 1 + 1 + 1 + 1 + 1 + 1, 0, none⟩) 2 2, .int .i64 6, .slice (some ⟨w.heap.size + 1 + 1 + 1 + 1 + 1 + 1 + 1 + 1, 0, none⟩) 3 3, .slice (some ⟨w.heap.size + 1 + 1 + 1 + 1 + 1 + 1 + 1 + 1 + 1, 0, none⟩) 1 1, .int .i64 10, .int .i64 6, .int .i64 2] 27)).alloc (.cells #[.int .i64 0, .int .i64 1, .int .i64 2] 3)).alloc (.cells #[.int .i64 3, .int .i64 4] 3)).alloc (.cells #[.int .i64 5, .int .i64 6] 3)).alloc (.cells #[.int .i64 0, .int .i64 0, .slice (some ⟨w.heap.size + 1, 0, none⟩) 3 3, .int .i64 0, .int .i64 4, .int .i64 2, .int .i64 0, .slice (some ⟨w.heap.size + 1 + 1, 0, none⟩) 2 2, .int .i64 4, .int .i64 4, .int .i64 1, .int .i64 2, .slice (some ⟨w.heap.size + 1 + 1 + 1, 0, none⟩) 2 2, .int .i64 8, .int .i64 2] 48)).alloc (.cells #[.int .i64 8, .int .i64 9, .int .i64 10] 3)).alloc (.cells #[.int .i64 11, .int .i64 12] 3)).alloc (.cells #[.int .i64 0, .slice (some ⟨w.heap.size + 1 + 1 + 1 + 1 + 1, 0, none⟩) 3 3, .int .i64 2, .slice (some ⟨w.heap.size + 1 + 1 + 1 + 1 + 1 + 1, 0, none⟩) 2 2] 64)).alloc (.cells #[.int .i64 0, .int .i64 0, .int .i64 2, .int .i64 1, .int .i64 1, .int .i64 2, .int .i64 2, .int .i64 2, .int .i64 2, .int .i64 4, .int .i64 2, .int .i64 5] 66)).alloc (.cells #[.int .i64 2, .int .i64 2, .bool false] 50)) (w.heap.size + 1 + 1 + 1 + 1 + 1) 3 [.int .i64 8, .int .i64 9, .int .i64 10] := by
    have := ((((Blk.new (((((w.alloc (.cells #[.int .i64 16, .slice (some ⟨w.heap.size + 1 + 1 + 1 + 1, 0, none⟩) 3 3, .slice (some ⟨w.heap.size + 1 + 1 + 1 + 1 + 1 + 1 + 1, 0, none⟩) 2 2, .int .i64 6, .slice (some ⟨w.heap.size + 1 + 1 + 1 + 1 + 1 + 1 + 1 + 1, 0, none⟩) 3 3, .slice (some ⟨w.heap.size + 1 + 1 + 1 + 1 + 1 + 1 + 1 + 1 + 1, 0, none⟩) 1 1, .int .i64 10, .int .i64 6, .int .i64 2] 27)).alloc (.cells #[.int .i64 0, .int .i64 1, .int .i64 2] 3)).alloc (.cells #[.int .i64 3, .int .i64 4] 3)).alloc (.cells #[.int .i64 5, .int .i64 6] 3)).alloc (.cells #[.int .i64 0, .int .i64 0, .slice (some ⟨w.heap.size + 1, 0, none⟩) 3 3, .int .i64 0, .int .i64 4, .int .i64 2, .int .i64 0, .slice (some ⟨w.heap.size + 1 + 1, 0, none⟩) 2 2, .int .i64 4, .int .i64 4, .int .i64 1, .int .i64 2, .slice (some ⟨w.heap.size + 1 + 1 + 1, 0, none⟩) 2 2, .int .i64 8, .int .i64 2] 48)) 3 [.int .i64 8, .int .i64 9, .int .i64 10]).alloc (.cells #[.int .i64 11, .int .i64 12] 3)).alloc (.cells #[.int .i64 0, .slice (some ⟨w.heap.size + 1 + 1 + 1 + 1 + 1, 0, none⟩) 3 3, .int .i64 2, .slice (some ⟨w.heap.size + 1 + 1 + 1 + 1 + 1 + 1, 0, none⟩) 2 2] 64)).alloc (.cells #[.int .i64 0, .int .i64 0, .int .i64 2, .int .i64 1, .int .i64 1, .int .i64 2, .int .i64 2, .int .i64 2, .int .i64 2, .int .i64 4, .int .i64 2, .int .i64 5] 66)).alloc (.cells #[.int .i64 2, .int .i64 2, .bool false] 50)
    try simp only [World.size_alloc] at this
    exact this
  have h6 : Blk ((((((((((w.alloc (.cells #[.int .i64 16, .slice (some ⟨w.heap.size + 1 + 1 + 1 + 1, 0, none⟩) 3 3, .slice (some ⟨w.heap.size + 1 + 1 + 1 + 1 + 1 + 1 + 1, 0, none⟩) 2 2, .int .i64 6, .slice (some ⟨w.heap.size + 1 + 1 + 1 + 1 + 1 + 1 + 1 + 1, 0, none⟩) 3 3, .slice (some ⟨w.heap.size + 1 + 1 + 1 + 1 + 1 + 1 + 1 + 1 + 1, 0, none⟩) 1 1, .int .i64 10, .int .i64 6, .int .i64 2] 27)).alloc (.cells #[.int .i64 0, .int .i64 1, .int .i64 2] 3)).alloc (.cells #[.int .i64 3, .int .i64 4] 3)).alloc (.cells #[.int .i64 5, .int .i64 6] 3)).alloc (.cells #[.int .i64 0, .int .i64 0, .slice (some ⟨w.heap.size + 1, 0, none⟩) 3 3, .int .i64 0, .int .i64 4, .int .i64 2, .int .i64 0, .slice (some ⟨w.heap.size + 1 + 1, 0, none⟩) 2 2, .int .i64 4, .int .i64 4, .int .i64 1, .int .i64 2, .slice (some ⟨w.heap.size + 1 + 1 + 1, 0, none⟩) 2 2, .int .i64 8, .int .i64 2] 48)).alloc (.cells #[.int .i64 8, .int .i64 9, .int .i64 10] 3)).alloc (.cells #[.int .i64 11, .int .i64 12] 3)).alloc (.cells #[.int .i64 0, .slice (some ⟨w.heap.size + 1 + 1 + 1 + 1 + 1, 0, none⟩) 3 3, .int .i64 2, .slice (some ⟨w.heap.size + 1 + 1 + 1 + 1 + 1 + 1, 0, none⟩) 2 2] 64)).alloc (.cells #[.int .i64 0, .int .i64 0, .int .i64 2, .int .i64 1, .int .i64 1, .int .i64 2, .int .i64 2, .int .i64 2, .int .i64 2, .int .i64 4, .int .i64 2, .int .i64 5] 66)).alloc (.cells #[.int .i64 2, .int .i64 2, .bool false] 50)) (w.heap.size + 1 + 1 + 1 + 1 + 1 + 1) 3 [.int .i64 11, .int .i64 12] := by
    have := (((Blk.new ((((((w.alloc (.cells #[.int .i64 16, .slice (some ⟨w.heap.size + 1 + 1 + 1 + 1, 0, none⟩) 3 3, .slice (some ⟨w.heap.size + 1 + 1 + 1 + 1 + 1 + 1 + 1, 0, none⟩) 2 2, .int .i64 6, .slice (some ⟨w.heap.size + 1 + 1 + 1 + 1 + 1 + 1 + 1 + 1, 0, none⟩) 3 3, .slice (some ⟨w.heap.size + 1 + 1 + 1 + 1 + 1 + 1 + 1 + 1 + 1, 0, none⟩) 1 1, .int .i64 10, .int .i64 6, .int .i64 2] 27)).alloc (.cells #[.int .i64 0, .int .i64 1, .int .i64 2] 3)).alloc (.cells #[.int .i64 3, .int .i64 4] 3)).alloc (.cells #[.int .i64 5, .int .i64 6] 3)).alloc (.cells #[.int .i64 0, .int .i64 0, .slice (some ⟨w.heap.size + 1, 0, none⟩) 3 3, .int .i64 0, .int .i64 4, .int .i64 2, .int .i64 0, .slice (some ⟨w.heap.size + 1 + 1, 0, none⟩) 2 2, .int .i64 4, .int .i64 4, .int .i64 1, .int .i64 2, .slice (some ⟨w.heap.size + 1 + 1 + 1, 0, none⟩) 2 2, .int .i64 8, .int .i64 2] 48)).alloc (.cells #[.int .i64 8, .int .i64 9, .int .i64 10] 3)) 3 [.int .i64 11, .int .i64 12]).alloc (.cells #[.int .i64 0, .slice (some ⟨w.heap.size + 1 + 1 + 1 + 1 + 1, 0, none⟩) 3 3, .int .i64 2, .slice (some ⟨w.heap.size + 1 + 1 + 1 + 1 + 1 + 1, 0, none⟩) 2 2] 64)).alloc (.cells #[.int .i64 0, .int .i64 0, .int .i64 2, .int .i64 1, .int .i64 1, .int .i64 2, .int .i64 2, .int .i64 2, .int .i64 2, .int .i64 4, .int .i64 2, .int .i64 5] 66)).alloc (.cells #[.int .i64 2, .int .i64 2, .bool false] 50)
    try simp only [World.size_alloc] at this
    exact this
  have h7 : Blk ((((((((((w.alloc (.cells #[.int .i64 16, .slice (some ⟨w.heap.size + 1 + 1 + 1 + 1, 0, none⟩) 3 3, .slice (some ⟨w.heap.size + 1 + 1 + 1 + 1 + 1 + 1 + 1, 0, none⟩) 2 2, .int .i64 6, .slice (some ⟨w.heap.size + 1 + 1 + 1 + 1 + 1 + 1 + 1 + 1, 0, none⟩) 3 3, .slice (some ⟨w.heap.size + 1 + 1 + 1 + 1 + 1 + 1 + 1 + 1 + 1, 0, none⟩) 1 1, .int .i64 10, .int .i64 6, .int .i64 2] 27)).alloc (.cells #[.int .i64 0, .int .i64 1, .int .i64 2] 3)).alloc (.cells #[.int .i64 3, .int .i64 4] 3)).alloc (.cells #[.int .i64 5, .int .i64 6] 3)).alloc (.cells #[.int .i64 0, .int .i64 0, .slice (some ⟨w.heap.size + 1, 0, none⟩) 3 3, .int .i64 0, .int .i64 4, .int .i64 2, .int .i64 0, .slice (some ⟨w.heap.size + 1 + 1, 0, none⟩) 2 2, .int .i64 4, .int .i64 4, .int .i64 1, .int .i64 2, .slice (some ⟨w.heap.size + 1 + 1 + 1, 0, none⟩) 2 2, .int .i64 8, .int .i64 2] 48)).alloc (.cells #[.int .i64 8, .int .i64 9, .int .i64 10] 3)).alloc (.cells #[.int .i64 11, .int .i64 12] 3)).alloc (.cells #[.int .i64 0, .slice (some ⟨w.heap.size + 1 + 1 + 1 + 1 + 1, 0, none⟩) 3 3, .int .i64 2, .slice (some ⟨w.heap.size + 1 + 1 + 1 + 1 + 1 + 1, 0, none⟩) 2 2] 64)).alloc (.cells #[.int .i64 0, .int .i64 0, .int .i64 2, .int .i64 1, .int .i64 1, .int .i64 2, .int .i64 2, .int .i64 2, .int .i64 2, .int .i64 4, .int .i64 2, .int .i64 5] 66)).alloc (.cells #[.int .i64 2, .int .i64 2, .bool false] 50)) (w.heap.size + 1 + 1 + 1 + 1 + 1 + 1 + 1) 64 [.int .i64 0, .slice (some ⟨w.heap.size + 1 + 1 + 1 + 1 + 1, 0, none⟩) 3 3, .int .i64 2, .slice (some ⟨w.heap.size + 1 + 1 + 1 + 1 + 1 + 1, 0, none⟩) 2 2] := by
    have := ((Blk.new (((((((w.alloc (.cells #[.int .i64 16, .slice (some ⟨w.heap.size + 1 + 1 + 1 + 1, 0, none⟩) 3 3, .slice (some ⟨w.heap.size + 1 + 1 + 1 + 1 + 1 + 1 + 1, 0, none⟩) 2 2, .int .i64 6, .slice (some ⟨w.heap.size + 1 + 1 + 1 + 1 + 1 + 1 + 1 + 1, 0, none⟩) 3 3, .slice (some ⟨w.heap.size + 1 + 1 + 1 + 1 + 1 + 1 + 1 + 1 + 1, 0, none⟩) 1 1, .int .i64 10, .int .i64 6, .int .i64 2] 27)).alloc (.cells #[.int .i64 0, .int .i64 1, .int .i64 2] 3)).alloc (.cells #[.int .i64 3, .int .i64 4] 3)).alloc (.cells #[.int .i64 5, .int .i64 6] 3)).alloc (.cells #[.int .i64 0, .int .i64 0, .slice (some ⟨w.heap.size + 1, 0, none⟩) 3 3, .int .i64 0, .int .i64 4, .int .i64 2, .int .i64 0, .slice (some ⟨w.heap.size + 1 + 1, 0, none⟩) 2 2, .int .i64 4, .int .i64 4, .int .i64 1, .int .i64 2, .slice (some ⟨w.heap.size + 1 + 1 + 1, 0, none⟩) 2 2, .int .i64 8, .int .i64 2] 48)).alloc (.cells #[.int .i64 8, .int .i64 9, .int .i64 10] 3)).alloc (.cells #[.int .i64 11, .int .i64 12] 3)) 64 [.int .i64 0, .slice (some ⟨w.heap.size + 1 + 1 + 1 + 1 + 1, 0, none⟩) 3 3, .int .i64 2, .slice (some ⟨w.heap.size + 1 + 1 + 1 + 1 + 1 + 1, 0, none⟩) 2 2]).alloc (.cells #[.int .i64 0, .int .i64 0, .int .i64 2, .int .i64 1, .int .i64 1, .int .i64 2, .int .i64 2, .int .i64 2, .int .i64 2, .int .i64 4, .int .i64 2, .int .i64 5] 66)).alloc (.cells #[.int .i64 2, .int .i64 2, .bool false] 50)
    try simp only [World.size_alloc] at this
    exact this
  have h8 : Blk ((((((((((w.alloc (.cells #[.int .i64 16, .slice (some ⟨w.heap.size + 1 + 1 + 1 + 1, 0, none⟩) 3 3, .slice (some ⟨w.heap.size + 1 + 1 + 1 + 1 + 1 + 1 + 1, 0, none⟩) 2 2, .int .i64 6, .slice (some ⟨w.heap.size + 1 + 1 + 1 + 1 + 1 + 1 + 1 + 1, 0, none⟩) 3 3, .slice (some ⟨w.heap.size + 1 + 1 + 1 + 1 + 1 + 1 + 1 + 1 + 1, 0, none⟩) 1 1, .int .i64 10, .int .i64 6, .int .i64 2] 27)).alloc (.cells #[.int .i64 0, .int .i64 1, .int .i64 2] 3)).alloc (.cells #[.int .i64 3, .int .i64 4] 3)).alloc (.cells #[.int .i64 5, .int .i64 6] 3)).alloc (.cells #[.int .i64 0, .int .i64 0, .slice (some ⟨w.heap.size + 1, 0, none⟩) 3 3, .int .i64 0, .int .i64 4, .int .i64 2, .int .i64 0, .slice (some ⟨w.heap.size + 1 + 1, 0, none⟩) 2 2, .int .i64 4, .int .i64 4, .int .i64 1, .int .i64 2, .slice (some ⟨w.heap.size + 1 + 1 + 1, 0, none⟩) 2 2, .int .i64 8, .int .i64 2] 48)).alloc (.cells #[.int .i64 8, .int .i64 9, .int .i64 10] 3)).alloc (.cells #[.int .i64 11, .int .i64 12] 3)).alloc (.cells #[.int .i64 0, .slice (some ⟨w.heap.size + 1 + 1 + 1 + 1 + 1, 0, none⟩) 3 3, .int .i64 2, .slice (some ⟨w.heap.size + 1 + 1 + 1 + 1 + 1 + 1, 0, none⟩) 2 2] 64)).alloc (.cells #[.int .i64 0, .int .i64 0, .int .i64 2, .int .i64 1, .int .i64 1, .int .i64 2, .int .i64 2, .int .i64 2, .int .i64 2, .int .i64 4, .int .i64 2, .int .i64 5] 66)).alloc (.cells #[.int .i64 2, .int .i64 2, .bool false] 50)) (w.heap.size + 1 + 1 + 1 + 1 + 1 + 1 + 1 + 1) 66 [.int .i64 0, .int .i64 0, .int .i64 2, .int .i64 1, .int .i64 1, .int .i64 2, .int .i64 2, .int .i64 2, .int .i64 2, .int .i64 4, .int .i64 2, .int .i64 5] := by
    have := (Blk.new ((((((((w.alloc (.cells #[.int .i64 16, .slice (some ⟨w.heap.size + 1 + 1 + 1 + 1, 0, none⟩) 3 3, .slice (some ⟨w.heap.size + 1 + 1 + 1 + 1 + 1 + 1 + 1, 0, none⟩) 2 2, .int .i64 6, .slice (some ⟨w.heap.size + 1 + 1 + 1 + 1 + 1 + 1 + 1 + 1, 0, none⟩) 3 3, .slice (some ⟨w.heap.size + 1 + 1 + 1 + 1 + 1 + 1 + 1 + 1 + 1, 0, none⟩) 1 1, .int .i64 10, .int .i64 6, .int .i64 2] 27)).alloc (.cells #[.int .i64 0, .int .i64 1, .int .i64 2] 3)).alloc (.cells #[.int .i64 3, .int .i64 4] 3)).alloc (.cells #[.int .i64 5, .int .i64 6] 3)).alloc (.cells #[.int .i64 0, .int .i64 0, .slice (some ⟨w.heap.size + 1, 0, none⟩) 3 3, .int .i64 0, .int .i64 4, .int .i64 2, .int .i64 0, .slice (some ⟨w.heap.size + 1 + 1, 0, none⟩) 2 2, .int .i64 4, .int .i64 4, .int .i64 1, .int .i64 2, .slice (some ⟨w.heap.size + 1 + 1 + 1, 0, none⟩) 2 2, .int .i64 8, .int .i64 2] 48)).alloc (.cells #[.int .i64 8, .int .i64 9, .int .i64 10] 3)).alloc (.cells #[.int .i64 11, .int .i64 12] 3)).alloc (.cells #[.int .i64 0, .slice (some ⟨w.heap.size + 1 + 1 + 1 + 1 + 1, 0, none⟩) 3 3, .int .i64 2, .slice (some ⟨w.heap.size + 1 + 1 + 1 + 1 + 1 + 1, 0, none⟩) 2 2] 64)) 66 [.int .i64 0, .int .i64 0, .int .i64 2, .int .i64 1, .int .i64 1, .int .i64 2, .int .i64 2, .int .i64 2, .int .i64 2, .int .i64 4, .int .i64 2, .int .i64 5]).alloc (.cells #[.int .i64 2, .int .i64 2, .bool false] 50)
    try simp only [World.size_alloc] at this
    exact this
  have h9 : Blk ((((((((((w.alloc (.cells #[.int .i64 16, .slice (some ⟨w.heap.size + 1 + 1 + 1 + 1, 0, none⟩) 3 3, .slice (some ⟨w.heap.size + 1 + 1 + 1 + 1 + 1 + 1 + 1, 0, none⟩) 2 2, .int .i64 6, .slice (some ⟨w.heap.size + 1 + 1 + 1 + 1 + 1 + 1 + 1 + 1, 0, none⟩) 3 3, .slice (some ⟨w.heap.size + 1 + 1 + 1 + 1 + 1 + 1 + 1 + 1 + 1, 0, none⟩) 1 1, .int .i64 10, .int .i64 6, .int .i64 2] 27)).alloc (.cells #[.int .i64 0, .int .i64 1, .int .i64 2] 3)).alloc (.cells #[.int .i64 3, .int .i64 4] 3)).alloc (.cells #[.int .i64 5, .int .i64 6] 3)).alloc (.cells #[.int .i64 0, .int .i64 0, .slice (some ⟨w.heap.size + 1, 0, none⟩) 3 3, .int .i64 0, .int .i64 4, .int .i64 2, .int .i64 0, .slice (some ⟨w.heap.size + 1 + 1, 0, none⟩) 2 2, .int .i64 4, .int .i64 4, .int .i64 1, .int .i64 2, .slice (some ⟨w.heap.size + 1 + 1 + 1, 0, none⟩) 2 2, .int .i64 8, .int .i64 2] 48)).alloc (.cells #[.int .i64 8, .int .i64 9, .int .i64 10] 3)).alloc (.cells #[.int .i64 11, .int .i64 12] 3)).alloc (.cells #[.int .i64 0, .slice (some ⟨w.heap.size + 1 + 1 + 1 + 1 + 1, 0, none⟩) 3 3, .int .i64 2, .slice (some ⟨w.heap.size + 1 + 1 + 1 + 1 + 1 + 1, 0, none⟩) 2 2] 64)).alloc (.cells #[.int .i64 0, .int .i64 0, .int .i64 2, .int .i64 1, .int .i64 1, .int .i64 2, .int .i64 2, .int .i64 2, .int .i64 2, .int .i64 4, .int .i64 2, .int .i64 5] 66)).alloc (.cells #[.int .i64 2, .int .i64 2, .bool false] 50)) (w.heap.size + 1 + 1 + 1 + 1 + 1 + 1 + 1 + 1 + 1) 50 [.int .i64 2, .int .i64 2, .bool false] := by
    have := Blk.new (((((((((w.alloc (.cells #[.int .i64 16, .slice (some ⟨w.heap.size + 1 + 1 + 1 + 1, 0, none⟩) 3 3, .slice (some ⟨w.heap.size + 1 + 1 + 1 + 1 + 1 + 1 + 1, 0, none⟩) 2 2, .int .i64 6, .slice (some ⟨w.heap.size + 1 + 1 + 1 + 1 + 1 + 1 + 1 + 1, 0, none⟩) 3 3, .slice (some ⟨w.heap.size + 1 + 1 + 1 + 1 + 1 + 1 + 1 + 1 + 1, 0, none⟩) 1 1, .int .i64 10, .int .i64 6, .int .i64 2] 27)).alloc (.cells #[.int .i64 0, .int .i64 1, .int .i64 2] 3)).alloc (.cells #[.int .i64 3, .int .i64 4] 3)).alloc (.cells #[.int .i64 5, .int .i64 6] 3)).alloc (.cells #[.int .i64 0, .int .i64 0, .slice (some ⟨w.heap.size + 1, 0, none⟩) 3 3, .int .i64 0, .int .i64 4, .int .i64 2, .int .i64 0, .slice (some ⟨w.heap.size + 1 + 1, 0, none⟩) 2 2, .int .i64 4, .int .i64 4, .int .i64 1, .int .i64 2, .slice (some ⟨w.heap.size + 1 + 1 + 1, 0, none⟩) 2 2, .int .i64 8, .int .i64 2] 48)).alloc (.cells #[.int .i64 8, .int .i64 9, .int .i64 10] 3)).alloc (.cells #[.int .i64 11, .int .i64 12] 3)).alloc (.cells #[.int .i64 0, .slice (some ⟨w.heap.size + 1 + 1 + 1 + 1 + 1, 0, none⟩) 3 3, .int .i64 2, .slice (some ⟨w.heap.size + 1 + 1 + 1 + 1 + 1 + 1, 0, none⟩) 2 2] 64)).alloc (.cells #[.int .i64 0, .int .i64 0, .int .i64 2, .int .i64 1, .int .i64 1, .int .i64 2, .int .i64 2, .int .i64 2, .int .i64 2, .int .i64 4, .int .i64 2, .int .i64 5] 66)) 50 [.int .i64 2, .int .i64 2, .bool false]
    try simp only [World.size_alloc] at this
    exact this
  have hB : Below w.heap.size w ((((((((((w.alloc (.cells #[.int .i64 16, .slice (some ⟨w.heap.size + 1 + 1 + 1 + 1, 0, none⟩) 3 3, .slice (some ⟨w.heap.size + 1 + 1 + 1 + 1 + 1 + 1 + 1, 0, none⟩) 2 2, .int .i64 6, .slice (some ⟨w.heap.size + 1 + 1 + 1 + 1 + 1 + 1 + 1 + 1, 0, none⟩) 3 3, .slice (some ⟨w.heap.size + 1 + 1 + 1 + 1 + 1 + 1 + 1 + 1 + 1, 0, none⟩) 1 1, .int .i64 10, .int .i64 6, .int .i64 2] 27)).alloc (.cells #[.int .i64 0, .int .i64 1, .int .i64 2] 3)).alloc (.cells #[.int .i64 3, .int .i64 4] 3)).alloc (.cells #[.int .i64 5, .int .i64 6] 3)).alloc (.cells #[.int .i64 0, .int .i64 0, .slice (some ⟨w.heap.size + 1, 0, none⟩) 3 3, .int .i64 0, .int .i64 4, .int .i64 2, .int .i64 0, .slice (some ⟨w.heap.size + 1 + 1, 0, none⟩) 2 2, .int .i64 4, .int .i64 4, .int .i64 1, .int .i64 2, .slice (some ⟨w.heap.size + 1 + 1 + 1, 0, none⟩) 2 2, .int .i64 8, .int .i64 2] 48)).alloc (.cells #[.int .i64 8, .int .i64 9, .int .i64 10] 3)).alloc (.cells #[.int .i64 11, .int .i64 12] 3)).alloc (.cells #[.int .i64 0, .slice (some ⟨w.heap.size + 1 + 1 + 1 + 1 + 1, 0, none⟩) 3 3, .int .i64 2, .slice (some ⟨w.heap.size + 1 + 1 + 1 + 1 + 1 + 1, 0, none⟩) 2 2] 64)).alloc (.cells #[.int .i64 0, .int .i64 0, .int .i64 2, .int .i64 1, .int .i64 1, .int .i64 2, .int .i64 2, .int .i64 2, .int .i64 2, .int .i64 4, .int .i64 2, .int .i64 5] 66)).alloc (.cells #[.int .i64 2, .int .i64 2, .bool false] 50)) := (((((((((((Below.refl w.heap.size w).alloc (by first | omega | (simp only [World.size_alloc]; omega)) (.cells #[.int .i64 16, .slice (some ⟨w.heap.size + 1 + 1 + 1 + 1, 0, none⟩) 3 3, .slice (some ⟨w.heap.size + 1 + 1 + 1 + 1 + 1 + 1 + 1, 0, none⟩) 2 2, .int .i64 6, .slice (some ⟨w.heap.size + 1 + 1 + 1 + 1 + 1 + 1 + 1 + 1, 0, none⟩) 3 3, .slice (some ⟨w.heap.size + 1 + 1 + 1 + 1 + 1 + 1 + 1 + 1 + 1, 0, none⟩) 1 1, .int .i64 10, .int .i64 6, .int .i64 2] 27)).alloc (by first | omega | (simp only [World.size_alloc]; omega)) (.cells #[.int .i64 0, .int .i64 1, .int .i64 2] 3)).alloc (by first | omega | (simp only [World.size_alloc]; omega)) (.cells #[.int .i64 3, .int .i64 4] 3)).alloc (by first | omega | (simp only [World.size_alloc]; omega)) (.cells #[.int .i64 5, .int .i64 6] 3)).alloc (by first | omega | (simp only [World.size_alloc]; omega)) (.cells #[.int .i64 0, .int .i64 0, .slice (some ⟨w.heap.size + 1, 0, none⟩) 3 3, .int .i64 0, .int .i64 4, .int .i64 2, .int .i64 0, .slice (some ⟨w.heap.size + 1 + 1, 0, none⟩) 2 2, .int .i64 4, .int .i64 4, .int .i64 1, .int .i64 2, .slice (some ⟨w.heap.size + 1 + 1 + 1, 0, none⟩) 2 2, .int .i64 8, .int .i64 2] 48)).alloc (by first | omega | (simp only [World.size_alloc]; omega)) (.cells #[.int .i64 8, .int .i64 9, .int .i64 10] 3)).alloc (by first | omega | (simp only [World.size_alloc]; omega)) (.cells #[.int .i64 11, .int .i64 12] 3)).alloc (by first | omega | (simp only [World.size_alloc]; omega)) (.cells #[.int .i64 0, .slice (some ⟨w.heap.size + 1 + 1 + 1 + 1 + 1, 0, none⟩) 3 3, .int .i64 2, .slice (some ⟨w.heap.size + 1 + 1 + 1 + 1 + 1 + 1, 0, none⟩) 2 2] 64)).alloc (by first | omega | (simp only [World.size_alloc]; omega)) (.cells #[.int .i64 0, .int .i64 0, .int .i64 2, .int .i64 1, .int .i64 1, .int .i64 2, .int .i64 2, .int .i64 2, .int .i64 2, .int .i64 4, .int .i64 2, .int .i64 5] 66)).alloc (by first | omega | (simp only [World.size_alloc]; omega)) (.cells #[.int .i64 2, .int .i64 2, .bool false] 50))
  have hsz : ((((((((((w.alloc (.cells #[.int .i64 16, .slice (some ⟨w.heap.size + 1 + 1 + 1 + 1, 0, none⟩) 3 3, .slice (some ⟨w.heap.size + 1 + 1 + 1 + 1 + 1 + 1 + 1, 0, none⟩) 2 2, .int .i64 6, .slice (some ⟨w.heap.size + 1 + 1 + 1 + 1 + 1 + 1 + 1 + 1, 0, none⟩) 3 3, .slice (some ⟨w.heap.size + 1 + 1 + 1 + 1 + 1 + 1 + 1 + 1 + 1, 0, none⟩) 1 1, .int .i64 10, .int .i64 6, .int .i64 2] 27)).alloc (.cells #[.int .i64 0, .int .i64 1, .int .i64 2] 3)).alloc (.cells #[.int .i64 3, .int .i64 4] 3)).alloc (.cells #[.int .i64 5, .int .i64 6] 3)).alloc (.cells #[.int .i64 0, .int .i64 0, .slice (some ⟨w.heap.size + 1, 0, none⟩) 3 3, .int .i64 0, .int .i64 4, .int .i64 2, .int .i64 0, .slice (some ⟨w.heap.size + 1 + 1, 0, none⟩) 2 2, .int .i64 4, .int .i64 4, .int .i64 1, .int .i64 2, .slice (some ⟨w.heap.size + 1 + 1 + 1, 0, none⟩) 2 2, .int .i64 8, .int .i64 2] 48)).alloc (.cells #[.int .i64 8, .int .i64 9, .int .i64 10] 3)).alloc (.cells #[.int .i64 11, .int .i64 12] 3)).alloc (.cells #[.int .i64 0, .slice (some ⟨w.heap.size + 1 + 1 + 1 + 1 + 1, 0, none⟩) 3 3, .int .i64 2, .slice (some ⟨w.heap.size + 1 + 1 + 1 + 1 + 1 + 1, 0, none⟩) 2 2] 64)).alloc (.cells #[.int .i64 0, .int .i64 0, .int .i64 2, .int .i64 1, .int .i64 1, .int .i64 2, .int .i64 2, .int .i64 2, .int .i64 2, .int .i64 4, .int .i64 2, .int .i64 5] 66)).alloc (.cells #[.int .i64 2, .int .i64 2, .bool false] 50)).heap.size = w.heap.size + 1 + 1 + 1 + 1 + 1 + 1 + 1 + 1 + 1 + 1 := by simp only [World.size_alloc]
  generalize ((((((((((w.alloc (.cells #[.int .i64 16, .slice (some ⟨w.heap.size + 1 + 1 + 1 + 1, 0, none⟩) 3 3, .slice (some ⟨w.heap.size + 1 + 1 + 1 + 1 + 1 + 1 + 1, 0, none⟩) 2 2, .int .i64 6, .slice (some ⟨w.heap.size + 1 + 1 + 1 + 1 + 1 + 1 + 1 + 1, 0, none⟩) 3 3, .slice (some ⟨w.heap.size + 1 + 1 + 1 + 1 + 1 + 1 + 1 + 1 + 1, 0, none⟩) 1 1, .int .i64 10, .int .i64 6, .int .i64 2] 27)).alloc (.cells #[.int .i64 0, .int .i64 1, .int .i64 2] 3)).alloc (.cells #[.int .i64 3, .int .i64 4] 3)).alloc (.cells #[.int .i64 5, .int .i64 6] 3)).alloc (.cells #[.int .i64 0, .int .i64 0, .slice (some ⟨w.heap.size + 1, 0, none⟩) 3 3, .int .i64 0, .int .i64 4, .int .i64 2, .int .i64 0, .slice (some ⟨w.heap.size + 1 + 1, 0, none⟩) 2 2, .int .i64 4, .int .i64 4, .int .i64 1, .int .i64 2, .slice (some ⟨w.heap.size + 1 + 1 + 1, 0, none⟩) 2 2, .int .i64 8, .int .i64 2] 48)).alloc (.cells #[.int .i64 8, .int .i64 9, .int .i64 10] 3)).alloc (.cells #[.int .i64 11, .int .i64 12] 3)).alloc (.cells #[.int .i64 0, .slice (some ⟨w.heap.size + 1 + 1 + 1 + 1 + 1, 0, none⟩) 3 3, .int .i64 2, .slice (some ⟨w.heap.size + 1 + 1 + 1 + 1 + 1 + 1, 0, none⟩) 2 2] 64)).alloc (.cells #[.int .i64 0, .int .i64 0, .int .i64 2, .int .i64 1, .int .i64 1, .int .i64 2, .int .i64 2, .int .i64 2, .int .i64 2, .int .i64 4, .int .i64 2, .int .i64 5] 66)).alloc (.cells #[.int .i64 2, .int .i64 2, .bool false] 50)) = w9 at *
  have x0 := h0.cell 0
  have x1 := h0.cell 1
  have x2 := h0.cell 2
  have x3 := h0.cell 3
  have x4 := h0.cell 4
  have x5 := h0.cell 5
  have x6 := h0.cell 6
  have x7 := h0.cell 7
  have x8 := h0.cell 8
  simp only [List.getElem?_cons_zero, List.getElem?_cons_succ] at x0 x1 x2 x3 x4 x5 x6 x7 x8
  refine bodyPost_ret (v := .agg #[.int .i64 16, .slice (some ⟨w.heap.size + 1 + 1 + 1 + 1, 0, none⟩) 3 3, .slice (some ⟨w.heap.size + 1 + 1 + 1 + 1 + 1 + 1 + 1, 0, none⟩) 2 2, .int .i64 6, .slice (some ⟨w.heap.size + 1 + 1 + 1 + 1 + 1 + 1 + 1 + 1, 0, none⟩) 3 3, .slice (some ⟨w.heap.size + 1 + 1 + 1 + 1 + 1 + 1 + 1 + 1 + 1, 0, none⟩) 1 1, .int .i64 10, .int .i64 6, .int .i64 2]) (by simp [results, Try.results15, go_sem, x0, x1, x2, x3, x4, x5, x6, x7, x8]) rfl ⟨w.heap.size + 1, w.heap.size + 1 + 1, w.heap.size + 1 + 1 + 1, w.heap.size + 1 + 1 + 1 + 1, w.heap.size + 1 + 1 + 1 + 1 + 1, w.heap.size + 1 + 1 + 1 + 1 + 1 + 1, w.heap.size + 1 + 1 + 1 + 1 + 1 + 1 + 1, w.heap.size + 1 + 1 + 1 + 1 + 1 + 1 + 1 + 1, w.heap.size + 1 + 1 + 1 + 1 + 1 + 1 + 1 + 1 + 1, rfl, ⟨h1, h2, h3, h4, h5, h6, h7, h8, h9, by omega⟩, by omega, by rw [hsz]; omega, hB⟩
end Go.Proofs.Ytkaalinoiilmoaa
namespace Go.Proofs.Ytkaalinoiilmoaa
open Go.RowKit
set_option linter.unusedVariables false
set_option maxRecDepth 100000
theorem pl_mayV : cfMay plC = true := by kernel_rfl
theorem pl_dN {i j : Nat} (hi : i < 3) (hj : j < 3) : dN plC i j = (decide (i = j) || decide (i = 0)) := by
  have h : (List.range 3).all (fun i => (List.range 3).all (fun j => dN plC i j == (decide (i = j) || decide (i = 0)))) = true := by kernel_rfl
  rw [range_all_iff] at h
  have h2 := h i hi
  rw [range_all_iff] at h2
  simpa using h2 j hj
theorem pl_FL {i j : Nat} (hi : i < 3) (hj : j < 3) : FL plC i j = (decide (i = j) || decide (i = 0)) := by
  have e : ∀ a b : Nat, (decide (a = b) || decide (a = 0)) = true ↔ a = b ∨ a = 0 := by intro a b; simp
  rw [Bool.eq_iff_iff, FL_iff, e]
  constructor
  · intro r
    refine r.closed (fun a => a = j ∨ a = 0) (fun a b ha hb hP hd => ?_) (.inl rfl)
    rw [pl_dN ha hb, e] at hd
    rcases hd with rfl | rfl
    · exact hP
    · exact .inr rfl
  · rintro (rfl | rfl)
    · exact .refl _ hi
    · exact .one (by decide) hj (by rw [pl_dN (by decide) hj]; simp)
def flC (x : Int) (p : Nat) : Bool := inP 3 x && (decide (x.toNat = p) || decide (x.toNat = 0))
theorem pl_flI (x : Int) {p : Nat} (hp : p < 3) : flI plC x p = flC x p := by
  unfold flI flC
  rw [show plC.ps.length = 3 from rfl]
  cases h : inP 3 x with
  | false => rfl
  | true =>
    obtain ⟨k, rfl, hk⟩ := (inP_iff _ _).1 h
    rw [pl_FL (by simpa using hk) hp]
theorem pl_flB (x y : Int) : flB plC x y = (inP 3 y && flC x y.toNat) := by
  unfold flB
  rw [pl_mayV, show plC.ps.length = 3 from rfl, Bool.true_and]
  cases h : inP 3 y with
  | false => rfl
  | true =>
    obtain ⟨k, rfl, hk⟩ := (inP_iff _ _).1 h
    rw [pl_flI _ (by simpa using hk)]
def hdC (p : Nat) (h : Hs) (s : Stp) : Bool :=
  if s.k = 3 ∨ s.k = 4 then flC (aoX 2 h.O h.L s.d) p else if 5 ≤ s.k ∧ s.k ≤ 16 then flC s.p p else true
theorem pl_hdB {p : Nat} (hp : p < 3) (h : Hs) (s : Stp) : hdB plC p h s = hdC p h s := by
  unfold hdB hdC
  rw [pl_flI _ hp, pl_flI _ hp]
  rfl
def pgC (p : Nat) : Hs → List Stp → List Stp
  | _, [] => []
  | h, s :: l => (if hdC p h s then s else stD) :: pgC p (hdS plC h s) l
theorem pl_pgL {p : Nat} (hp : p < 3) : ∀ (l : List Stp) (h : Hs), pgL plC p h l = pgC p h l := by
  intro l
  induction l with
  | nil => intro h; rfl
  | cons s l ih => intro h; simp only [pgL, pgC, ih, pl_hdB hp]
end Go.Proofs.Ytkaalinoiilmoaa
namespace Go.Proofs.Ytkaalinoiilmoaa
open Go.RowKit
set_option linter.unusedVariables false
set_option linter.unusedSimpArgs false
set_option maxRecDepth 100000
theorem same_steps (x y : Value) (n : Nat) (q : List Stp) (w : World) (hx : Sl w x n 7 (stcs q)) (hy : Sl w y n 7 (stcs q)) (hl : q.length = n) (hn : n ≤ maxLen) :
    Calls Try.prog 14 #[x, y] w fun e w' => e = .returned (.bool true) ∧ ∃ k, w' = w.drewN k := by
  obtain ⟨A, c, rfl, hc, _, _⟩ := id hx
  obtain ⟨B, d, rfl, hd, _, _⟩ := id hy
  have HX := Lib.hid hx; have HY := Lib.hid hy; have HL := Lib.hid hl
  unfold maxLen at hn
  clear hx hy hl
  go_enter Try.func14, Try.ntmps14
  go_wp2
  go_loopw [5] (fun i wr => ∃ k q : Nat, k ≤ n ∧ i = .int .i64 k ∧ wr = w.drewN q) (fun i _ => n - (intOf i).toNat)
  case atStart => exact ⟨0, 0, by omega, rfl, rfl⟩
  case round =>
    obtain ⟨k, q', hk, rfl, rfl⟩ := hrel
    by_cases hlt : k < n
    · obtain ⟨b, o, rfl, -, c0, c1, c2, c3, c4, c5, c6⟩ := stcs_at HX.out HL.out k hlt
      obtain ⟨b', o', rfl, -, d0, d1, d2, d3, d4, d5, d6⟩ := stcs_at HY.out HL.out k hlt
      generalize q.getD k stD = m at *
      obtain ⟨x0, x1, x2, x3, x4, x5, s⟩ := m
      simp only at c0 c1 c2 c3 c4 c5 c6 d0 d1 d2 d3 d4 d5 d6
      have e0 : (x0 == x0) = true := by simp
      have e1 : (x1 == x1) = true := by simp
      have e2 : (x2 == x2) = true := by simp
      have e3 : (x3 == x3) = true := by simp
      have e4 : (x4 == x4) = true := by simp
      have e5 : (x5 == x5) = true := by simp
      have e6 : (s.toList == s.toList) = true := by simp
      go_wp2
      go_quiet (fail)
      go_wp2
      go_roundw
      case rel => exact ⟨k + 1, _, by omega, by go_num, rfl⟩
      case measure => simp [intOf]; omega
    · go_wp2
      go_ret
      exact ⟨rfl, _, rfl⟩
theorem sl_whole {w : World} {g : Nat} {t : TypeId} {cs : List Value} (h : Blk w g t cs) (n size : Nat) (hl : cs.length = n * size) : Sl w (.slice (some ⟨g, 0, none⟩) n n) n size cs :=
  ⟨_, n, rfl, Nat.le_refl _, hl, fun _ => ⟨g, 0, rfl, h.lt, fun j u hu => by rw [Nat.zero_add]; exact (h.cell j).trans hu⟩⟩
def plV (b4 b7 b8 b9 : Nat) : List Value := [.int .i64 16, .slice (some ⟨b4, 0, none⟩) 3 3, .slice (some ⟨b7, 0, none⟩) 2 2, .int .i64 6, .slice (some ⟨b8, 0, none⟩) 3 3, .slice (some ⟨b9, 0, none⟩) 1 1, .int .i64 10, .int .i64 6, .int .i64 2]
theorem plV_at {w : World} {y b4 b7 b8 b9 : Nat} (h : Blk w y 27 (plV b4 b7 b8 b9)) : w.cell? ⟨y, 0, none⟩ = some (.int .i64 16) ∧ w.cell? ⟨y, 1, none⟩ = some (.slice (some ⟨b4, 0, none⟩) 3 3) ∧ w.cell? ⟨y, 2, none⟩ = some (.slice (some ⟨b7, 0, none⟩) 2 2) ∧ w.cell? ⟨y, 3, none⟩ = some (.int .i64 6) ∧ w.cell? ⟨y, 4, none⟩ = some (.slice (some ⟨b8, 0, none⟩) 3 3) ∧ w.cell? ⟨y, 5, none⟩ = some (.slice (some ⟨b9, 0, none⟩) 1 1) ∧ w.cell? ⟨y, 6, none⟩ = some (.int .i64 10) ∧ w.cell? ⟨y, 7, none⟩ = some (.int .i64 6) ∧ w.cell? ⟨y, 8, none⟩ = some (.int .i64 2) :=
  ⟨(h.cell 0).trans rfl, (h.cell 1).trans rfl, (h.cell 2).trans rfl, (h.cell 3).trans rfl, (h.cell 4).trans rfl, (h.cell 5).trans rfl, (h.cell 6).trans rfl, (h.cell 7).trans rfl, (h.cell 8).trans rfl⟩
def PlAt (w : World) (b4 b7 b8 b9 : Nat) : Prop := CfAt w (.slice (some ⟨b4, 0, none⟩) 3 3) (.slice (some ⟨b7, 0, none⟩) 2 2) (.slice (some ⟨b8, 0, none⟩) 3 3) (.slice (some ⟨b9, 0, none⟩) 1 1) plC
section
variable {w : World} {b4 b7 b8 b9 : Nat}
theorem PlAt.below {w' : World} (h : PlAt w b4 b7 b8 b9) (hb : Below w.heap.size w w') : PlAt w' b4 b7 b8 b9 := CfAt.below h hb
theorem pl_flow (h : PlAt w b4 b7 b8 b9) (x y : Int) (b : Bool) (hb : (inP 3 y && flC x y.toNat) = b) : Calls Try.prog 11 #[.agg #[.int .i64 16, .slice (some ⟨b4, 0, none⟩) 3 3, .slice (some ⟨b7, 0, none⟩) 2 2, .int .i64 6, .slice (some ⟨b8, 0, none⟩) 3 3, .slice (some ⟨b9, 0, none⟩) 1 1, .int .i64 10, .int .i64 6, .int .i64 2], .int .i64 x, .int .i64 y] w fun e w' => e = .returned (.bool b) ∧ Below w.heap.size w w' := by
  have := vflows_any h x y
  rw [pl_flB, hb] at this
  exact this
theorem pl_purge (h : PlAt w b4 b7 b8 b9) (v : Value) (n p : Nat) (l : List Stp) (hv : Sl w v n 7 (stcs l)) (hl : l.length = n) (hn : n * 64 ≤ 140737488351232) (hp : p < 3) (r : List Stp) (hr : pgC p (hsNew plC) l = r) :
    Calls Try.prog 12 #[.agg #[.int .i64 16, .slice (some ⟨b4, 0, none⟩) 3 3, .slice (some ⟨b7, 0, none⟩) 2 2, .int .i64 6, .slice (some ⟨b8, 0, none⟩) 3 3, .slice (some ⟨b9, 0, none⟩) 1 1, .int .i64 10, .int .i64 6, .int .i64 2], v, .int .i64 (p : Int)] w fun e w' => ∃ g, e = .returned (.tuple #[.slice (some ⟨g, 0, none⟩) n n, .int .i64 0]) ∧ Tk nos w [obB g 39 (stcs r)] w' := by
  subst hl
  have := vpurge_yes h pl_mayV p hp v l hv hn
  rw [pl_pgL hp, hr] at this
  exact this
theorem pl_purge3 (h : PlAt w b4 b7 b8 b9) (v : Value) : Calls Try.prog 12 #[.agg #[.int .i64 16, .slice (some ⟨b4, 0, none⟩) 3 3, .slice (some ⟨b7, 0, none⟩) 2 2, .int .i64 6, .slice (some ⟨b8, 0, none⟩) 3 3, .slice (some ⟨b9, 0, none⟩) 1 1, .int .i64 10, .int .i64 6, .int .i64 2], v, .int .i64 3] w fun e w' => e = .returned (.tuple #[.slice none 0 0, .int .i64 2300]) ∧ Below w.heap.size w w' :=
  vpurge_no h v 3 (fun hh => by have := hh.2; exact absurd this (by decide))
end
theorem pl_plain (w : World) : Calls Try.prog 15 #[] w fun e w' => ∃ b4 b7 b8 b9, e = .returned (.agg #[.int .i64 16, .slice (some ⟨b4, 0, none⟩) 3 3, .slice (some ⟨b7, 0, none⟩) 2 2, .int .i64 6, .slice (some ⟨b8, 0, none⟩) 3 3, .slice (some ⟨b9, 0, none⟩) 1 1, .int .i64 10, .int .i64 6, .int .i64 2]) ∧ PlAt w' b4 b7 b8 b9 ∧ Below w.heap.size w w' :=
  (plain23_any w).mono fun e w' ⟨b1, b2, b3, b4, b5, b6, b7, b8, b9, he, hpl, _, _, hb⟩ => ⟨b4, b7, b8, b9, he, hpl.cf, hb⟩
def awS : List Stp := [⟨9, 1, 0, 0, 0, 0, ⟨#[]⟩⟩, ⟨1, 0, 0, 0, 0, 0, ⟨#[]⟩⟩, ⟨3, 0, 1, 0, 0, 0, ⟨#[]⟩⟩, ⟨3, 0, 0, 0, 0, 0, ⟨#[]⟩⟩, ⟨99, 0, 0, 0, 0, 0, ⟨#[]⟩⟩]
def awR : List Stp := [stD, ⟨1, 0, 0, 0, 0, 0, ⟨#[]⟩⟩, stD, ⟨3, 0, 0, 0, 0, 0, ⟨#[]⟩⟩, ⟨99, 0, 0, 0, 0, 0, ⟨#[]⟩⟩]
theorem awR_is : pgC 0 (hsNew plC) awS = awR := by kernel_rfl
set_option maxHeartbeats 2000000 in
theorem vawake_any (w : World) : Calls Try.prog 10 #[] w fun e w' => e = .returned (.bool true) ∧ Below w.heap.size w w' := by
  go_enter Try.func10, Try.ntmps10
  go_wp2_with fail
  refine (pl_plain _).mono ?_
  rintro e w1 ⟨b4, b7, b8, b9, rfl, hc, hbel⟩
  have HB := Lib.hid hbel; have HC := Lib.hid hc
  clear hbel hc
  have t1 := (Tk.empty w1).alloc 27 (plV b4 b7 b8 b9)
  obtain ⟨q0, q1, q2, q3, q4, q5, q6, q7, q8⟩ := plV_at (t1.blk (i := 0) rfl)
  have T1 := Lib.hid t1
  clear t1
  unfold plV at *
  go_wp2_with fail
  have T2 : Hid (Tk nos w1 [obB (w1.heap.size + 1) 39 (stcs awS), obB w1.heap.size 27 (plV b4 b7 b8 b9)] _) := Lib.hid (by
    have := T1.out.alloc 39 (stcs awS)
    simp only [World.size_alloc] at this
    exact this)
  clear q0 q1 q2 q3 q4 q5 q6 q7 q8 T1
  refine (pl_purge (HC.out.below T2.out.below) _ 5 0 awS (sl_whole (T2.out.blk (i := 0) rfl) 5 7 rfl) rfl (by omega) (by decide) awR awR_is).mono ?_
  rintro e w3 ⟨gx, rfl, t3⟩
  have T3 := Lib.hid (show Tk nos w1 [obB gx 39 (stcs awR), obB (w1.heap.size + 1) 39 (stcs awS), obB w1.heap.size 27 (plV b4 b7 b8 b9)] w3 from T2.out.add t3)
  clear t3 T2
  generalize w1.heap.size + 1 = g2 at *
  generalize w1.heap.size = y at *
  obtain ⟨q0, q1, q2, q3, q4, q5, q6, q7, q8⟩ := plV_at (T3.out.blk (i := 2) rfl)
  go_wp2_with fail
  refine (pl_purge3 (HC.out.below T3.out.below) _).mono ?_
  rintro e wa ⟨rfl, ba⟩
  have T4 := Lib.hid (T3.out.next ba)
  clear ba T3 q0 q1 q2 q3 q4 q5 q6 q7 q8
  obtain ⟨q0, q1, q2, q3, q4, q5, q6, q7, q8⟩ := plV_at (T4.out.blk (i := 2) rfl)
  go_wp2_with fail
  refine (pl_flow (HC.out.below T4.out.below) 0 1 true rfl).mono ?_
  rintro e wb0 ⟨rfl, ba⟩
  replace T4 := Lib.hid (T4.out.next ba)
  clear ba q0 q1 q2 q3 q4 q5 q6 q7 q8
  obtain ⟨q0, q1, q2, q3, q4, q5, q6, q7, q8⟩ := plV_at (T4.out.blk (i := 2) rfl)
  go_wp2_with fail
  refine (pl_flow (HC.out.below T4.out.below) 1 0 false rfl).mono ?_
  rintro e wb1 ⟨rfl, ba⟩
  replace T4 := Lib.hid (T4.out.next ba)
  clear ba q0 q1 q2 q3 q4 q5 q6 q7 q8
  obtain ⟨q0, q1, q2, q3, q4, q5, q6, q7, q8⟩ := plV_at (T4.out.blk (i := 2) rfl)
  go_wp2_with fail
  refine (pl_flow (HC.out.below T4.out.below) 0 2 true rfl).mono ?_
  rintro e wb2 ⟨rfl, ba⟩
  replace T4 := Lib.hid (T4.out.next ba)
  clear ba q0 q1 q2 q3 q4 q5 q6 q7 q8
  obtain ⟨q0, q1, q2, q3, q4, q5, q6, q7, q8⟩ := plV_at (T4.out.blk (i := 2) rfl)
  go_wp2_with fail
  refine (pl_flow (HC.out.below T4.out.below) 2 0 false rfl).mono ?_
  rintro e wb3 ⟨rfl, ba⟩
  replace T4 := Lib.hid (T4.out.next ba)
  clear ba q0 q1 q2 q3 q4 q5 q6 q7 q8
  obtain ⟨q0, q1, q2, q3, q4, q5, q6, q7, q8⟩ := plV_at (T4.out.blk (i := 2) rfl)
  go_wp2_with fail
  refine (pl_flow (HC.out.below T4.out.below) 2 2 true rfl).mono ?_
  rintro e wb4 ⟨rfl, ba⟩
  replace T4 := Lib.hid (T4.out.next ba)
  clear ba q0 q1 q2 q3 q4 q5 q6 q7 q8
  obtain ⟨q0, q1, q2, q3, q4, q5, q6, q7, q8⟩ := plV_at (T4.out.blk (i := 2) rfl)
  go_wp2_with fail
  refine (pl_flow (HC.out.below T4.out.below) 1 2 false rfl).mono ?_
  rintro e wb5 ⟨rfl, ba⟩
  replace T4 := Lib.hid (T4.out.next ba)
  clear ba q0 q1 q2 q3 q4 q5 q6 q7 q8
  obtain ⟨q0, q1, q2, q3, q4, q5, q6, q7, q8⟩ := plV_at (T4.out.blk (i := 2) rfl)
  go_wp2_with fail
  refine (pl_flow (HC.out.below T4.out.below) 3 3 false rfl).mono ?_
  rintro e wb6 ⟨rfl, ba⟩
  replace T4 := Lib.hid (T4.out.next ba)
  clear ba q0 q1 q2 q3 q4 q5 q6 q7 q8
  go_wp2_with fail
  have T5 : Hid (Tk nos w1 [obB wb6.heap.size 39 (stcs awR), obB gx 39 (stcs awR), obB g2 39 (stcs awS), obB y 27 (plV b4 b7 b8 b9)] _) := Lib.hid (T4.out.alloc 39 (stcs awR))
  refine (same_steps _ _ 5 awR _ (sl_whole (T5.out.blk (i := 1) rfl) 5 7 rfl) (sl_whole (T5.out.blk (i := 0) rfl) 5 7 rfl) rfl (by decide)).mono ?_
  rintro e wd ⟨rfl, kk, rfl⟩
  have T6 := Lib.hid (T5.out.drewN kk)
  clear T5 T4
  generalize World.drewN _ kk = wd at *
  go_wp2_with fail
  refine (num_any _ _).mono ?_
  rintro e we ⟨rfl, rfl⟩
  go_wp2_with fail
  refine (num_any _ _).mono ?_
  rintro e we ⟨rfl, rfl⟩
  go_wp2_with fail
  go_ret
  exact ⟨rfl, Below.down HB.out T6.out.below HB.out.size⟩
end Go.Proofs.Ytkaalinoiilmoaa
namespace Go.Proofs.Ytkaalinoiilmoaa
open Go.RowKit Go.ChangeShapes Go.WideShapes Go.Deep
set_option linter.unusedVariables false
set_option maxRecDepth 100000
section
variable {H : Type} {enc : TypeId × Value → H} {P : Program}
theorem args_stay (hl : laidOutB P = true) {W W' : World} (hb : Below W.heap.size W W') {sp : Nat → Bool} : ∀ (ts : List TypeId) (vs : List Value) (ds : List (DataW H)) (ps : List MemPlace),
    DataW.TrodAll enc P W 0 (fun _ => true) true ts vs ds ps → (∀ t ∈ ts, P.readableRec t = true ∧ t < P.types.size) → (∀ p ∈ ps, p.block < W.heap.size) → (∀ p ∈ ps, sp p.block = true) →
    DataW.TrodAll enc P W' 0 sp true ts vs ds ps := by
  intro ts
  induction ts with
  | nil =>
    intro vs ds ps h _ _ _
    obtain ⟨rfl, rfl, rfl⟩ := trodAll_nil h
    rfl
  | cons t ts ih =>
    intro vs ds ps h ht hp hs
    obtain ⟨v, vs', d, ds', p, q, rfl, rfl, rfl, h0, hr⟩ := trodAll_cons h
    obtain ⟨r1, r2⟩ := ht t (by simp)
    refine ⟨p, q, WideElems.Trod_stays hl r1 r2 h0 (fun x hx => hb.same (hp x (List.mem_append_left _ hx))) (fun x hx => hs x (List.mem_append_left _ hx)), ?_, rfl⟩
    exact ih vs' ds' q hr (fun t' h' => ht t' (List.mem_cons_of_mem _ h')) (fun x hx => hp x (List.mem_append_right _ hx)) (fun x hx => hs x (List.mem_append_right _ hx))
def intFields (P : Program) (fs : Array Field) : Bool := (List.range fs.size).all fun i => match fs[i]? with
  | some f => f.offset == i && P.cellsOf f.type == 1 && (match P.underlying f.type with | some (.int .i64) => true | _ => false)
  | none => false
theorem intFields_of {fs : Array Field} (h : intFields P fs = true) (i : Nat) (hi : i < fs.size) : ∃ f, fs[i]? = some f ∧ f.offset = i ∧ P.cellsOf f.type = 1 ∧ P.underlying f.type = some (.int .i64) := by
  have h0 := List.all_eq_true.1 h i (by simpa using hi)
  rw [Array.getElem?_eq_getElem hi] at h0 ⊢
  simp only [Bool.and_eq_true, beq_iff_eq] at h0
  refine ⟨_, rfl, h0.1.1, h0.1.2, ?_⟩
  have h2 := h0.2
  split at h2
  · assumption
  · cases h2
def In64 (z : Int) : Prop := -9223372036854775808 ≤ z ∧ z ≤ 9223372036854775807
theorem fld_int {W : World} {e : TypeId} {fs : Array Field} {m : Nat} {cs : List Value} {y : DataW H × List MemPlace} (he : P.underlying e = some (.struct fs)) (hy : DataW.trod enc P W 0 (fun _ => true) true m e cs = some y)
    (k o : Nat) (f : Field) (hk : fs[k]? = some f) (ho : f.offset = o) (hc : P.cellsOf f.type = 1) (hu : P.underlying f.type = some (.int .i64)) : ∃ z : Int, cs[o]? = some (.int .i64 z) ∧ In64 z := by
  obtain ⟨ys, m', _, _, hlen, hyl, hf⟩ := DataW.trod_struct he hy
  have hkl : k < ys.length := by rw [hyl]; exact (Array.getElem?_eq_some_iff.1 hk).1
  have h1 := hf _ f hk
  rw [ho, hc, List.getElem?_eq_getElem hkl] at h1
  obtain ⟨z, hz, _, hw⟩ := DataW.trod_int hu h1
  refine ⟨z, ?_, wfb hw⟩
  have g : ((cs.drop o).take 1)[0]? = some (Value.int .i64 z) := by rw [hz]; rfl
  rw [List.getElem?_take, if_pos (by omega), List.getElem?_drop] at g
  exact g
theorem fld_sub {W : World} {e : TypeId} {fs : Array Field} {m : Nat} {cs : List Value} {y : DataW H × List MemPlace} (he : P.underlying e = some (.struct fs)) (hy : DataW.trod enc P W 0 (fun _ => true) true m e cs = some y)
    (k o C : Nat) (f : Field) (hk : fs[k]? = some f) (ho : f.offset = o) (hc : P.cellsOf f.type = C) : ∃ m' y', DataW.trod enc P W 0 (fun _ => true) true m' f.type ((cs.drop o).take C) = some y' := by
  obtain ⟨ys, m', _, _, hlen, hyl, hf⟩ := DataW.trod_struct he hy
  have hkl : k < ys.length := by rw [hyl]; exact (Array.getElem?_eq_some_iff.1 hk).1
  have h1 := hf _ f hk
  rw [ho, hc, List.getElem?_eq_getElem hkl] at h1
  exact ⟨_, _, h1⟩
theorem ints_of {cs : List Value} (each : ∀ j, j < cs.length → ∃ z : Int, cs[j]? = some (.int .i64 z) ∧ In64 z) : ∃ zs : List Int, cs = ints zs ∧ ∀ z ∈ zs, In64 z := by
  have hzs : ∀ m, m ≤ cs.length → ∃ zs : List Int, zs.length = m ∧ cs.take m = ints zs ∧ ∀ z ∈ zs, In64 z := by
    intro m
    induction m with
    | zero => intro _; exact ⟨[], rfl, by simp [ints], fun z hz => by cases hz⟩
    | succ m ih =>
      intro hm
      obtain ⟨zs, z1, z2, z3⟩ := ih (by omega)
      obtain ⟨z, h1, h2⟩ := each m (by omega)
      refine ⟨zs ++ [z], by simp [z1], ?_, fun u hu => ?_⟩
      · rw [List.take_add_one, z2, h1, ints_append]; rfl
      · rcases List.mem_append.1 hu with hu | hu
        · exact z3 u hu
        · simp only [List.mem_cons, List.not_mem_nil, or_false] at hu
          subst hu; exact h2
  obtain ⟨zs, z1, z2, z3⟩ := hzs _ (Nat.le_refl _)
  rw [List.take_length] at z2
  exact ⟨zs, z2, z3⟩
end
end Go.Proofs.Ytkaalinoiilmoaa
namespace Go.Proofs.Ytkaalinoiilmoaa
open Go.RowKit Go.ChangeShapes Go.WideShapes Go.Deep
set_option linter.unusedVariables false
set_option maxRecDepth 100000
section
variable {H : Type} {enc : TypeId × Value → H} {P : Program}
theorem open_slg {t e : TypeId} {C : Nat} {W : World} {v : Value} {d : DataW H} {p : List MemPlace} (ht : P.underlying t = some (.slice e)) (hC : P.cellsOf e = C) (hpos : 0 < C)
    (hv : ∃ A l c, v = .slice A l c) (h : DataW.Trod enc P W 0 (fun _ => true) true t v d p) :
    ∃ (n : Nat) (xs : List Value), Sl W v n C xs ∧ n ≤ maxLen ∧ ∀ i, i < n → ∃ (m : Nat) (y : DataW H × List MemPlace), DataW.trod enc P W 0 (fun _ => true) true m e ((xs.drop (i * C)).take C) = some y := by
  obtain ⟨A0, l0, c0, rfl⟩ := hv
  obtain ⟨fuel, hf⟩ := h
  rcases DataW.trod_slice ht hf with ⟨h0, _⟩ | ⟨a, len, cap, elems, rest, n, _, h0, _, _, hlc, hm, hlen, hel, _⟩
  · simp only [Value.cells, List.cons.injEq, Value.slice.injEq, and_true] at h0
    obtain ⟨rfl, rfl, rfl⟩ := h0
    exact ⟨0, [], ⟨none, 0, rfl, Nat.le_refl _, by simp, fun h => absurd h (by omega)⟩, by omega, fun i hi => absurd hi (by omega)⟩
  · simp only [Value.cells, List.cons.injEq, Value.slice.injEq, and_true] at h0
    obtain ⟨rfl, rfl, rfl⟩ := h0
    have key : ∀ i, i < l0 → ∃ cs : List Value, cs.length = C ∧ (∀ j, j < C → W.cell? ((a.add (i * C)).add j) = cs[j]?) ∧ ∃ (y : DataW H × List MemPlace), DataW.trod enc P W 0 (fun _ => true) true n e cs = some y := by
      intro i hi
      have := hel i hi
      rw [List.getElem?_eq_getElem (by omega), hC] at this
      obtain ⟨cs, h1, h2⟩ := Option.bind_eq_some_iff.1 this
      obtain ⟨_, h3, h4⟩ := World.cells?_some h1
      exact ⟨cs, h3, h4, _, h2⟩
    obtain ⟨F, hF⟩ := choose_lt (α := List Value) (p := fun i cs => cs.length = C ∧ (∀ j, j < C → W.cell? ((a.add (i * C)).add j) = cs[j]?) ∧ ∃ (y : DataW H × List MemPlace), DataW.trod enc P W 0 (fun _ => true) true n e cs = some y) key
    have all : ∀ m, m ≤ l0 → ∃ xs : List Value, xs.length = m * C ∧ (∀ j u, xs[j]? = some u → W.cell? (a.add j) = some u) ∧ ∀ i, i < m → (xs.drop (i * C)).take C = F i := by
      intro m
      induction m with
      | zero => intro _; exact ⟨[], by simp, fun j u hu => by simp at hu, fun i hi => absurd hi (by omega)⟩
      | succ m ih =>
        intro hm
        obtain ⟨xs, hx1, hx2, hx3⟩ := ih (by omega)
        obtain ⟨f1, f2, _⟩ := hF m (by omega)
        have hmC : (m + 1) * C = m * C + C := by rw [Nat.add_mul, Nat.one_mul]
        refine ⟨xs ++ F m, by rw [List.length_append, hx1, f1, hmC], fun j u hu => ?_, fun i hi => ?_⟩
        · by_cases hj : j < xs.length
          · rw [List.getElem?_append_left hj] at hu; exact hx2 j u hu
          · rw [List.getElem?_append_right (by omega)] at hu
            have hjl : j - xs.length < C := by
              have := (List.getElem?_eq_some_iff.1 hu).1
              omega
            have := f2 _ hjl
            rw [add_add, hu] at this
            rw [show j = m * C + (j - xs.length) by omega]
            exact this
        · have hiC : i * C + C ≤ m * C ∨ i = m := by
            by_cases h : i = m
            · exact .inr h
            · left
              have : (i + 1) * C ≤ m * C := Nat.mul_le_mul_right _ (by omega)
              rw [Nat.add_mul, Nat.one_mul] at this
              exact this
          rcases hiC with h | rfl
          · have hlt : i < m := by
              by_cases hh : i < m
              · exact hh
              · have : m * C ≤ i * C := Nat.mul_le_mul_right _ (by omega)
                omega
            rw [List.drop_append_of_le_length (by omega), List.take_append_of_le_length (by rw [List.length_drop]; omega)]
            exact hx3 i hlt
          · rw [← hx1, List.drop_left, ← f1, List.take_length]
    obtain ⟨xs, hx1, hx2, hx3⟩ := all l0 (Nat.le_refl _)
    refine ⟨l0, xs, ⟨some a, c0, rfl, hlc, hx1, fun hn => ?_⟩, by omega, fun i hi => ?_⟩
    · have hCn : 0 < xs.length := by rw [hx1]; exact Nat.mul_pos hn hpos
      have h0 := hx2 0 _ (List.getElem?_eq_getElem hCn)
      have h0' : W.cell? a = some xs[0] := by simpa [Addr.add] using h0
      have hs := World.cell?_spot h0'
      obtain ⟨b, o, s⟩ := a
      simp only at hs
      subst hs
      refine ⟨b, o, rfl, World.block_lt_of_cell? W _ h0', fun j u hu => ?_⟩
      have := hx2 j u hu
      rw [add_none] at this
      exact this
    · rw [hx3 i hi]
      obtain ⟨_, _, y, hy⟩ := hF i hi
      exact ⟨n, y, hy⟩
theorem open_recsg {t e : TypeId} {fs : Array Field} {W : World} {v : Value} {d : DataW H} {p : List MemPlace} (ht : P.underlying t = some (.slice e)) (he : P.underlying e = some (.struct fs)) (hC : P.cellsOf e = fs.size) (hpos : 0 < fs.size)
    (hfs : intFields P fs = true) (hv : ∃ A l c, v = .slice A l c) (h : DataW.Trod enc P W 0 (fun _ => true) true t v d p) :
    ∃ (n : Nat) (zs : List Int), Sl W v n fs.size (ints zs) ∧ n ≤ maxLen ∧ zs.length = n * fs.size ∧ ∀ z ∈ zs, In64 z := by
  obtain ⟨n, xs, hs, hn, hr⟩ := open_slg ht hC hpos hv h
  have hxl : xs.length = n * fs.size := by obtain ⟨_, _, _, _, hl, _⟩ := hs; exact hl
  have each : ∀ j, j < n * fs.size → ∃ z : Int, xs[j]? = some (.int .i64 z) ∧ In64 z := by
    intro j hj
    have hi : j / fs.size < n := Nat.div_lt_of_lt_mul (by rw [Nat.mul_comm]; exact hj)
    obtain ⟨m, y, hy⟩ := hr _ hi
    obtain ⟨ys, m', _, _, hlen, hyl, hf⟩ := DataW.trod_struct he hy
    have hk : j % fs.size < fs.size := Nat.mod_lt _ hpos
    obtain ⟨f, f0, f1, f2, f3⟩ := intFields_of hfs _ hk
    have h1 := hf _ f f0
    rw [f1, f2, List.getElem?_eq_getElem (by omega)] at h1
    obtain ⟨z, hz, _, hw⟩ := DataW.trod_int f3 h1
    refine ⟨z, ?_, wfb hw⟩
    have hj2 : j / fs.size * fs.size + j % fs.size = j := by rw [Nat.mul_comm]; exact Nat.div_add_mod j fs.size
    have g : (((xs.drop (j / fs.size * fs.size)).take fs.size).drop (j % fs.size)).take 1 = [Value.int .i64 z] := hz
    have g2 : ((((xs.drop (j / fs.size * fs.size)).take fs.size).drop (j % fs.size)).take 1)[0]? = some (Value.int .i64 z) := by rw [g]; rfl
    rw [List.getElem?_take, if_pos (by omega), List.getElem?_drop, List.getElem?_take, if_pos (by omega), List.getElem?_drop] at g2
    rw [← g2, show j / fs.size * fs.size + (j % fs.size + 0) = j by omega]
  have hzs : ∀ m, m ≤ n * fs.size → ∃ zs : List Int, zs.length = m ∧ xs.take m = ints zs ∧ ∀ z ∈ zs, In64 z := by
    intro m
    induction m with
    | zero => intro _; exact ⟨[], rfl, by simp [ints], fun z hz => by cases hz⟩
    | succ m ih =>
      intro hm
      obtain ⟨zs, z1, z2, z3⟩ := ih (by omega)
      obtain ⟨z, h1, h2⟩ := each m (by omega)
      refine ⟨zs ++ [z], by simp [z1], ?_, fun u hu => ?_⟩
      · rw [List.take_add_one, z2, h1, ints_append]; rfl
      · rcases List.mem_append.1 hu with hu | hu
        · exact z3 u hu
        · simp only [List.mem_cons, List.not_mem_nil, or_false] at hu
          subst hu; exact h2
  obtain ⟨zs, z1, z2, z3⟩ := hzs _ (Nat.le_refl _)
  rw [← hxl, List.take_length] at z2
  subst z2
  exact ⟨n, zs, hs, hn, z1, z3⟩
theorem weightsAll_memg {e : TypeId} : ∀ {ds : List (DataW H)} {d : DataW H}, d ∈ ds → ∀ n ∈ d.weights P e, n ∈ DataW.weightsAll P e ds
  | [], d, h, n, hn => by cases h
  | d0 :: ds, d, h, n, hn => by
    simp only [DataW.weightsAll, List.mem_append]
    rcases List.mem_cons.1 h with rfl | h
    · exact .inl hn
    · exact .inr (weightsAll_memg h n hn)
theorem row_weightg {W : World} {t e : TypeId} {R m n c : Nat} {A : Option Addr} {y : DataW H × List MemPlace} (ht : P.underlying t = some (.slice e)) (h : DataW.trod enc P W 0 (fun _ => true) true m t [.slice A n c] = some y) (hw : ∀ q ∈ y.1.weights P t, q ≤ R) : n * P.bytesOf e ≤ R := by
  rcases DataW.trod_slice ht h with ⟨h0, _⟩ | ⟨a, len, cap, elems, rest, k, _, h0, hx, _, _, _, hlen, _⟩
  · simp only [List.cons.injEq, Value.slice.injEq, and_true] at h0
    obtain ⟨_, rfl, _⟩ := h0
    simp
  · simp only [List.cons.injEq, Value.slice.injEq, and_true] at h0
    obtain ⟨_, rfl, _⟩ := h0
    subst hx
    have := hw ((elems.length + rest.length) * P.bytesOf e) (by simp [DataW.weights, ht])
    exact Nat.le_trans (Nat.mul_le_mul_right _ (by omega)) this
end
end Go.Proofs.Ytkaalinoiilmoaa
namespace Go.Proofs.Ytkaalinoiilmoaa
open Go.RowKit Go.ChangeShapes Go.WideShapes Go.Deep
set_option linter.unusedVariables false
set_option maxRecDepth 100000
section
variable {H : Type} {enc : TypeId × Value → H} {P : Program}
theorem open_intslg {t e : TypeId} {W : World} {v : Value} {d : DataW H} {p : List MemPlace} (ht : P.underlying t = some (.slice e)) (he : P.underlying e = some (.int .i64)) (hC : P.cellsOf e = 1)
    (hv : ∃ A l c, v = .slice A l c) (h : DataW.Trod enc P W 0 (fun _ => true) true t v d p) :
    ∃ (n : Nat) (zs : List Int), Sl W v n 1 (ints zs) ∧ n ≤ maxLen ∧ zs.length = n ∧ ∀ z ∈ zs, In64 z := by
  obtain ⟨n, xs, hs, hn, hr⟩ := open_slg ht hC (by omega) hv h
  have hxl : xs.length = n * 1 := by obtain ⟨_, _, _, _, hl, _⟩ := hs; exact hl
  have each : ∀ j, j < xs.length → ∃ z : Int, xs[j]? = some (.int .i64 z) ∧ In64 z := by
    intro j hj
    obtain ⟨m, y, hy⟩ := hr j (by omega)
    obtain ⟨z, hz, _, hw⟩ := DataW.trod_int he hy
    refine ⟨z, ?_, wfb hw⟩
    have g2 : ((xs.drop (j * 1)).take 1)[0]? = some (Value.int .i64 z) := by rw [hz]; rfl
    rw [List.getElem?_take, if_pos (by omega), List.getElem?_drop] at g2
    rw [← g2, show j * 1 + 0 = j by omega]
  obtain ⟨zs, rfl, hz⟩ := ints_of each
  exact ⟨n, zs, hs, hn, by rw [ints_len] at hxl; omega, hz⟩
end
theorem open_frs {H : Type} {enc : TypeId × Value → H} {W : World} {m : Nat} {c : Value} {y : DataW H × List MemPlace} (h : DataW.trod enc Try.prog W 0 (fun _ => true) true m 46 [c] = some y) (hw : ∀ q ∈ y.1.weights Try.prog 46, q ≤ 140737488351232) :
    ∃ (fs : List Int) (A2 : Option Addr) (cap2 : Nat), c = .slice A2 fs.length cap2 ∧ Sl W (.slice A2 fs.length cap2) fs.length 1 (ints fs) ∧ (A2 = none → cap2 = 0) ∧ fs.length * 8 ≤ 140737488351232 := by
  have hf : ∃ A l c0, c = .slice A l c0 ∧ (A = none → c0 = 0) := by
    rcases DataW.trod_slice Try.underlying46 h with ⟨h0, _⟩ | ⟨a, len, cap, elems, rest, k, _, h0, _⟩
    · simp only [List.cons.injEq, and_true] at h0
      exact ⟨none, 0, 0, h0, fun _ => rfl⟩
    · simp only [List.cons.injEq, and_true] at h0
      exact ⟨some a, len, cap, h0, fun e => by cases e⟩
  obtain ⟨A2, n, cap2, rfl, hn⟩ := hf
  have hb := row_weightg Try.underlying46 h hw
  have e8 : Try.prog.bytesOf 3 = 8 := by kernel_rfl
  rw [e8] at hb
  obtain ⟨n', zs, hs, _, hl, _⟩ := open_intslg (P := Try.prog) (enc := enc) (v := .slice A2 n cap2) (d := y.1) (p := y.2) Try.underlying46 Try.underlying3 (by kernel_rfl) ⟨_, _, _, rfl⟩ ⟨m, h⟩
  have en : n' = n := by
    obtain ⟨_, _, e, _⟩ := hs
    simp only [Value.slice.injEq] at e
    exact e.2.1.symm
  subst en
  subst hl
  exact ⟨zs, A2, cap2, rfl, hs, hn, hb⟩
theorem open_part {H : Type} {enc : TypeId × Value → H} {W : World} {m b a : Nat} {cs : List Value} {y : DataW H × List MemPlace} (hy : DataW.trod enc Try.prog W 0 (fun _ => true) true m 48 cs = some y) (hcl : cs.length = 5)
    (hcell : ∀ j, j < 5 → W.cell? ⟨b, a + j, none⟩ = cs[j]?) (hw : ∀ q ∈ y.1.weights Try.prog 48, q ≤ 140737488351232) : ∃ p : Pa, PaAt W b a p ∧ p.fr.length * 8 ≤ 140737488351232 := by
  obtain ⟨m', y', hy'⟩ := fld_sub (P := Try.prog) Try.underlying48 hy 0 0 2 _ rfl rfl (by kernel_rfl)
  obtain ⟨lv, g0, _⟩ := fld_int (P := Try.prog) Try.underlying45 hy' 0 0 _ rfl rfl (by kernel_rfl) Try.underlying3
  obtain ⟨ct, g1, _⟩ := fld_int (P := Try.prog) Try.underlying45 hy' 1 1 _ rfl rfl (by kernel_rfl) Try.underlying3
  obtain ⟨fi, g3, _⟩ := fld_int (P := Try.prog) Try.underlying48 hy 2 3 _ rfl rfl (by kernel_rfl) Try.underlying3
  obtain ⟨co, g4, _⟩ := fld_int (P := Try.prog) Try.underlying48 hy 3 4 _ rfl rfl (by kernel_rfl) Try.underlying3
  rw [List.getElem?_take, if_pos (by omega), List.getElem?_drop] at g0 g1
  obtain ⟨ys, m2, _, hagg, _, hyl, hfl⟩ := DataW.trod_struct Try.underlying48 hy
  have hyl4 : ys.length = 4 := hyl
  have h6 := hfl 1 _ rfl
  have e1 : Try.prog.cellsOf 46 = 1 := by kernel_rfl
  rw [List.getElem?_eq_getElem (by omega)] at h6
  obtain ⟨c, hc⟩ : ∃ c, (cs.drop 2).take 1 = [c] := by
    match cs, hcl with
    | [_, _, c, _, _], _ => exact ⟨c, rfl⟩
  have h7 : DataW.trod enc Try.prog W 0 (fun _ => true) true m2 46 [c] = some (ys[1]'(by omega)) := by
    rw [← hc]; exact h6
  obtain ⟨fs, A2, cap2, rfl, hs, hnil, h8⟩ := open_frs h7 (fun q hq => hw q (by
    rw [hagg]
    simp only [DataW.weights, Try.underlying48]
    exact DataW.weights_mem_each (j := 1) (t := 46) (d := (ys[1]'(by omega)).1) rfl (by rw [List.getElem?_map, List.getElem?_eq_getElem (by omega)]; rfl) q hq))
  have g2 : cs[2]? = some (.slice A2 fs.length cap2) := by
    have := congrArg (fun l => l[0]?) hc
    simpa [List.getElem?_take, List.getElem?_drop] using this
  refine ⟨⟨lv, ct, fs, fi, co⟩, ⟨A2, cap2, ?_, ?_, ?_, ?_, ?_, hs, hnil⟩, h8⟩
  · have := hcell 0 (by omega); rw [Nat.add_zero] at this; exact this.trans g0
  · exact (hcell 1 (by omega)).trans g1
  · exact (hcell 2 (by omega)).trans g2
  · exact (hcell 3 (by omega)).trans g3
  · exact (hcell 4 (by omega)).trans g4
theorem open_parts {H : Type} {enc : TypeId × Value → H} {W : World} {v : Value} {d : DataW H} {p : List MemPlace} (hv : ∃ A l c, v = .slice A l c) (h : DataW.Trod enc Try.prog W 0 (fun _ => true) true 22 v d p) (hw : ∀ q ∈ d.weights Try.prog 22, q ≤ 140737488351232) :
    ∃ l : List Pa, PaS W v l ∧ PaZ l := by
  obtain ⟨A, n, cap, rfl⟩ := hv
  obtain ⟨fuel, hf⟩ := h
  have hb := row_weightg (R := 140737488351232) Try.underlying22 hf hw
  have e56 : Try.prog.bytesOf 48 = 56 := by kernel_rfl
  have e5 : Try.prog.cellsOf 48 = 5 := by kernel_rfl
  rw [e56] at hb
  rcases DataW.trod_slice Try.underlying22 hf with ⟨h0, _⟩ | ⟨a, len, cap', elems, rest, k, _, h0, hx, _, _, _, hlen, hel, _⟩
  · simp only [Value.cells, List.cons.injEq, Value.slice.injEq, and_true] at h0
    obtain ⟨rfl, rfl, rfl⟩ := h0
    exact ⟨[], ⟨none, 0, rfl, fun h => absurd h (by simp)⟩, by simp, fun i => by simp [paD]⟩
  · simp only [Value.cells, List.cons.injEq, Value.slice.injEq, and_true] at h0
    obtain ⟨rfl, rfl, rfl⟩ := h0
    simp only [Prod.mk.injEq] at hx
    obtain ⟨rfl, _⟩ := hx
    have spot : 0 < n → a.spot = none ∧ a.block < W.heap.size := by
      intro hn
      have h1 := hel 0 hn
      rw [List.getElem?_eq_getElem (by omega), e5] at h1
      obtain ⟨cs, h2, h3⟩ := Option.bind_eq_some_iff.1 h1
      obtain ⟨_, h4, h5⟩ := World.cells?_some h2
      have h6 := h5 0 (by omega)
      rw [List.getElem?_eq_getElem (by omega)] at h6
      have h6' : W.cell? a = some cs[0] := by simpa [Addr.add] using h6
      exact ⟨World.cell?_spot h6', World.block_lt_of_cell? W _ h6'⟩
    by_cases hn : 0 < n
    · obtain ⟨hsp, hlt⟩ := spot hn
      obtain ⟨b, o, s⟩ := a
      simp only at hsp hlt
      subst hsp
      have key : ∀ i, i < n → ∃ p : Pa, PaAt W b (o + i * 5) p ∧ p.fr.length * 8 ≤ 140737488351232 := by
        intro i hi
        have h1 := hel i hi
        rw [List.getElem?_eq_getElem (by omega), e5] at h1
        obtain ⟨cs, h2, h3⟩ := Option.bind_eq_some_iff.1 h1
        obtain ⟨_, h4, h5⟩ := World.cells?_some h2
        have hmem : (elems[i]'(by omega)).1 ∈ elems.map (·.1) := List.mem_map.2 ⟨_, List.getElem_mem _, rfl⟩
        refine open_part h3 h4 (fun j hj => ?_) (fun q hq => hw q (by
          simp only [DataW.weights, Try.underlying22, List.mem_cons, List.mem_append]
          exact .inr (.inl (weightsAll_memg hmem q hq))))
        have := h5 j hj
        simpa [add_none, Nat.add_assoc] using this
      haveI : Inhabited Pa := ⟨paD⟩
      obtain ⟨F, hF⟩ := choose_lt (α := Pa) (p := fun i p => PaAt W b (o + i * 5) p ∧ p.fr.length * 8 ≤ 140737488351232) key
      have hg : ∀ i, i < n → ((List.range n).map F).getD i paD = F i := by
        intro i hi
        simp [List.getD, hi]
      have hl : ((List.range n).map F).length = n := by simp
      refine ⟨(List.range n).map F, ⟨some ⟨b, o, none⟩, cap, by rw [hl], fun h0 => ⟨b, o, rfl, hlt, fun i hi => ?_⟩⟩, by rw [hl]; exact hb, fun i => ?_⟩
      · rw [hl] at hi
        rw [hg i hi]
        exact (hF i hi).1
      · by_cases hi : i < n
        · rw [hg i hi]; exact (hF i hi).2
        · simp [List.getD, show ¬ i < n from hi, paD]
    · obtain rfl : n = 0 := by omega
      exact ⟨[], ⟨some a, cap, rfl, fun h => absurd h (by simp)⟩, by simp, fun i => by simp [paD]⟩
end Go.Proofs.Ytkaalinoiilmoaa
namespace Go.Proofs.Ytkaalinoiilmoaa
open Go.RowKit Go.ChangeShapes Go.WideShapes Go.Deep
set_option linter.unusedVariables false
set_option maxRecDepth 100000
theorem open_dev {H : Type} {enc : TypeId × Value → H} {W : World} {m b a : Nat} {cs : List Value} {y : DataW H × List MemPlace} (hy : DataW.trod enc Try.prog W 0 (fun _ => true) true m 64 cs = some y) (hcl : cs.length = 2)
    (hcell : ∀ j, j < 2 → W.cell? ⟨b, a + j, none⟩ = cs[j]?) (hw : ∀ q ∈ y.1.weights Try.prog 64, q ≤ 140737488351232) : ∃ p : De, DeAt W b a p ∧ p.po.length * 8 ≤ 140737488351232 := by
  obtain ⟨pt, g0, _⟩ := fld_int (P := Try.prog) Try.underlying64 hy 0 0 _ rfl rfl (by kernel_rfl) Try.underlying3
  obtain ⟨ys, m2, _, hagg, _, hyl, hfl⟩ := DataW.trod_struct Try.underlying64 hy
  have hyl4 : ys.length = 2 := hyl
  have h6 := hfl 1 _ rfl
  have e1 : Try.prog.cellsOf 46 = 1 := by kernel_rfl
  rw [List.getElem?_eq_getElem (by omega)] at h6
  obtain ⟨c, hc⟩ : ∃ c, (cs.drop 1).take 1 = [c] := by
    match cs, hcl with
    | [_, c], _ => exact ⟨c, rfl⟩
  have h7 : DataW.trod enc Try.prog W 0 (fun _ => true) true m2 46 [c] = some (ys[1]'(by omega)) := by
    rw [← hc]; exact h6
  obtain ⟨fs, A2, cap2, rfl, hs, hnil, h8⟩ := open_frs h7 (fun q hq => hw q (by
    rw [hagg]
    simp only [DataW.weights, Try.underlying64]
    exact DataW.weights_mem_each (j := 1) (t := 46) (d := (ys[1]'(by omega)).1) rfl (by rw [List.getElem?_map, List.getElem?_eq_getElem (by omega)]; rfl) q hq))
  have g2 : cs[1]? = some (.slice A2 fs.length cap2) := by
    have := congrArg (fun l => l[0]?) hc
    simpa [List.getElem?_take, List.getElem?_drop] using this
  refine ⟨⟨pt, fs⟩, ⟨A2, cap2, ?_, ?_, hs, hnil⟩, h8⟩
  · have := hcell 0 (by omega); rw [Nat.add_zero] at this; exact this.trans g0
  · exact (hcell 1 (by omega)).trans g2
theorem open_devs {H : Type} {enc : TypeId × Value → H} {W : World} {v : Value} {d : DataW H} {p : List MemPlace} (hv : ∃ A l c, v = .slice A l c) (h : DataW.Trod enc Try.prog W 0 (fun _ => true) true 23 v d p) (hw : ∀ q ∈ d.weights Try.prog 23, q ≤ 140737488351232) :
    ∃ l : List De, DeS W v l ∧ DeZ l := by
  obtain ⟨A, n, cap, rfl⟩ := hv
  obtain ⟨fuel, hf⟩ := h
  have hb := row_weightg (R := 140737488351232) Try.underlying23 hf hw
  have e32 : Try.prog.bytesOf 64 = 32 := by kernel_rfl
  have e2 : Try.prog.cellsOf 64 = 2 := by kernel_rfl
  rw [e32] at hb
  rcases DataW.trod_slice Try.underlying23 hf with ⟨h0, _⟩ | ⟨a, len, cap', elems, rest, k, _, h0, hx, _, _, _, hlen, hel, _⟩
  · simp only [Value.cells, List.cons.injEq, Value.slice.injEq, and_true] at h0
    obtain ⟨rfl, rfl, rfl⟩ := h0
    exact ⟨[], ⟨none, 0, rfl, fun h => absurd h (by simp)⟩, by simp, fun i => by simp [deD]⟩
  · simp only [Value.cells, List.cons.injEq, Value.slice.injEq, and_true] at h0
    obtain ⟨rfl, rfl, rfl⟩ := h0
    simp only [Prod.mk.injEq] at hx
    obtain ⟨rfl, _⟩ := hx
    have spot : 0 < n → a.spot = none ∧ a.block < W.heap.size := by
      intro hn
      have h1 := hel 0 hn
      rw [List.getElem?_eq_getElem (by omega), e2] at h1
      obtain ⟨cs, h2, h3⟩ := Option.bind_eq_some_iff.1 h1
      obtain ⟨_, h4, h5⟩ := World.cells?_some h2
      have h6 := h5 0 (by omega)
      rw [List.getElem?_eq_getElem (by omega)] at h6
      have h6' : W.cell? a = some cs[0] := by simpa [Addr.add] using h6
      exact ⟨World.cell?_spot h6', World.block_lt_of_cell? W _ h6'⟩
    by_cases hn : 0 < n
    · obtain ⟨hsp, hlt⟩ := spot hn
      obtain ⟨b, o, s⟩ := a
      simp only at hsp hlt
      subst hsp
      have key : ∀ i, i < n → ∃ p : De, DeAt W b (o + i * 2) p ∧ p.po.length * 8 ≤ 140737488351232 := by
        intro i hi
        have h1 := hel i hi
        rw [List.getElem?_eq_getElem (by omega), e2] at h1
        obtain ⟨cs, h2, h3⟩ := Option.bind_eq_some_iff.1 h1
        obtain ⟨_, h4, h5⟩ := World.cells?_some h2
        have hmem : (elems[i]'(by omega)).1 ∈ elems.map (·.1) := List.mem_map.2 ⟨_, List.getElem_mem _, rfl⟩
        refine open_dev h3 h4 (fun j hj => ?_) (fun q hq => hw q (by
          simp only [DataW.weights, Try.underlying23, List.mem_cons, List.mem_append]
          exact .inr (.inl (weightsAll_memg hmem q hq))))
        have := h5 j hj
        simpa [add_none, Nat.add_assoc] using this
      haveI : Inhabited De := ⟨deD⟩
      obtain ⟨F, hF⟩ := choose_lt (α := De) (p := fun i p => DeAt W b (o + i * 2) p ∧ p.po.length * 8 ≤ 140737488351232) key
      have hg : ∀ i, i < n → ((List.range n).map F).getD i deD = F i := by
        intro i hi
        simp [List.getD, hi]
      have hl : ((List.range n).map F).length = n := by simp
      refine ⟨(List.range n).map F, ⟨some ⟨b, o, none⟩, cap, by rw [hl], fun h0 => ⟨b, o, rfl, hlt, fun i hi => ?_⟩⟩, by rw [hl]; exact hb, fun i => ?_⟩
      · rw [hl] at hi
        rw [hg i hi]
        exact (hF i hi).1
      · by_cases hi : i < n
        · rw [hg i hi]; exact (hF i hi).2
        · simp [List.getD, show ¬ i < n from hi, deD]
    · obtain rfl : n = 0 := by omega
      exact ⟨[], ⟨some a, cap, rfl, fun h => absurd h (by simp)⟩, by simp, fun i => by simp [deD]⟩
theorem fld_bool0 {H : Type} {enc : TypeId × Value → H} {P : Program} {W : World} {e : TypeId} {fs : Array Field} {m : Nat} {cs : List Value} {y : DataW H × List MemPlace} (he : P.underlying e = some (.struct fs)) (hy : DataW.trod enc P W 0 (fun _ => true) true m e cs = some y)
    (k o : Nat) (f : Field) (hk : fs[k]? = some f) (ho : f.offset = o) (hc : P.cellsOf f.type = 1) (hu : P.underlying f.type = some .bool) : ∃ b : Bool, cs[o]? = some (.bool b) := by
  obtain ⟨ys, m', _, _, hlen, hyl, hf⟩ := DataW.trod_struct he hy
  have hkl : k < ys.length := by rw [hyl]; exact (Array.getElem?_eq_some_iff.1 hk).1
  have h1 := hf _ f hk
  rw [ho, hc, List.getElem?_eq_getElem hkl] at h1
  obtain ⟨b, hz, _⟩ := DataW.trod_bool hu h1
  refine ⟨b, ?_⟩
  have g : ((cs.drop o).take 1)[0]? = some (Value.bool b) := by rw [hz]; rfl
  rw [List.getElem?_take, if_pos (by omega), List.getElem?_drop] at g
  exact g
theorem grs_of : ∀ (n : Nat) (xs : List Value), xs.length = n * 3 → (∀ i, i < n → ∃ g : Gr, (xs.drop (i * 3)).take 3 = grc g) → ∃ l : List Gr, l.length = n ∧ xs = grs l := by
  intro n
  induction n with
  | zero => intro xs h _; exact ⟨[], rfl, List.length_eq_zero_iff.1 (by simpa using h)⟩
  | succ n ih =>
    intro xs h hk
    obtain ⟨g, hg⟩ := hk 0 (by omega)
    obtain ⟨l, hl, e⟩ := ih (xs.drop 3) (by rw [List.length_drop]; omega) (fun i hi => by
      obtain ⟨g, hg⟩ := hk (i + 1) (by omega)
      exact ⟨g, by rw [List.drop_drop, ← hg, show 3 + i * 3 = (i + 1) * 3 by omega]⟩)
    refine ⟨g :: l, by simp [hl], ?_⟩
    have : grs (g :: l) = grc g ++ grs l := by simp [grs]
    rw [this, ← hg, ← e]
    simp
theorem slice_form {H : Type} {enc : TypeId × Value → H} {W : World} {m : Nat} {t e : TypeId} {c : Value} {y : DataW H × List MemPlace} (ht : Try.prog.underlying t = some (.slice e)) (h : DataW.trod enc Try.prog W 0 (fun _ => true) true m t [c] = some y) : ∃ A l c0, c = .slice A l c0 ∧ (A = none → c0 = 0) := by
  rcases DataW.trod_slice ht h with ⟨h0, _⟩ | ⟨a, len, cap, elems, rest, k, _, h0, _⟩
  · simp only [List.cons.injEq, and_true] at h0
    exact ⟨none, 0, 0, h0, fun _ => rfl⟩
  · simp only [List.cons.injEq, and_true] at h0
    exact ⟨some a, len, cap, h0, fun e => by cases e⟩
theorem open_wins {H : Type} {enc : TypeId × Value → H} {W : World} {m : Nat} {c : Value} {y : DataW H × List MemPlace} (h : DataW.trod enc Try.prog W 0 (fun _ => true) true m 24 [c] = some y) (hw : ∀ q ∈ y.1.weights Try.prog 24, q ≤ 140737488351232) :
    ∃ l : List Win, Ws W c l.length l ∧ l.length * 32 ≤ 140737488351232 ∧ ∀ m k, c = .slice none m k → k = 0 := by
  obtain ⟨A, n, cap, rfl, hn⟩ := slice_form Try.underlying24 h
  have hb := row_weightg Try.underlying24 h hw
  have e32 : Try.prog.bytesOf 66 = 32 := by kernel_rfl
  rw [e32] at hb
  obtain ⟨n', zs, hs, hm, hl, hr⟩ := open_recsg (P := Try.prog) (enc := enc) (v := .slice A n cap) (d := y.1) (p := y.2) Try.underlying24 Try.underlying66 (by kernel_rfl) (by decide) (by kernel_rfl) ⟨_, _, _, rfl⟩ ⟨m, h⟩
  have en : n' = n := by
    obtain ⟨_, _, e, _⟩ := hs
    simp only [Value.slice.injEq] at e
    exact e.2.1.symm
  subst en
  obtain ⟨l, rfl, hll⟩ := wins_of n' zs hl
  subst hll
  exact ⟨l, ⟨hs, rfl, hm, w64_of l hr⟩, hb, fun m k e => by simp only [Value.slice.injEq] at e; rw [← e.2.2]; exact hn e.1⟩
theorem open_grs {H : Type} {enc : TypeId × Value → H} {W : World} {m : Nat} {c : Value} {y : DataW H × List MemPlace} (h : DataW.trod enc Try.prog W 0 (fun _ => true) true m 25 [c] = some y) (hw : ∀ q ∈ y.1.weights Try.prog 25, q ≤ 140737488351232) :
    ∃ l : List Gr, Sl W c l.length 3 (grs l) ∧ l.length * 24 ≤ 140737488351232 ∧ ∀ m k, c = .slice none m k → k = 0 := by
  obtain ⟨A, n, cap, rfl, hn⟩ := slice_form Try.underlying25 h
  have hb := row_weightg Try.underlying25 h hw
  have e24 : Try.prog.bytesOf 50 = 24 := by kernel_rfl
  rw [e24] at hb
  obtain ⟨n', xs, hs, hm, hr⟩ := open_slg (P := Try.prog) (enc := enc) (v := .slice A n cap) (d := y.1) (p := y.2) (C := 3) Try.underlying25 (by kernel_rfl) (by decide) ⟨_, _, _, rfl⟩ ⟨m, h⟩
  have en : n' = n := by
    obtain ⟨_, _, e, _⟩ := hs
    simp only [Value.slice.injEq] at e
    exact e.2.1.symm
  subst en
  have hxl : xs.length = n' * 3 := by obtain ⟨_, _, _, _, hl, _⟩ := hs; exact hl
  obtain ⟨l, hl, rfl⟩ := grs_of n' xs hxl (fun i hi => by
    obtain ⟨m2, y2, hy⟩ := hr i hi
    obtain ⟨f, g0, _⟩ := fld_int (P := Try.prog) Try.underlying50 hy 0 0 _ rfl rfl (by kernel_rfl) Try.underlying3
    obtain ⟨t, g1, _⟩ := fld_int (P := Try.prog) Try.underlying50 hy 1 1 _ rfl rfl (by kernel_rfl) Try.underlying3
    obtain ⟨b, g2⟩ := fld_bool0 (P := Try.prog) Try.underlying50 hy 2 2 _ rfl rfl (by kernel_rfl) Try.underlying4
    refine ⟨⟨f, t, b⟩, ?_⟩
    have hlen : ((xs.drop (i * 3)).take 3).length = 3 := by rw [List.length_take, List.length_drop]; omega
    generalize (xs.drop (i * 3)).take 3 = z at *
    match z, hlen with
    | [a, b', c'], _ =>
      simp only [List.getElem?_cons_zero, List.getElem?_cons_succ, Option.some.injEq] at g0 g1 g2
      rw [g0, g1, g2]; rfl)
  subst hl
  exact ⟨l, hs, hb, fun m k e => by simp only [Value.slice.injEq] at e; rw [← e.2.2]; exact hn e.1⟩
theorem open_cfg {H : Type} {enc : TypeId × Value → H} {W : World} {r : Reach} {b0 : Nat} {v : Value} {d : DataW H} {p : List MemPlace} (hv : Value.okWide Try.prog W r b0 27 v) (h : DataW.Trod enc Try.prog W 0 (fun _ => true) true 27 v d p)
    (hw : ∀ q ∈ d.weights Try.prog 27, q ≤ 140737488351232) :
    ∃ (c : Cf) (vp vd vw vg : Value), v = .agg #[.int .i64 c.fr, vp, vd, .int .i64 c.mj, vw, vg, .int .i64 c.se, .int .i64 c.qu, .int .i64 c.qt] ∧ CfAt W vp vd vw vg c := by
  obtain ⟨cs, rfl, hsz⟩ := okWide_struct Try.underlying27 hv
  obtain ⟨l, rfl⟩ : ∃ l : List Value, cs = l.toArray := ⟨cs.toList, by simp⟩
  obtain ⟨m, hy⟩ := h
  have e9 : Try.prog.cellsOf 27 = 9 := by kernel_rfl
  have hcl : l.length = 9 := by rw [e9] at hsz; simpa using hsz
  change DataW.trod enc Try.prog W 0 (fun _ => true) true m 27 l = some (d, p) at hy
  obtain ⟨fr, g0, _⟩ := fld_int (P := Try.prog) Try.underlying27 hy 0 0 _ rfl rfl (by kernel_rfl) Try.underlying3
  obtain ⟨mj, g3, _⟩ := fld_int (P := Try.prog) Try.underlying27 hy 3 3 _ rfl rfl (by kernel_rfl) Try.underlying3
  obtain ⟨se, g6, _⟩ := fld_int (P := Try.prog) Try.underlying27 hy 6 6 _ rfl rfl (by kernel_rfl) Try.underlying3
  obtain ⟨qu, g7, _⟩ := fld_int (P := Try.prog) Try.underlying27 hy 7 7 _ rfl rfl (by kernel_rfl) Try.underlying3
  obtain ⟨qt, g8, _⟩ := fld_int (P := Try.prog) Try.underlying27 hy 8 8 _ rfl rfl (by kernel_rfl) Try.underlying3
  obtain ⟨ys, m2, _, hagg, _, hyl, hfl⟩ := DataW.trod_struct Try.underlying27 hy
  have hyl9 : ys.length = 9 := hyl
  have hwk : ∀ k t (hk : k < 9), (([3, 22, 23, 3, 24, 25, 3, 3, 3] : List TypeId))[k]? = some t → ∀ q ∈ (ys[k]'(by omega)).1.weights Try.prog t, q ≤ 140737488351232 := by
    intro k t hk ht q hq
    refine hw q ?_
    have hagg' := (Prod.mk.inj hagg).1
    rw [hagg']
    simp only [DataW.weights, Try.underlying27]
    exact DataW.weights_mem_each (j := k) (t := t) (d := (ys[k]'(by omega)).1) ht (by rw [List.getElem?_map, List.getElem?_eq_getElem (by omega)]; rfl) q hq
  obtain ⟨x0, x1, x2, x3, x4, x5, x6, x7, x8, rfl⟩ : ∃ x0 x1 x2 x3 x4 x5 x6 x7 x8, l = [x0, x1, x2, x3, x4, x5, x6, x7, x8] := by
    match l, hcl with
    | [x0, x1, x2, x3, x4, x5, x6, x7, x8], _ => exact ⟨_, _, _, _, _, _, _, _, _, rfl⟩
  have i0 : x0 = .int .i64 fr := Option.some.inj g0
  have i3 : x3 = .int .i64 mj := Option.some.inj g3
  have i6 : x6 = .int .i64 se := Option.some.inj g6
  have i7 : x7 = .int .i64 qu := Option.some.inj g7
  have i8 : x8 = .int .i64 qt := Option.some.inj g8
  subst i0 i3 i6 i7 i8
  have h1 := hfl 1 _ rfl
  rw [List.getElem?_eq_getElem (by omega)] at h1
  have t1 : DataW.trod enc Try.prog W 0 (fun _ => true) true m2 22 [x1] = some (ys[1]'(by omega)) := h1
  have w1 := hwk 1 22 (by omega) rfl
  have h2 := hfl 2 _ rfl
  rw [List.getElem?_eq_getElem (by omega)] at h2
  have t2 : DataW.trod enc Try.prog W 0 (fun _ => true) true m2 23 [x2] = some (ys[2]'(by omega)) := h2
  have w2 := hwk 2 23 (by omega) rfl
  have h4 := hfl 4 _ rfl
  rw [List.getElem?_eq_getElem (by omega)] at h4
  have t4 : DataW.trod enc Try.prog W 0 (fun _ => true) true m2 24 [x4] = some (ys[4]'(by omega)) := h4
  have w4 := hwk 4 24 (by omega) rfl
  have h5 := hfl 5 _ rfl
  rw [List.getElem?_eq_getElem (by omega)] at h5
  have t5 : DataW.trod enc Try.prog W 0 (fun _ => true) true m2 25 [x5] = some (ys[5]'(by omega)) := h5
  have w5 := hwk 5 25 (by omega) rfl
  obtain ⟨A1, l1, c1, e1, _⟩ := slice_form Try.underlying22 t1
  obtain ⟨A2, l2, c2, e2, _⟩ := slice_form Try.underlying23 t2
  obtain ⟨ps, hps, hpz⟩ := open_parts (v := x1) (d := (ys[1]'(by omega)).1) (p := (ys[1]'(by omega)).2) ⟨_, _, _, e1⟩ ⟨m2, by subst e1; exact t1⟩ w1
  obtain ⟨ds, hds, hdz⟩ := open_devs (v := x2) (d := (ys[2]'(by omega)).1) (p := (ys[2]'(by omega)).2) ⟨_, _, _, e2⟩ ⟨m2, by subst e2; exact t2⟩ w2
  obtain ⟨ws, hws, hwz, hwn⟩ := open_wins t4 w4
  obtain ⟨gs, hgs, hgz, hgn⟩ := open_grs t5 w5
  refine ⟨⟨fr, ps, ds, mj, ws, gs, se, qu, qt⟩, x1, x2, x4, x5, rfl, ⟨hps, hpz, hds, hdz, hws, hwz, hwn, hgs, hgz, hgn⟩⟩
end Go.Proofs.Ytkaalinoiilmoaa
namespace Go.Proofs.Ytkaalinoiilmoaa
open Go.RowKit
set_option linter.unusedVariables false
set_option linter.unusedSimpArgs false
set_option maxRecDepth 100000
theorem vflow_is {w : World} {c : Cf} {vp vd vw vg : Value} (hc : CfAt w vp vd vw vg c) (x y : Int) (b : Bool) (hb : flB c x y = b) :
    Calls Try.prog 11 #[.agg #[.int .i64 c.fr, vp, vd, .int .i64 c.mj, vw, vg, .int .i64 c.se, .int .i64 c.qu, .int .i64 c.qt], .int .i64 x, .int .i64 y] w fun e w' => e = .returned (.bool b) ∧ Below w.heap.size w w' := by
  subst hb; exact vflows_any hc x y
theorem flB_none {c : Cf} (h : c.ps.length = 0) (x y : Int) : flB c x y = false := by
  unfold flB
  have : inP c.ps.length y = false := by rw [h]; unfold inP; simp
  rw [this]; simp
theorem flB_bad {c : Cf} (h : cfMay c = false) (x y : Int) : flB c x y = false := by unfold flB; rw [h]; rfl
theorem flB_in {c : Cf} (h : cfMay c = true) {x y : Nat} (hx : x < c.ps.length) (hy : y < c.ps.length) : flB c x y = FL c x y := by
  unfold flB flI
  rw [h, inP_at hy, inP_at hx]
  simp
theorem flB_self {c : Cf} (h : cfMay c = true) {x : Nat} (hx : x < c.ps.length) : flB c x x = true := by
  rw [flB_in h hx hx, FL_iff]; exact .refl _ hx
theorem flB_out1 {c : Cf} (x : Int) : flB c x (c.ps.length : Nat) = false := by
  unfold flB
  have : inP c.ps.length ((c.ps.length : Nat) : Int) = false := by unfold inP; simp
  rw [this]; simp
theorem flB_out2 {c : Cf} (y : Int) : flB c (-1) y = false := by
  unfold flB flI
  have : inP c.ps.length (-1) = false := by unfold inP; simp
  rw [this]; simp
theorem flB_trans {c : Cf} (h : cfMay c = true) {x y z : Nat} (hx : x < c.ps.length) (hy : y < c.ps.length) (hz : z < c.ps.length) (h1 : flB c x y = true) (h2 : flB c y z = true) : flB c x z = true := by
  rw [flB_in h hx hy, FL_iff] at h1
  rw [flB_in h hy hz, FL_iff] at h2
  rw [flB_in h hx hz, FL_iff]
  exact h1.trans h2
set_option maxHeartbeats 4000000 in
theorem law_FlowOrder (c : Cf) (vp vd vw vg : Value) (a1 a2 a3 : Int) (w : World) (h : CfAt w vp vd vw vg c) :
    Calls Try.prog 3 #[.agg #[.int .i64 c.fr, vp, vd, .int .i64 c.mj, vw, vg, .int .i64 c.se, .int .i64 c.qu, .int .i64 c.qt], .int .i64 a1, .int .i64 a2, .int .i64 a3] w fun e w' => e = .returned (.bool true) ∧ Below w.heap.size w w' := by
  obtain ⟨hb, hB⟩ := cf_box w c vp vd vw vg
  obtain ⟨Ap, capp, rfl, -⟩ := h.ps
  have hpz := h.pz.1
  have HB := Lib.hid hB; have HV := Lib.hid hb; have HA := Lib.hid (h.below hB)
  clear h hb hB
  generalize hn : c.ps.length = n at *
  have HN := Lib.hid hn
  clear hn
  by_cases h0 : n = 0
  · subst h0
    have HF := Lib.hid (flB_none HN.out a1 a2)
    go_enter Try.func3, Try.ntmps3
    go_wp2_with fail
    generalize w.alloc (.cells #[.int .i64 c.fr, .slice Ap 0 capp, vd, .int .i64 c.mj, vw, vg, .int .i64 c.se, .int .i64 c.qu, .int .i64 c.qt] 27) = w1 at *
    refine (vawake_any _).mono ?_
    rintro e w2 ⟨rfl, b2⟩
    have HB2 := Lib.hid b2
    obtain ⟨q0, q1, q2, q3, q4, q5, q6, q7, q8⟩ := cf_at (HV.out.below b2 HV.out.lt)
    clear b2
    obtain ⟨q0, q1, q2, q3, q4, q5, q6, q7, q8⟩ := cf_at (HV.out.below HB2.out HV.out.lt)
    go_wp2_with fail
    refine (vflow_is (HA.out.below HB2.out) _ _ false HF.out).mono ?_
    rintro e wz ⟨rfl, bz⟩
    replace HB2 := Lib.hid (Below.down HB2.out bz HB2.out.size)
    clear bz q0 q1 q2 q3 q4 q5 q6 q7 q8
    go_wp2_with fail
    go_ret
    exact ⟨rfl, Below.down HB.out HB2.out HB.out.size⟩
  · have hn0 : ((n : Int) == 0) = false := beq_eq_false_iff_ne.2 (by omega)
    cases hm : cfMay c with
    | false =>
      have HF := Lib.hid (fun x y => flB_bad hm x y)
      clear hm h0
      go_enter Try.func3, Try.ntmps3
      go_wp2_with fail
      generalize w.alloc (.cells #[.int .i64 c.fr, .slice Ap n capp, vd, .int .i64 c.mj, vw, vg, .int .i64 c.se, .int .i64 c.qu, .int .i64 c.qt] 27) = w1 at *
      refine (vawake_any _).mono ?_
      rintro e w2 ⟨rfl, b2⟩
      have HB2 := Lib.hid b2
      obtain ⟨q0, q1, q2, q3, q4, q5, q6, q7, q8⟩ := cf_at (HV.out.below b2 HV.out.lt)
      clear b2
      obtain ⟨q0, q1, q2, q3, q4, q5, q6, q7, q8⟩ := cf_at (HV.out.below HB2.out HV.out.lt)
      go_wp2_with fail
      refine (vflow_is (HA.out.below HB2.out) 0 0 false (HF.out _ _)).mono ?_
      rintro e wz ⟨rfl, bz⟩
      replace HB2 := Lib.hid (Below.down HB2.out bz HB2.out.size)
      clear bz q0 q1 q2 q3 q4 q5 q6 q7 q8
      obtain ⟨q0, q1, q2, q3, q4, q5, q6, q7, q8⟩ := cf_at (HV.out.below HB2.out HV.out.lt)
      go_wp2_with fail
      refine (vflow_is (HA.out.below HB2.out) _ _ false (HF.out _ _)).mono ?_
      rintro e wz ⟨rfl, bz⟩
      replace HB2 := Lib.hid (Below.down HB2.out bz HB2.out.size)
      clear bz q0 q1 q2 q3 q4 q5 q6 q7 q8
      go_wp2_with fail
      go_ret
      exact ⟨rfl, Below.down HB.out HB2.out HB.out.size⟩
    | true =>
      have hn4 := (cfMay_n hm).2.1
      rw [HN.out] at hn4
      have HM := Lib.hid hm
      clear hm
      have hU1 := u64b a1
      have hU2 := u64b a2
      have hU3 := u64b a3
      generalize hU1' : IntKind.u64.wrap a1 = U1 at hU1
      generalize hU2' : IntKind.u64.wrap a2 = U2 at hU2
      generalize hU3' : IntKind.u64.wrap a3 = U3 at hU3
      have hnw : IntKind.u64.wrap (n : Int) = n := by rw [IntKind.wrap_u64]; omega
      have hx : ∃ x : Nat, U1 % (n : Int) = x ∧ x < n := ⟨(U1 % (n : Int)).toNat, by have := Int.emod_nonneg U1 (show (n : Int) ≠ 0 by omega); omega, by have := Int.emod_nonneg U1 (show (n : Int) ≠ 0 by omega); have := Int.emod_lt_of_pos U1 (show (0 : Int) < n by omega); omega⟩
      have hy : ∃ x : Nat, U2 % (n : Int) = x ∧ x < n := ⟨(U2 % (n : Int)).toNat, by have := Int.emod_nonneg U2 (show (n : Int) ≠ 0 by omega); omega, by have := Int.emod_nonneg U2 (show (n : Int) ≠ 0 by omega); have := Int.emod_lt_of_pos U2 (show (0 : Int) < n by omega); omega⟩
      have hz : ∃ x : Nat, U3 % (n : Int) = x ∧ x < n := ⟨(U3 % (n : Int)).toNat, by have := Int.emod_nonneg U3 (show (n : Int) ≠ 0 by omega); omega, by have := Int.emod_nonneg U3 (show (n : Int) ≠ 0 by omega); have := Int.emod_lt_of_pos U3 (show (0 : Int) < n by omega); omega⟩
      obtain ⟨x, ex, hx⟩ := hx
      obtain ⟨y, ey, hy⟩ := hy
      obtain ⟨z, ez, hz⟩ := hz
      have HX := Lib.hid hx; have HY := Lib.hid hy; have HZ := Lib.hid hz
      go_enter Try.func3, Try.ntmps3
      go_wp2_with fail
      generalize w.alloc (.cells #[.int .i64 c.fr, .slice Ap n capp, vd, .int .i64 c.mj, vw, vg, .int .i64 c.se, .int .i64 c.qu, .int .i64 c.qt] 27) = w1 at *
      refine (vawake_any _).mono ?_
      rintro e w2 ⟨rfl, b2⟩
      have HB2 := Lib.hid b2
      obtain ⟨q0, q1, q2, q3, q4, q5, q6, q7, q8⟩ := cf_at (HV.out.below b2 HV.out.lt)
      clear b2
      obtain ⟨q0, q1, q2, q3, q4, q5, q6, q7, q8⟩ := cf_at (HV.out.below HB2.out HV.out.lt)
      go_wp2_with fail
      refine (vflow_is (HA.out.below HB2.out) 0 0 true (by have := flB_self HM.out (x := 0) (by rw [HN.out]; omega); exact this)).mono ?_
      rintro e wz ⟨rfl, bz⟩
      replace HB2 := Lib.hid (Below.down HB2.out bz HB2.out.size)
      clear bz q0 q1 q2 q3 q4 q5 q6 q7 q8
      go_wp2_with fail
      go_quiet (fail)
      replace HB2 := Lib.hid (bdrewN HB2.out nq)
      generalize wz.drewN nq = wz at *
      clear hU1 hU2 hU3 hU1' hU2' hU3' hnw ex ey ez
      obtain ⟨q0, q1, q2, q3, q4, q5, q6, q7, q8⟩ := cf_at (HV.out.below HB2.out HV.out.lt)
      go_wp2_with fail
      refine (vflow_is (HA.out.below HB2.out) _ _ true (flB_self HM.out (by rw [HN.out]; exact HX.out))).mono ?_
      rintro e wz ⟨rfl, bz⟩
      replace HB2 := Lib.hid (Below.down HB2.out bz HB2.out.size)
      clear bz q0 q1 q2 q3 q4 q5 q6 q7 q8
      obtain ⟨q0, q1, q2, q3, q4, q5, q6, q7, q8⟩ := cf_at (HV.out.below HB2.out HV.out.lt)
      go_wp2_with fail
      refine (vflow_is (HA.out.below HB2.out) _ _ false (by have := flB_out1 (c := c) x; rwa [HN.out] at this)).mono ?_
      rintro e wz ⟨rfl, bz⟩
      replace HB2 := Lib.hid (Below.down HB2.out bz HB2.out.size)
      clear bz q0 q1 q2 q3 q4 q5 q6 q7 q8
      obtain ⟨q0, q1, q2, q3, q4, q5, q6, q7, q8⟩ := cf_at (HV.out.below HB2.out HV.out.lt)
      go_wp2_with fail
      refine (vflow_is (HA.out.below HB2.out) _ _ false (flB_out2 _)).mono ?_
      rintro e wz ⟨rfl, bz⟩
      replace HB2 := Lib.hid (Below.down HB2.out bz HB2.out.size)
      clear bz q0 q1 q2 q3 q4 q5 q6 q7 q8
      cases hxy : flB c x y with
      | false =>
        have HXY := Lib.hid hxy
        clear hxy
        obtain ⟨q0, q1, q2, q3, q4, q5, q6, q7, q8⟩ := cf_at (HV.out.below HB2.out HV.out.lt)
        go_wp2_with fail
        refine (vflow_is (HA.out.below HB2.out) _ _ false HXY.out).mono ?_
        rintro e wz ⟨rfl, bz⟩
        replace HB2 := Lib.hid (Below.down HB2.out bz HB2.out.size)
        clear bz q0 q1 q2 q3 q4 q5 q6 q7 q8
        go_wp2_with fail
        go_ret
        exact ⟨rfl, Below.down HB.out HB2.out HB.out.size⟩
      | true =>
        cases hyz : flB c y z with
        | false =>
          have HXY := Lib.hid hxy; have HYZ := Lib.hid hyz
          clear hxy hyz
          obtain ⟨q0, q1, q2, q3, q4, q5, q6, q7, q8⟩ := cf_at (HV.out.below HB2.out HV.out.lt)
          go_wp2_with fail
          refine (vflow_is (HA.out.below HB2.out) _ _ true HXY.out).mono ?_
          rintro e wz ⟨rfl, bz⟩
          replace HB2 := Lib.hid (Below.down HB2.out bz HB2.out.size)
          clear bz q0 q1 q2 q3 q4 q5 q6 q7 q8
          obtain ⟨q0, q1, q2, q3, q4, q5, q6, q7, q8⟩ := cf_at (HV.out.below HB2.out HV.out.lt)
          go_wp2_with fail
          refine (vflow_is (HA.out.below HB2.out) _ _ false HYZ.out).mono ?_
          rintro e wz ⟨rfl, bz⟩
          replace HB2 := Lib.hid (Below.down HB2.out bz HB2.out.size)
          clear bz q0 q1 q2 q3 q4 q5 q6 q7 q8
          go_wp2_with fail
          go_ret
          exact ⟨rfl, Below.down HB.out HB2.out HB.out.size⟩
        | true =>
          have HXY := Lib.hid hxy; have HYZ := Lib.hid hyz
          clear hxy hyz
          obtain ⟨q0, q1, q2, q3, q4, q5, q6, q7, q8⟩ := cf_at (HV.out.below HB2.out HV.out.lt)
          go_wp2_with fail
          refine (vflow_is (HA.out.below HB2.out) _ _ true HXY.out).mono ?_
          rintro e wz ⟨rfl, bz⟩
          replace HB2 := Lib.hid (Below.down HB2.out bz HB2.out.size)
          clear bz q0 q1 q2 q3 q4 q5 q6 q7 q8
          obtain ⟨q0, q1, q2, q3, q4, q5, q6, q7, q8⟩ := cf_at (HV.out.below HB2.out HV.out.lt)
          go_wp2_with fail
          refine (vflow_is (HA.out.below HB2.out) _ _ true HYZ.out).mono ?_
          rintro e wz ⟨rfl, bz⟩
          replace HB2 := Lib.hid (Below.down HB2.out bz HB2.out.size)
          clear bz q0 q1 q2 q3 q4 q5 q6 q7 q8
          obtain ⟨q0, q1, q2, q3, q4, q5, q6, q7, q8⟩ := cf_at (HV.out.below HB2.out HV.out.lt)
          go_wp2_with fail
          refine (vflow_is (HA.out.below HB2.out) _ _ true (flB_trans HM.out (by rw [HN.out]; exact HX.out) (by rw [HN.out]; exact HY.out) (by rw [HN.out]; exact HZ.out) HXY.out HYZ.out)).mono ?_
          rintro e wz ⟨rfl, bz⟩
          replace HB2 := Lib.hid (Below.down HB2.out bz HB2.out.size)
          clear bz q0 q1 q2 q3 q4 q5 q6 q7 q8
          go_wp2_with fail
          go_ret
          exact ⟨rfl, Below.down HB.out HB2.out HB.out.size⟩
end Go.Proofs.Ytkaalinoiilmoaa
