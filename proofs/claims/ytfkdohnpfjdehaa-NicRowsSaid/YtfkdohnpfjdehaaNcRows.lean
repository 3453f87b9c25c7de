/-
  Layer 20's law NicRows: it answers true for every input.
-/
import Derived.Test.YtfkdohnpfjdehaaNcRw0
import Derived.Test.YtfkdohnpfjdehaaDec
import Derived.Test.YtfkdohnpfjdehaaSli
import Derived.Deep.CutBlock
import Derived.Deep.DeepCutAuto
import Derived.Deep.AppendLies
import Derived.Deep.RegionWith
namespace Go.Proofs.Ytfkdohnpfjdehaa
open Go.RowKit
set_option linter.unusedVariables false
set_option linter.unusedSimpArgs false
set_option maxRecDepth 100000

section
variable {S : Nat → Prop} {W0 w : World} {gq gd : Nat} {V : Nat → Value} {Q : Nat → List Ms} {D : Nat → Int} {t : Nat} {a : Ob}
theorem osS_cells (h : Tk S W0 (a :: obB gq 55 (fam V 3) :: obB gd 56 (itc D 3) :: rows3 V Q) w) (ht : t < 3) : w.cell? ⟨gq, t, none⟩ = some (V t) ∧ w.cell? ⟨gd, t, none⟩ = some (.int .i64 (D t)) ∧ w.frozen? ⟨gq, t, none⟩ = false ∧ w.frozen? ⟨gd, t, none⟩ = false ∧ ∃ A c, V t = .slice A (Q t).length c ∧ (Q t).length ≤ c := by
  have b1 := h.blk (i := 1) rfl
  have b2 := h.blk (i := 2) rfl
  obtain ⟨A, c, e, hc, _⟩ := h.sl (i := t + 3) (show (rows3 V Q)[t]? = _ from rows3_at V Q ht)
  exact ⟨by rw [b1.cell, fam_get _ _ _ ht], by rw [b2.cell, itc_get _ _ _ ht], b1.frozen _, b2.frozen _, A, c, e, hc⟩
theorem osS_row (h : Tk S W0 (a :: obB gq 55 (fam V 3) :: obB gd 56 (itc D 3) :: rows3 V Q) w) (ht : t < 3) : w.ownsRow 0 41 2 (V t) (Q t).length (mss (Q t)) := h.row (i := t + 3) (show (rows3 V Q)[t]? = _ from rows3_at V Q ht)
/-- Another row in the place of one of the law's. -/
theorem osS_put {v : Value} {x : List Ms} (h : Tk S W0 (obR 41 2 v x.length (mss x) :: a :: obB gq 55 (fam V 3) :: obB gd 56 (itc D 3) :: rows3 V Q) w) (ht : t < 3) :
    Tk S W0 (a :: obB gq 55 (fam (upF V t v) 3) :: obB gd 56 (itc D 3) :: rows3 (upF V t v) (upF Q t x)) (w.setCell ⟨gq, t, none⟩ v) := by
  have h1 := (h.drop (t + 4)).perm (set_perm (obR 41 2 v x.length (mss x)) (a :: obB gq 55 (fam V 3) :: obB gd 56 (itc D 3) :: rows3 V Q) (t + 3) (by show t + 3 < 6; omega))
  have e : (a :: obB gq 55 (fam V 3) :: obB gd 56 (itc D 3) :: rows3 V Q).set (t + 3) (obR 41 2 v x.length (mss x)) = a :: obB gq 55 (fam V 3) :: obB gd 56 (itc D 3) :: rows3 (upF V t v) (upF Q t x) := by
    rw [← rows3_set V Q v x ht]; rfl
  rw [e] at h1
  have h2 := h1.store (i := 1) rfl t v
  rw [fam_set] at h2
  exact h2
/-- .. grown where it is, or copied. -/
theorem osS_grow {w1 : World} {v : Value} {x : List Ms} (h : Tk S W0 (a :: obB gq 55 (fam V 3) :: obB gd 56 (itc D 3) :: rows3 V Q) w) (ht : t < 3) (hg : w.grownBy w1 (V t).ownBlock) (own : w1.ownsRow 0 41 2 v x.length (mss x)) (hv : ∀ b, v.ownBlock = some b → (V t).ownBlock = some b ∨ w.heap.size ≤ b) :
    Tk S W0 (a :: obB gq 55 (fam (upF V t v) 3) :: obB gd 56 (itc D 3) :: rows3 (upF V t v) (upF Q t x)) (w1.setCell ⟨gq, t, none⟩ v) := by
  have h1 := h.turnR (i := t + 3) (show (rows3 V Q)[t]? = _ from rows3_at V Q ht) hg own hv
  have e : (a :: obB gq 55 (fam V 3) :: obB gd 56 (itc D 3) :: rows3 V Q).set (t + 3) (obR 41 2 v x.length (mss x)) = a :: obB gq 55 (fam V 3) :: obB gd 56 (itc D 3) :: rows3 (upF V t v) (upF Q t x) := by
    rw [← rows3_set V Q v x ht]; rfl
  rw [e] at h1
  have h2 := h1.store (i := 1) rfl t v
  rw [fam_set] at h2
  exact h2
theorem osS_drop (h : Tk S W0 (a :: obB gq 55 (fam V 3) :: obB gd 56 (itc D 3) :: rows3 V Q) w) (x : Int) (t : Nat) :
    Tk S W0 (a :: obB gq 55 (fam V 3) :: obB gd 56 (itc (iF D t x) 3) :: rows3 V Q) (w.setCell ⟨gd, t, none⟩ (.int .i64 x)) := by
  have h2 := h.store (i := 2) rfl t (.int .i64 x)
  rw [itc_set] at h2
  exact h2
end

section
variable {W0 w : World} {g gq gd p nx c6 : Nat} {A6 : Option Addr} {V : Nat → Value} {q : Qs} {x : List Ms} {v : Value} {dp : Int}
/-- What is known behind the Queue of the law's last loop. -/
theorem rows_q (t : Tk nos W0 (obR 41 2 v x.length (mss x) :: osR g gq gd V q) w) (hp : p < 3) (hx : q.1 p = x) (hn : x.length = nx) (hd : q.2 p = dp) (hV : V p = .slice A6 nx c6) :
    Hid (Tk nos W0 (obR 41 2 v x.length (mss x) :: osR g gq gd V q) w) ∧ w.cell? ⟨gq, p, none⟩ = some (.slice A6 nx c6) ∧ w.cell? ⟨gd, p, none⟩ = some (.int .i64 dp) := by
  obtain ⟨c1, d1, _⟩ := osS_cells t.tail hp
  exact ⟨Lib.hid t, by rw [c1, hV], by rw [d1, hd]⟩
theorem rows_same (t : Hid (Tk nos W0 (obR 41 2 v x.length (mss x) :: osR g gq gd V q) w)) (hp : p < 3) (hx : q.1 p = x) (hn : x.length = nx) (hV : V p = .slice A6 nx c6) (h8 : nx ≤ 8) :
    Calls Try.prog 20 #[v, .slice A6 nx c6] w fun e w' => e = .returned (.bool true) ∧ ∃ k, w' = w.drewN k := by
  have h1 := t.out.sl (i := 0) rfl
  have h2 := Sl.own (osS_row t.out.tail hp)
  rw [hV, hx, hn] at h2
  rw [hn] at h1
  exact same_msgs _ _ nx x w h1 h2 hn (by unfold maxLen; omega)
theorem rows_drop (t : Hid (Tk nos W0 (obR 41 2 v x.length (mss x) :: osR g gq gd V q) w)) (n8 : Nat) (hp : p < 3) (hd : ndX lsR q.2 p = dp) :
    Calls Try.prog 22 #[.pointer (some ⟨g, 0, none⟩), .int .i64 p] (w.drewN n8) fun e w' => e = .returned (.int .i64 dp) ∧ w.drewN n8 = w' :=
  t2_drop (p : Int) _ (t.out.drewN n8) (i := 1) rfl dp hd
end

set_option maxHeartbeats 8000000 in
theorem law_NicRows (v : Value) (n : Nat) (zs : List Int) (w : World) (hs : Sl w v n 1 (ints zs)) (hn : n ≤ maxLen) :
    Calls Try.prog 4 #[v] w fun e w' => e = .returned (.bool true) ∧ Below w.heap.size w w' := by
  obtain ⟨A0, cap0, rfl, _, _, _⟩ := id hs
  have HS := Lib.hid hs
  unfold maxLen at hn
  obtain ⟨i0, hi, hz0, hz1, hz2⟩ := info_parts infoMs
  have HI := Lib.hid hi; have HZ0 := Lib.hid hz0; have HZ1 := Lib.hid hz1; have HZ2 := Lib.hid hz2
  clear hs hi hz0 hz1 hz2
  go_enter Try.func4, Try.ntmps4
  go_wp2_with fail
  refine (nawake_any _).mono ?_
  rintro e w1 ⟨rfl, b1⟩
  have HLB := Lib.hid (lbs_lit w1 lsR 54)
  have HT := Lib.hid (((Tk.empty w).next b1).next ((Below.refl _ w1).alloc (Nat.le_refl _) (.cells (ints (lbs lsR)).toArray 54)))
  clear b1
  go_wp2_with fail
  refine (t2_new _ 3 lsR _ HT.out HLB.out rfl (by decide) (by kernel_rfl)).mono ?_
  rintro e w2 ⟨g, rfl, t⟩
  have HT := Lib.hid t
  clear t HLB
  go_wp2_with fail
  refine (num_any _ _).mono ?_; rintro e w' ⟨rfl, rfl⟩
  have T1 := HT.out.alloc 55 [.slice none 0 0, .slice none 0 0, .slice none 0 0]
  have T2 := T1.alloc 56 [.int .i64 0, .int .i64 0, .int .i64 0]
  rw [World.size_alloc] at T2
  have HQ : Hid (StR w g w2.heap.size (w2.heap.size + 1) 0 ((w2.alloc (.cells #[.slice none 0 0, .slice none 0 0, .slice none 0 0] 55)).alloc (.cells #[.int .i64 0, .int .i64 0, .int .i64 0] 56))) := Lib.hid (by
    refine ⟨q0, noV, fun p => by show noI p ≤ 0; unfold noI; omega, ?_⟩
    have t3 := ((T2.addR (Below.refl _ _) (World.ownsRow_nil _ _ 41 2)).addR (Below.refl _ _) (World.ownsRow_nil _ _ 41 2)).addR (Below.refl _ _) (World.ownsRow_nil _ _ 41 2)
    refine t3.perm ?_
    show ([rO noV noQ 0, rO noV noQ 1, rO noV noQ 2, obB (w2.heap.size + 1) 56 (itc noI 3), obB w2.heap.size 55 (fam noV 3), ob2 g lsR q0] : List Ob).Perm [ob2 g lsR q0, obB w2.heap.size 55 (fam noV 3), obB (w2.heap.size + 1) 56 (itc noI 3), rO noV noQ 0, rO noV noQ 1, rO noV noQ 2]
    generalize rO noV noQ 0 = a; generalize rO noV noQ 1 = b; generalize rO noV noQ 2 = c
    generalize obB (w2.heap.size + 1) 56 (itc noI 3) = d; generalize obB w2.heap.size 55 (fam noV 3) = e; generalize ob2 g lsR q0 = f
    exact (List.reverse_perm [a, b, c, d, e, f]).symm.trans ((List.Perm.append_left [f, e, d] (List.reverse_perm [a, b, c]))))
  clear T1 T2 HT
  go_wp2_with fail
  go_loopw [7] (fun i wr => ∃ k : Nat, k ≤ n ∧ k ≤ 60 ∧ i = .int .i64 k ∧ Hid (StR w g w2.heap.size (w2.heap.size + 1) k wr)) (fun i _ => 60 - (intOf i).toNat)
  case atStart => exact ⟨0, by omega, by omega, rfl, HQ⟩
  case round =>
    clear HQ
    obtain ⟨k, hkn, hk60, rfl, HQ⟩ := hrel
    generalize w2.heap.size = gq at *
    generalize gq + 1 = gd at *
    by_cases hgo : k < n ∧ k < 60
    · obtain ⟨hlt, h60⟩ := hgo
      obtain ⟨q, V, hqk, tk⟩ := HQ.out
      obtain ⟨bz, oz, cz, e0, hbz, cz0⟩ := sli_at (HS.out.below tk.below) k hlt
      simp only [Value.slice.injEq] at e0
      obtain ⟨rfl, -, rfl⟩ := e0
      obtain ⟨z, hz⟩ : ∃ z, zs.getD k 0 = z := ⟨_, rfl⟩
      rw [hz] at cz0
      have m1 := band z 1023 (by omega) (by omega)
      have m2 := band (z / 4) 1023 (by omega) (by omega)
      obtain ⟨a1, ha1⟩ : ∃ a, bits BinOp.and IntKind.i64 z 1023 = a := ⟨_, rfl⟩
      obtain ⟨a2, ha2⟩ : ∃ a, bits BinOp.and IntKind.i64 (z / 4) 1023 = a := ⟨_, rfl⟩
      obtain ⟨a3, ha3⟩ : ∃ a, bits BinOp.and IntKind.i64 (z / 16) 3 = a := ⟨_, rfl⟩
      rw [ha1] at m1
      rw [ha2] at m2
      obtain ⟨m10, m11⟩ := m1
      obtain ⟨m20, m21⟩ := m2
      obtain ⟨f, hf⟩ := Int.eq_ofNat_of_zero_le (show (0 : Int) ≤ a1 % 3 by omega)
      obtain ⟨t, ht⟩ := Int.eq_ofNat_of_zero_le (show (0 : Int) ≤ a2 % 3 by omega)
      have hf3 : f < 3 := by omega
      have ht3 : t < 3 := by omega
      have hfm : a1.tmod 3 = f := by rw [Int.tmod_eq_emod_of_nonneg m10, hf]
      have htm : a2.tmod 3 = t := by rw [Int.tmod_eq_emod_of_nonneg m20, ht]
      have ht3I : (t : Int) < 3 := by omega
      have HKK := Lib.hid hqk
      have HT := Lib.hid tk
      have hltI : (k : Int) < n := by omega
      have h60d : decide ((k : Int) < 60) = true := by simp; omega
      clear hz tk hqk HQ
      go_wp2_with fail
      go_quiet (fail)
      have HT := Lib.hid (HT.out.drewN nq)
      replace cz0 : (wr.drewN nq).cell? ⟨bz, oz + k, none⟩ = some (.int .i64 z) := cz0
      generalize wr.drewN nq = w3 at *
      by_cases hr3 : a3 = 3
      · -- a Receive
        obtain ⟨hC, hM⟩ := rcR_C (q := q) ht3
        have hrc := rcR (q := q) ht3
        cases hqt : q.1 t with
        | nil =>
          rw [hqt] at hC hM hrc
          have hrc2 : rc lsR q t = q := by rw [hrc, List.tail_nil, ← hqt, upF_self]
          have HC := Lib.hid (show nrC lsR q.1 t = 2002 from hC); have HM := Lib.hid (show nrM lsR q.1 t = ⟨0, []⟩ from hM); have HRC := Lib.hid hrc2
          clear hC hM hrc hrc2
          go_wp2_with fail
          refine (t2_recv (t : Int) _ HT.out (i := 0) rfl ⟨0, []⟩ 2002 HM.out HC.out (os' := osR g gq gd V q) (by rw [HRC.out]; rfl)).mono ?_
          rintro e w4 ⟨rfl, t4⟩
          rw [show str [] = ⟨#[]⟩ from rfl]
          have HT := Lib.hid (t4.alloc 41 [.int .i64 0, .string ⟨#[]⟩])
          clear t4
          obtain ⟨c1, _, _, _, A, c, hV, hcap⟩ := osS_cells HT.out.tail ht3
          rw [hV, hqt] at c1
          have x0 := (HT.out.blk (i := 0) rfl).cell 0
          have x1 := (HT.out.blk (i := 0) rfl).cell 1
          simp only [List.getElem?_cons_zero, List.getElem?_cons_succ] at x0 x1
          have HF : Hid (StR w g gq gd (k + 1) (w4.alloc (.cells #[.int .i64 0, .string ⟨#[]⟩] 41))) := Lib.hid ⟨q, V, fun p => by have := HKK.out p; omega, HT.out.tail⟩
          clear hqt
          go_wp2_with fail
          refine (num_any _ _).mono ?_; rintro e w' ⟨rfl, rfl⟩
          go_wp2_with fail
          go_roundw
          case rel => exact ⟨k + 1, by omega, by omega, by go_num, HF⟩
          case measure => simp [intOf]; omega
        | cons m r =>
          rw [hqt] at hC hM hrc
          have HC := Lib.hid (show nrC lsR q.1 t = 0 from hC); have HM := Lib.hid (show nrM lsR q.1 t = m from hM); have HRC := Lib.hid (show rc lsR q t = (upF q.1 t r, q.2) from hrc)
          clear hC hM hrc
          obtain ⟨mf, ml⟩ := m
          obtain ⟨ms, hms⟩ : ∃ ms, str ml = ms := ⟨_, rfl⟩
          have HMS := Lib.hid hms
          clear hms
          have h8 : r.length + 1 ≤ 8 := by have := ((HT.out.ps (i := 0) rfl).1.q8 t).1; rw [hqt] at this; exact this
          have HQT := Lib.hid hqt
          go_wp2_with fail
          refine (t2_recv (t : Int) _ HT.out (i := 0) rfl ⟨mf, ml⟩ 0 HM.out HC.out rfl).mono ?_
          rintro e w4 ⟨rfl, t4⟩
          simp only
          rw [HMS.out]
          have HT := Lib.hid ((show Tk nos w (ob2 g lsR (rc lsR q t) :: obB gq 55 (fam V 3) :: obB gd 56 (itc q.2 3) :: rows3 V q.1) w4 from t4).alloc 41 [.int .i64 mf, .string ms])
          clear t4
          obtain ⟨c1, _, f1, _, A, c, hV, hcap⟩ := osS_cells HT.out.tail ht3
          have how := osS_row HT.out.tail ht3
          rw [hqt] at hV hcap how
          simp only [List.length_cons] at hV hcap how
          obtain ⟨bq, cq, hV2⟩ : ∃ bq cq, V t = .slice (some ⟨bq, 0, none⟩) (r.length + 1) cq := by
            rcases how.2 with ⟨_, h0⟩ | ⟨bq, cq, cur, hv, _⟩
            · omega
            · exact ⟨bq, cq, hv⟩
          rw [hV2] at hV
          simp only [Value.slice.injEq] at hV
          obtain ⟨rfl, -, rfl⟩ := hV
          rw [hV2] at how c1
          have y0 := how.cellAt 0 (show 0 < (r.length + 1) * 2 by omega)
          have y1 := how.cellAt 1 (show 1 < (r.length + 1) * 2 by omega)
          rw [show (mss ((⟨mf, ml⟩ : Ms) :: r))[0]? = some (.int .i64 mf) from rfl] at y0
          rw [show (mss ((⟨mf, ml⟩ : Ms) :: r))[1]? = some (.string (str ml)) from rfl, HMS.out] at y1
          have x0 := (HT.out.blk (i := 0) rfl).cell 0
          have x1 := (HT.out.blk (i := 0) rfl).cell 1
          simp only [List.getElem?_cons_zero, List.getElem?_cons_succ] at x0 x1
          obtain ⟨o, ho, hsl0⟩ := msl_from bq (r.length + 1) cq (by omega) hcap h8
          have hsl : ∀ w, (Instr.slice 46 (.slice (some ⟨bq, 0, none⟩) (r.length + 1) cq) (some (.int .i64 1)) none none).run Try.prog w = .ok (.slice (some ⟨bq, o, none⟩) r.length (cq - 1)) w := by
            intro w; have := hsl0 w; simpa using this
          have HSUB : Hid (Sl (w4.alloc (.cells #[.int .i64 mf, .string ms] 41)) (.slice (some ⟨bq, o, none⟩) r.length (cq - 1)) r.length 2 (mss r)) := Lib.hid (sl_sub (m := ⟨mf, ml⟩) (Sl.own how) rfl (by omega))
          have hr0 : (((r.length + 1 : Nat) : Int) == 0) = false := by simp; omega
          have e1 : (mf == mf) = true := by simp
          have e2 : (ms.toList == ms.toList) = true := by simp
          have HV2 := Lib.hid hV2
          clear hV2 hsl0 how hqt ho
          go_wp2_with fail
          generalize w4.alloc (.cells #[.int .i64 mf, .string ms] 41) = w5 at *
          generalize w4.heap.size = hm at *
          go_quiet ((go_at_call 11; first | exact quiet_ (fun W => num_any _ W) | exact quiet_a (fun W => num_any _ W)))
          have HT := Lib.hid (HT.out.drewN nq)
          have HSUB := Lib.hid (HSUB.out.drewN nq)
          replace c1 : (w5.drewN nq).cell? ⟨gq, t, none⟩ = some (.slice (some ⟨bq, 0, none⟩) (r.length + 1) cq) := c1
          replace f1 : (w5.drewN nq).frozen? ⟨gq, t, none⟩ = false := f1
          clear x0 x1 y0 y1
          generalize w5.drewN nq = w6 at *
          have HT := Lib.hid HT.out.tail
          have HM6 : Hid ((w6.alloc (.cells #[] 41)).ownsRow w6.heap.size 41 2 (.slice (some ⟨w6.heap.size, 0, none⟩) 0 0) 0 []) := Lib.hid (World.ownsRow_made w6 #[] 0 (Nat.le_refl _) (Nat.zero_le _) rfl)
          have HS6 := Lib.hid (HSUB.out.below ((Below.refl _ w6).alloc (Nat.le_refl _) (.cells #[] 41)))
          have hgq : gq < w6.heap.size := (HT.out.blk (i := 1) rfl).lt
          have c1a : (w6.alloc (.cells #[] 41)).cell? ⟨gq, t, none⟩ = some (.slice (some ⟨bq, 0, none⟩) (r.length + 1) cq) := by
            rw [World.cell?_alloc_lt _ _ _ hgq]; exact c1
          have H1 := Lib.hid (mss_oneCell r)
          obtain ⟨rl, hrl⟩ : ∃ rl, r.length = rl := ⟨_, rfl⟩
          have HRL := Lib.hid hrl
          rw [hrl] at hsl c1 c1a HS6 h8 hr0 hcap
          clear hrl HSUB
          go_wp2_with (at_builtin; refine wpList_append_sl rfl _ _ 46 rfl w6.heap.size 41 i0 _ 2 24 Try.underlying46 HI.out HZ0.out HZ1.out HZ2.out rfl (by decide) _ 0 [] rfl HM6.out _ rl (mss r) rfl HS6.out (by rintro m' c' e'; cases e') H1.out (by unfold maxLen; omega) (by omega) (by simp) ?_)
          intro v' w7 own7 gr7
          have b7 : Below w6.heap.size w6 w7 := ((Below.refl _ w6).alloc (Nat.le_refl _) _).grown gr7 (by simp) (fun x hx => by
            have e : w6.heap.size = x := by simpa [Value.ownBlock] using hx
            omega)
          obtain ⟨A7, c7, hv7, _⟩ := Sl.own own7
          subst hv7
          have T7 := HT.out.addR b7 (by rw [← HRL.out] at own7; exact own7)
          rw [HRL.out] at T7
          have c17 : w7.cell? ⟨gq, t, none⟩ = some (.slice (some ⟨bq, 0, none⟩) (rl + 1) cq) := (b7.cell (p := ⟨gq, t, none⟩) hgq).trans c1
          have f17 : w7.frozen? ⟨gq, t, none⟩ = false := (T7.blk (i := 2) rfl).frozen _
          have T8 := osS_put (x := r) (v := .slice A7 rl c7) (by rw [HRL.out]; exact T7) ht3
          have HF : Hid (StR w g gq gd (k + 1) (w7.setCell ⟨gq, t, none⟩ (.slice A7 rl c7))) := Lib.hid ⟨rc lsR q t, upF V t (.slice A7 rl c7), fun p => by rw [HRC.out]; have := HKK.out p; show q.2 p ≤ _; omega, by
            unfold osR
            have e1 : (rc lsR q t).1 = upF q.1 t r := by rw [HRC.out]
            have e2 : (rc lsR q t).2 = q.2 := by rw [HRC.out]
            rw [e1, e2]
            exact T8⟩
          clear own7 gr7 b7 T7 T8 c1 c1a f1
          go_wp2_with fail
          go_roundw
          case rel => exact ⟨k + 1, by omega, by omega, by go_num, HF⟩
          case measure => simp [intOf]; omega
      · -- a Send
        have hr3f : (a3 == 3) = false := by simpa using hr3
        go_wp2_with fail
        refine (dec_any k _ (by omega)).mono ?_
        rintro e w4 ⟨l, rfl, hl1, hl2, b4⟩
        have HT := Lib.hid (HT.out.next b4)
        clear b4
        obtain ⟨sl, hsl⟩ : ∃ sl, str l = sl := ⟨_, rfl⟩
        have hsz : sl.size = l.length := by rw [← hsl, str_size]
        have hsum : (⟨#[109]⟩ : ByteArray).size + sl.size ≤ 9223372036854775807 := by rw [hsz]; show 1 + l.length ≤ _; omega
        obtain ⟨X, hX⟩ : ∃ X : ByteArray, (⟨#[109]⟩ : ByteArray) ++ sl = X := ⟨_, rfl⟩
        have hXs : X = str (109 :: l) := by rw [← hX, ← hsl, show (⟨#[109]⟩ : ByteArray) = str [109] from rfl, str_append]; rfl
        have HXL : Hid (X.data.toList = 109 :: l) := Lib.hid (by rw [hXs, str_list])
        have HXS : Hid (X.size = l.length + 1) := Lib.hid (by rw [hXs, str_size]; rfl)
        have HXX := Lib.hid hXs
        have HLL : Hid (1 ≤ (109 :: l).length ∧ (109 :: l).length ≤ 32) := Lib.hid (by simp; omega)
        rw [hsl]
        clear hsl hsz hXs hl1 hl2
        go_wp2_with fail
        obtain ⟨C, hC⟩ : ∃ C, (if t = 0 ∧ f ≠ 0 then (2001 : Int) else 0) = C := ⟨_, rfl⟩
        have HC : Hid (nsC lsR f t X.size = C) := Lib.hid (by rw [HXS.out, lsR_C hf3 ht3 (by have := HLL.out; simp at this; omega)]; exact hC)
        have HCC := Lib.hid hC
        have HQ8 := Lib.hid ((HT.out.ps (i := 0) rfl).1.q8 t).1
        have HD8 := Lib.hid ((HT.out.ps (i := 0) rfl).1.d0 t).1
        clear hC hX hsum
        refine (t2_send (f : Int) (t : Int) X _ HT.out (i := 0) rfl (by rw [HXS.out]; have := HLL.out; simp at this; unfold maxLen; omega) C HC.out rfl).mono ?_
        rintro e w5 ⟨rfl, t5⟩
        rw [HXL.out] at t5
        have HT := Lib.hid (show Tk nos w (ob2 g lsR (sd lsR q f t (109 :: l)) :: obB gq 55 (fam V 3) :: obB gd 56 (itc q.2 3) :: rows3 V q.1) w5 from t5)
        clear t5
        go_upto_block 2 with fail
        go_cut [] (fun wx => Hid (StR w g gq gd (k + 1) wx))
        case first =>
          by_cases hbad : t = 0 ∧ f ≠ 0
          · have hC2 : C = 2001 := by rw [← HCC.out, if_pos hbad]
            have HQ : Hid (sd lsR q f t (109 :: l) = q) := Lib.hid (sdR_no hf3 ht3 HLL.out hbad)
            have g1 : ((t : Int) == 0) = true := by simp; exact hbad.1
            have g2 : ((f : Int) != 0) = true := by simp; exact hbad.2
            have HF : Hid (StR w g gq gd (k + 1) w5) := Lib.hid ⟨q, V, fun p => by have := HKK.out p; omega, by
              have h := HT.out
              rw [HQ.out] at h
              exact h⟩
            clear hbad
            subst hC2
            go_wp2_with fail
            refine (num_any _ _).mono ?_; rintro e w' ⟨rfl, rfl⟩
            go_wp2_with fail
            go_meet
            exact HF
          · have hC2 : C = 0 := by rw [← HCC.out, if_neg hbad]
            obtain ⟨c1, d1, f1, fd1, A, c, hV, hcap⟩ := osS_cells HT.out ht3
            have hk1 := HKK.out t
            have hq8 : (q.1 t).length ≤ 8 := HQ8.out
            rw [hV] at c1
            have HV := Lib.hid hV
            have hway : ((t : Int) == 0) = false ∨ (((t : Int) == 0) = true ∧ ((f : Int) != 0) = false) := by
              by_cases h0 : t = 0
              · have h1 : ¬ f ≠ 0 := fun h1 => hbad ⟨h0, h1⟩
                exact .inr ⟨by simp; exact h0, by simp; omega⟩
              · exact .inl (by simp; omega)
            by_cases h8 : (q.1 t).length < 8
            · have HQ : Hid (sd lsR q f t (109 :: l) = (upF q.1 t (q.1 t ++ [⟨f, 109 :: l⟩]), q.2)) := Lib.hid (sdR_put hf3 ht3 HLL.out hbad h8)
              have how := osS_row HT.out ht3
              rw [hV] at how
              have HOW := Lib.hid how
              obtain ⟨x, hx⟩ : ∃ x, q.1 t = x := ⟨_, rfl⟩
              rw [hx] at HQ HOW c1 hcap h8 HV
              have HX2 := Lib.hid hx
              obtain ⟨n8, hn8⟩ : ∃ n8, x.length = n8 := ⟨_, rfl⟩
              have HN8 := Lib.hid hn8
              rw [hn8] at HOW c1 hcap h8 HV
              have hn88 : ((n8 : Int) == 8) = false := by simp; omega
              have H2 : Hid (∀ u ∈ ([.int .i64 f, .string X] : List Value), u.oneCell' = true) := Lib.hid (by intro u hu; simp at hu; rcases hu with rfl | rfl <;> rfl)
              have HMC : Hid (mcs ⟨(f : Int), 109 :: l⟩ = [.int .i64 f, .string X]) := Lib.hid (by unfold mcs; rw [HXX.out])
              have hgq5 : gq < w5.heap.size := (HT.out.blk (i := 1) rfl).lt
              have c1a : (w5.alloc (.cells #[.int .i64 f, .string X] 41)).cell? ⟨gq, t, none⟩ = some (.slice A n8 c) := by
                rw [World.cell?_alloc_lt _ _ _ hgq5]; exact c1
              subst hC2
              clear hbad how hV hx hn8 hk1 hq8
              rcases hway with g1 | ⟨g1, g2⟩
              all_goals
                go_wp2_with fail
                refine (num_any _ _).mono ?_; rintro e w' ⟨rfl, rfl⟩
                go_wp2_with (at_builtin; refine wpList_append_lies _ rfl _ _ 46 rfl 0 41 i0 _ 2 24 Try.underlying46 HI.out HZ0.out HZ1.out HZ2.out rfl (by decide) _ n8 (mss x) rfl (HOW.out.alloc _) ⟨w5.heap.size, 0, none⟩ 1 1 [.int .i64 f, .string X] rfl rfl (by exact row_new w5 [.int .i64 f, .string X] _) H2.out (by omega) (by unfold maxLen; omega) (by omega) (by omega) _ rfl ?_)
                intro g6 c6 w6 own6 gr6 hat hlt6
                have hl : (x ++ [(⟨(f : Int), 109 :: l⟩ : Ms)]).length = n8 + 1 := by rw [List.length_append, HN8.out]; rfl
                have hgr : w5.grownBy w6 (V t).ownBlock := by
                  rw [HV.out]
                  exact ⟨gr6.os, gr6.tape, gr6.output, Nat.le_trans (by simp) gr6.size, fun i hi hne => (gr6.block i (by simp; omega) hne).trans (Below.heap_alloc w5 _ i hi)⟩
                have T6 := osS_grow HT.out ht3 hgr (x := x ++ [⟨(f : Int), 109 :: l⟩]) (v := .slice (some ⟨g6, 0, none⟩) (n8 + 1) c6) (by rw [hl, mss_append, mss_one, HMC.out]; exact own6) (fun b hb => by
                  have e : g6 = b := by simpa [Value.ownBlock] using hb
                  subst e
                  rw [HV.out]
                  rcases hat with h | h
                  · exact .inl h
                  · exact .inr (by omega))
                have hb6 : Blk w6 gq _ _ := (HT.out.blk (i := 1) rfl).grown hgr (fun e => own_apart_blk (osS_row HT.out ht3) (HT.out.blk (i := 1) rfl) (by decide) e.symm)
                have c16 : w6.cell? ⟨gq, t, none⟩ = some (.slice A n8 c) := by rw [hb6.cell, fam_get _ _ _ ht3, HV.out]
                have f16 := hb6.frozen t
                have HF : Hid (StR w g gq gd (k + 1) (w6.setCell ⟨gq, t, none⟩ (.slice (some ⟨g6, 0, none⟩) (n8 + 1) c6))) := Lib.hid ⟨sd lsR q f t (109 :: l), upF V t (.slice (some ⟨g6, 0, none⟩) (n8 + 1) c6), fun p => by rw [HQ.out]; have := HKK.out p; show q.2 p ≤ _; omega, by
                  unfold osR
                  have e1 : (sd lsR q f t (109 :: l)).1 = upF q.1 t (x ++ [⟨(f : Int), 109 :: l⟩]) := by rw [HQ.out]
                  have e2 : (sd lsR q f t (109 :: l)).2 = q.2 := by rw [HQ.out]
                  rw [e1, e2]
                  exact T6⟩
                clear own6 gr6 hat hlt6 hgr T6 hb6 hl c1 c1a
                go_wp2_with fail
                go_meet
                exact HF
            · have HQ : Hid (sd lsR q f t (109 :: l) = (q.1, iF q.2 t (q.2 t + 1))) := Lib.hid (sdR_full hf3 ht3 HLL.out hbad h8 (by omega))
              have hq88 : (q.1 t).length = 8 := by omega
              rw [hq88] at c1
              have HF : Hid (StR w g gq gd (k + 1) (w5.setCell ⟨gd, t, none⟩ (.int .i64 (q.2 t + 1)))) := Lib.hid ⟨sd lsR q f t (109 :: l), V, fun p => by
                rw [HQ.out]
                have := HKK.out p
                show iF q.2 t (q.2 t + 1) p ≤ _
                unfold iF
                split <;> omega, by
                have T6 := osS_drop HT.out (q.2 t + 1) t
                unfold osR
                have e1 : (sd lsR q f t (109 :: l)).1 = q.1 := by rw [HQ.out]
                have e2 : (sd lsR q f t (109 :: l)).2 = iF q.2 t (q.2 t + 1) := by rw [HQ.out]
                rw [e1, e2]
                exact T6⟩
              subst hC2
              have hdlo : 0 ≤ q.2 t := HD8.out
              generalize q.2 t = dt at *
              clear hbad hV h8 hq8
              rcases hway with g1 | ⟨g1, g2⟩
              all_goals
                go_wp2_with fail
                refine (num_any _ _).mono ?_; rintro e w' ⟨rfl, rfl⟩
                go_wp2_with fail
                go_meet
                exact HF
        case rest =>
          have HQ := hcut
          clear hcut HT HC HCC HKK
          generalize wc = w6 at *
          go_wp2_with fail
          go_loopw [14] (fun i wr => ∃ p : Nat, p ≤ 3 ∧ i = .int .i64 p ∧ Hid (StR w g gq gd (k + 1) wr)) (fun i _ => 3 - (intOf i).toNat)
          case atStart => exact ⟨0, by omega, rfl, HQ⟩
          case round =>
            clear HQ
            obtain ⟨p, hp3, rfl, HQ⟩ := hrel
            by_cases hlp : p < 3
            · obtain ⟨q6, V6, hk6, tk6⟩ := HQ.out
              obtain ⟨nqX1, ndX1⟩ := nqR (q := q6) hlp
              have HX1 := Lib.hid nqX1; have HD1 := Lib.hid ndX1
              obtain ⟨c1, d1, _, _, A6, c6, hV6, hcap6⟩ := osS_cells tk6 hlp
              have h86 : (q6.1 p).length ≤ 8 := ((tk6.ps (i := 0) rfl).1.q8 p).1
              have hp3I : (p : Int) < 3 := by omega
              rw [hV6] at c1
              have T6 := Lib.hid (tk6.drewN 1)
              have HV6 := Lib.hid hV6
              obtain ⟨x, hx⟩ : ∃ x, q6.1 p = x := ⟨_, rfl⟩
              have HXX6 := Lib.hid hx
              rw [hx] at HX1 c1 h86 HV6
              obtain ⟨nx, hnx⟩ : ∃ nx, x.length = nx := ⟨_, rfl⟩
              have HNX := Lib.hid hnx
              rw [hnx] at c1 h86 HV6
              obtain ⟨dp, hdp⟩ : ∃ dp, q6.2 p = dp := ⟨_, rfl⟩
              rw [hdp] at HD1 d1
              have HDP := Lib.hid hdp
              have HK6 := Lib.hid hk6
              have hwr1 : wr.drew.cell? ⟨gq, p, none⟩ = some (.slice A6 nx c6) := c1
              have hwr2 : wr.drew.cell? ⟨gd, p, none⟩ = some (.int .i64 dp) := d1
              have hdd : (dp != dp) = false := by simp
              clear nqX1 ndX1 hV6 hcap6 tk6 hx hnx hdp hk6 HQ
              go_wp2_with fail
              go_region_with (first
                | (go_at_call 19; refine (t2_queue (p : Int) _ T6.out (i := 0) rfl x HX1.out).mono ?_; rintro e w7 ⟨v7, rfl, t7⟩; obtain ⟨T7, c7, d7⟩ := rows_q t7 hlp HXX6.out HNX.out HDP.out HV6.out)
                | (go_at_call 20; refine (rows_same T7 hlp HXX6.out HNX.out HV6.out h86).mono ?_; rintro e w' ⟨rfl, n8, rfl⟩; have c8 : (w7.drewN n8).cell? ⟨gq, p, none⟩ = some (.slice A6 nx c6) := c7; have d8 : (w7.drewN n8).cell? ⟨gd, p, none⟩ = some (.int .i64 dp) := d7)
                | (go_at_call 22; refine (rows_drop T7 n8 hlp HD1.out).mono ?_; rintro e w' ⟨rfl, rfl⟩))
              all_goals
                have HF : Hid (StR w g gq gd (k + 1) (w7.drewN n8)) := Lib.hid ⟨q6, V6, HK6.out, (T7.out.drewN n8).tail⟩
                clear c7 d7 c8 d8 t7 T7
                generalize w7.drewN n8 = w8 at *
                go_wp2_with fail
                go_roundw
                case rel => exact ⟨p + 1, by omega, by go_num, HF⟩
                case measure => simp [intOf]; omega
            · obtain rfl : p = 3 := by omega
              go_wp2_with fail
              go_roundw
              case rel => exact ⟨k + 1, by omega, by omega, by go_num, HQ⟩
              case measure => simp [intOf]; omega
    · have hx : (k : Int) ≥ n ∨ ((k : Int) < n ∧ decide ((k : Int) < 60) = false) := by
        by_cases h1 : k < n
        · exact .inr ⟨by omega, by simp; omega⟩
        · exact .inl (by omega)
      have HB : Hid (Below w.heap.size w wr) := by
        obtain ⟨q, V, _, tk⟩ := HQ.out
        exact Lib.hid tk.below
      clear hgo HQ
      rcases hx with hx | ⟨hx, hx2⟩
      all_goals
        go_wp2_with fail
        go_ret
        exact ⟨rfl, HB.out⟩

end Go.Proofs.Ytfkdohnpfjdehaa
