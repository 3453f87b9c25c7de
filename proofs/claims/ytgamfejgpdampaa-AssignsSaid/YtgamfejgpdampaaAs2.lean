/-
  Layer 15, the program: the table; Move, Owner, Phase.
-/
import Derived.Test.YtgamfejgpdampaaAs1
import Derived.StillTailTactics
import Derived.Deep.RegionWith
import Derived.Deep.CutBlock
import Derived.Deep.DeepCutAuto
namespace Go.Proofs.Ytgamfejgpdampaa
open Go.RowKit
set_option linter.unusedVariables false
set_option maxRecDepth 100000

/-- The program's table, at block g. -/
structure PA (w : World) (g q P D : Nat) (O : Nat → Int) (L : Nat → Nat) : Prop where
  q1 : 1 ≤ q
  q8 : q ≤ 8
  p4 : P ≤ 4
  d4 : D ≤ 4
  l8 : ∀ i, L i ≤ 8
  blk : Blk w g 54 (itc (acF q P D O L) 15)
section
variable {w w' : World} {g q P D : Nat} {O : Nat → Int} {L : Nat → Nat}
theorem PA.heads (h : PA w g q P D O L) : w.cell? ⟨g, 0, none⟩ = some (.int .i64 q) ∧ w.cell? ⟨g, 1, none⟩ = some (.int .i64 P) ∧ w.cell? ⟨g, 2, none⟩ = some (.int .i64 D) := by
  refine ⟨?_, ?_, ?_⟩ <;> (rw [h.blk.cell, itc_get _ _ _ (by omega)]; rfl)
theorem PA.at_ (h : PA w g q P D O L) (i : Nat) (hi : i < D) : w.cell? ⟨g, 3 + i * 3, none⟩ = some (.int .i64 (ph (L i))) ∧ w.cell? ⟨g, 3 + i * 3 + 1, none⟩ = some (.int .i64 (O i)) ∧ w.cell? ⟨g, 3 + i * 3 + 2, none⟩ = some (.int .i64 (L i : Int)) := by
  have := h.d4
  refine ⟨?_, ?_, ?_⟩ <;> rw [h.blk.cell, itc_get _ _ _ (by omega)]
  · rw [acF_ph]
  · rw [acF_o]
  · rw [acF_l]
theorem PA.frozen (h : PA w g q P D O L) (i : Nat) : w.frozen? ⟨g, i, none⟩ = false := h.blk.frozen i
theorem PA.put (h : PA w g q P D O L) (i : Nat) (o : Int) (l : Nat) (hl : l ≤ 8) : PA (((w.setCell ⟨g, 3 + i * 3, none⟩ (.int .i64 (ph l))).setCell ⟨g, 3 + i * 3 + 1, none⟩ (.int .i64 o)).setCell ⟨g, 3 + i * 3 + 2, none⟩ (.int .i64 l)) g q P D (iF O i o) (uN L i l) := by
  refine ⟨h.q1, h.q8, h.p4, h.d4, uN_le hl h.l8, ?_⟩
  have := ((h.blk.set (3 + i * 3) (.int .i64 (ph l))).set (3 + i * 3 + 1) (.int .i64 o)).set (3 + i * 3 + 2) (.int .i64 l)
  rwa [itc_set, itc_set, itc_set, acF_put] at this
theorem PA.below (h : PA w g q P D O L) (hb : Below w.heap.size w w') : PA w' g q P D O L := ⟨h.q1, h.q8, h.p4, h.d4, h.l8, h.blk.below hb h.blk.lt⟩
theorem PA.new (q1 : 1 ≤ q) (q8 : q ≤ 8) (p4 : P ≤ 4) (d4 : D ≤ 4) (hb : Blk w g 54 (itc (acF q P D O L) 15)) (l8 : ∀ i, L i ≤ 8) : PA w g q P D O L := ⟨q1, q8, p4, d4, l8, hb⟩
end
/-- As a thing. -/
def obPA (g q P D : Nat) (O : Nat → Int) (L : Nat → Nat) : Ob :=
  ⟨fun S w => PA w g q P D O L ∧ ∀ b, S b ↔ b = g, fun ⟨h, e⟩ hk hs => ⟨⟨h.q1, h.q8, h.p4, h.d4, h.l8, (hk g h.blk.lt ((e g).2 rfl)).trans h.blk⟩, e⟩, fun ⟨h, e⟩ hb => ((e _).1 hb) ▸ h.blk.lt⟩
section
variable {S : Nat → Prop} {W0 w w' : World} {os : List Ob} {i g q P D : Nat} {O O' : Nat → Int} {L L' : Nat → Nat}
theorem Tk.pa (h : Tk S W0 os w) (hi : os[i]? = some (obPA g q P D O L)) : PA w g q P D O L := by obtain ⟨_, q, _⟩ := h.get hi; exact q.1
theorem Tk.setPA (h : Tk S W0 os w) (hi : os[i]? = some (obPA g q P D O L)) (hp : PA w' g q P D O' L') (hg : w.grownBy w' (some g)) : Tk S W0 (os.set i (obPA g q P D O' L')) w' := by
  obtain ⟨S1, q, _, k⟩ := h.call hi
  exact k w' _ [] ⟨S1, obs_one.2 ⟨hp, q.2⟩, fun _ _ h => h, (Fo.refl _ _).grown hg (fun x hx => .inl ((q.2 x).2 (by injection hx with hx; exact hx.symm)))⟩
end
theorem set3A (w : World) (g a b c : Nat) (x y z : Value) : w.grownBy (((w.setCell ⟨g, a, none⟩ x).setCell ⟨g, b, none⟩ y).setCell ⟨g, c, none⟩ z) (some g) := by
  have h1 : w.grownBy (w.setCell ⟨g, a, none⟩ x) (some g) := gone x
  have h2 := gset (p := ⟨g, b, none⟩) h1 (.inl rfl) y
  exact gset (p := ⟨g, c, none⟩) h2 (.inl rfl) z

section
variable {g q P D : Nat} {O : Nat → Int} {L : Nat → Nat}
theorem ahasD_any (d : Int) (w : World) (h : PA w g q P D O L) :
    Calls Try.prog 23 #[.pointer (some ⟨g, 0, none⟩), .int .i64 d] w fun e w' => e = .returned (.bool (adB D d)) ∧ w = w' := by
  obtain ⟨_, _, hc⟩ := h.heads
  have HB := Lib.hid (show adB D d = decide (0 ≤ d ∧ d < (D : Int)) from rfl)
  clear h
  by_cases h0 : 0 ≤ d
  · by_cases h1 : d < (D : Int)
    · go_enter Try.func23, Try.ntmps23
      go_wp2
      go_ret
      exact ⟨by rw [HB.out, decide_eq_true (show 0 ≤ d ∧ d < (D : Int) from ⟨h0, h1⟩)]; rfl, rfl⟩
    · go_enter Try.func23, Try.ntmps23
      go_wp2
      go_ret
      exact ⟨by rw [HB.out, decide_eq_false (show ¬ (0 ≤ d ∧ d < (D : Int)) by omega)]; rfl, rfl⟩
  · go_enter Try.func23, Try.ntmps23
    go_wp2
    go_ret
    exact ⟨by rw [HB.out, decide_eq_false (show ¬ (0 ≤ d ∧ d < (D : Int)) by omega)]; rfl, rfl⟩
/-- .. where only the number of partitions is known. -/
theorem ahasP_at (d : Int) (w : World) (hc : w.cell? ⟨g, 1, none⟩ = some (.int .i64 P)) :
    Calls Try.prog 21 #[.pointer (some ⟨g, 0, none⟩), .int .i64 d] w fun e w' => e = .returned (.bool (adB P d)) ∧ w = w' := by
  have HB := Lib.hid (show adB P d = decide (0 ≤ d ∧ d < (P : Int)) from rfl)
  by_cases h0 : 0 ≤ d
  · by_cases h1 : d < (P : Int)
    · go_enter Try.func21, Try.ntmps21
      go_wp2
      go_ret
      exact ⟨by rw [HB.out, decide_eq_true (show 0 ≤ d ∧ d < (P : Int) from ⟨h0, h1⟩)]; rfl, rfl⟩
    · go_enter Try.func21, Try.ntmps21
      go_wp2
      go_ret
      exact ⟨by rw [HB.out, decide_eq_false (show ¬ (0 ≤ d ∧ d < (P : Int)) by omega)]; rfl, rfl⟩
  · go_enter Try.func21, Try.ntmps21
    go_wp2
    go_ret
    exact ⟨by rw [HB.out, decide_eq_false (show ¬ (0 ≤ d ∧ d < (P : Int)) by omega)]; rfl, rfl⟩
theorem ahasP_any (d : Int) (w : World) (h : PA w g q P D O L) :
    Calls Try.prog 21 #[.pointer (some ⟨g, 0, none⟩), .int .i64 d] w fun e w' => e = .returned (.bool (adB P d)) ∧ w = w' := ahasP_at d w h.heads.2.1

theorem aphase_any (d : Int) (w : World) (h : PA w g q P D O L) :
    Calls Try.prog 17 #[.pointer (some ⟨g, 0, none⟩), .int .i64 d] w fun e w' => e = .returned (.tuple #[.int .i64 (apX D L d), .int .i64 (apC D d)]) ∧ w = w' := by
  have H := Lib.hid h
  have hD := h.d4
  cases hb : adB D d with
  | true =>
    have HB := Lib.hid hb
    obtain ⟨i, rfl, hi⟩ := adB_way hb
    obtain ⟨e1, e2, _⟩ := a_yes D O L i hi
    obtain ⟨c0, _, _⟩ := h.at_ i hi
    have hi4 : (i : Int) < 4 := by omega
    rw [e1, e2]
    clear h hb e1 e2
    go_enter Try.func17, Try.ntmps17
    go_wp2_with fail
    refine (ahasD_any _ _ H.out).mono ?_
    rintro e w' ⟨rfl, rfl⟩
    rw [HB.out]
    go_wp2_with fail
    go_ret2
    exact ⟨rfl, rfl⟩
  | false =>
    obtain ⟨e1, e2, _⟩ := a_no D O L d hb
    have HB := Lib.hid hb
    rw [e1, e2]
    clear h hb e1 e2
    go_enter Try.func17, Try.ntmps17
    go_wp2_with fail
    refine (ahasD_any _ _ H.out).mono ?_
    rintro e w' ⟨rfl, rfl⟩
    rw [HB.out]
    go_wp2_with fail
    go_ret2
    exact ⟨rfl, rfl⟩

theorem aowner_any (d : Int) (w : World) (h : PA w g q P D O L) :
    Calls Try.prog 19 #[.pointer (some ⟨g, 0, none⟩), .int .i64 d] w fun e w' => e = .returned (.int .i64 (aoX D O L d)) ∧ Below w.heap.size w w' := by
  have H := Lib.hid h
  have hD := h.d4
  cases hb : adB D d with
  | true =>
    have HB := Lib.hid hb
    obtain ⟨i, rfl, hi⟩ := adB_way hb
    obtain ⟨_, _, e1⟩ := a_yes D O L i hi
    obtain ⟨c0, c1, c2⟩ := h.at_ i hi
    have hi4 : (i : Int) < 4 := by omega
    rw [e1]
    by_cases hl : L i = 0
    · rw [if_pos hl]
      rw [show ph (L i) = 0 by simp [ph, hl]] at c0
      clear h hb e1 hl
      go_enter Try.func19, Try.ntmps19
      go_wp2_with fail
      refine (ahasD_any _ _ H.out).mono ?_
      rintro e w' ⟨rfl, rfl⟩
      rw [HB.out]
      go_wp2_with fail
      refine (aown_0 _ _ _).mono ?_
      rintro e w' ⟨rfl, b⟩
      go_wp2_with fail
      go_ret
      exact ⟨rfl, b⟩
    · rw [if_neg hl]
      rw [show ph (L i) = 1 by simp [ph, hl]] at c0
      clear h hb e1 hl
      go_enter Try.func19, Try.ntmps19
      go_wp2_with fail
      refine (ahasD_any _ _ H.out).mono ?_
      rintro e w' ⟨rfl, rfl⟩
      rw [HB.out]
      go_wp2_with fail
      refine (aown_1 _ _ _).mono ?_
      rintro e w' ⟨rfl, b⟩
      go_wp2_with fail
      go_ret
      exact ⟨rfl, b⟩
  | false =>
    obtain ⟨_, _, e1⟩ := a_no D O L d hb
    have HB := Lib.hid hb
    rw [e1]
    clear h hb e1
    go_enter Try.func19, Try.ntmps19
    go_wp2_with fail
    refine (ahasD_any _ _ H.out).mono ?_
    rintro e w' ⟨rfl, rfl⟩
    rw [HB.out]
    go_wp2_with fail
    go_ret
    exact ⟨rfl, Below.refl _ _⟩

theorem amove_no (d t : Int) (w : World) (h : PA w g q P D O L) (hb : amB D P d t = false) :
    Calls Try.prog 11 #[.pointer (some ⟨g, 0, none⟩), .int .i64 d, .int .i64 t] w fun e w' => e = .returned (.int .i64 1500) ∧ w = w' := by
  have H := Lib.hid h; clear h
  unfold amB at hb
  cases hd : adB D d with
  | false =>
    have HB := Lib.hid hd; clear hb hd
    go_enter Try.func11, Try.ntmps11
    go_wp2_with fail
    refine (ahasD_any _ _ H.out).mono ?_
    rintro e w' ⟨rfl, rfl⟩
    rw [HB.out]
    go_wp2_with fail
    go_ret
    exact ⟨rfl, rfl⟩
  | true =>
    rw [hd, Bool.true_and] at hb
    have HB := Lib.hid hd; have HP := Lib.hid hb; clear hb hd
    go_enter Try.func11, Try.ntmps11
    go_wp2_with fail
    refine (ahasD_any _ _ H.out).mono ?_
    rintro e w' ⟨rfl, rfl⟩
    rw [HB.out]
    go_wp2_with fail
    refine (ahasP_any _ _ H.out).mono ?_
    rintro e w' ⟨rfl, rfl⟩
    rw [HP.out]
    go_wp2_with fail
    go_ret
    exact ⟨rfl, rfl⟩

/-- The variable of the state behind a step. -/
def Nx (w : World) (a o l : Int) (c : Value) (u7 u8 : Value) (wx : World) : Prop := ∃ k, u7 = .pointer (some ⟨k, 0, none⟩) ∧ u8 = c ∧ w.heap.size ≤ k ∧ Below w.heap.size w wx ∧ Blk wx k 51 [.int .i64 a, .int .i64 o, .int .i64 l]

theorem nx_late {w w3 : World} {a o l : Int} {c : Value} (b3 : Below w.drew.heap.size w.drew w3) : Nx w a o l c (.pointer (some ⟨w3.heap.size, 0, none⟩)) c (w3.alloc (.cells #[.int .i64 a, .int .i64 o, .int .i64 l] 51)) :=
  have hs : w.heap.size ≤ w3.heap.size := b3.size
  ⟨_, rfl, rfl, hs, (Below.down (bdrewN (Below.refl _ w) 1) b3 (Nat.le_refl _)).alloc hs _, Blk.new w3 _ [.int .i64 a, .int .i64 o, .int .i64 l]⟩
theorem nx_early {w w3 : World} {a o l : Int} {c : Value} (b3 : Below (w.alloc (.cells #[.int .i64 0, .int .i64 0, .int .i64 0] 51)).drew.heap.size (w.alloc (.cells #[.int .i64 0, .int .i64 0, .int .i64 0] 51)).drew w3) :
    Nx w a o l c (.pointer (some ⟨w.heap.size, 0, none⟩)) c (((w3.setCell ⟨w.heap.size, 0, none⟩ (.int .i64 a)).setCell ⟨w.heap.size, 1, none⟩ (.int .i64 o)).setCell ⟨w.heap.size, 2, none⟩ (.int .i64 l)) := by
  have hb0 : Blk (w.alloc (.cells #[.int .i64 0, .int .i64 0, .int .i64 0] 51)).drew w.heap.size 51 [.int .i64 0, .int .i64 0, .int .i64 0] := (Blk.new w _ [.int .i64 0, .int .i64 0, .int .i64 0]).drewN 1
  have hb := hb0.below b3 hb0.lt
  have hw : Below w.heap.size w w3 := Below.down (bdrewN ((Below.refl _ w).alloc (Nat.le_refl _) (.cells #[.int .i64 0, .int .i64 0, .int .i64 0] 51)) 1) b3 (by show w.heap.size ≤ (w.alloc _).heap.size; simp)
  have h1 := hw.setCell (p := ⟨w.heap.size, 0, none⟩) (Nat.le_refl _) (.int .i64 a)
  have h2 := h1.setCell (p := ⟨w.heap.size, 1, none⟩) (Nat.le_refl _) (.int .i64 o)
  have h3 := h2.setCell (p := ⟨w.heap.size, 2, none⟩) (Nat.le_refl _) (.int .i64 l)
  exact ⟨_, rfl, rfl, Nat.le_refl _, h3, ((hb.set 0 _).set 1 _).set 2 _⟩

set_option maxHeartbeats 4000000 in
theorem amove_step {O' : Nat → Int} {L' : Nat → Nat} (i : Nat) (t c a o l a' o' l' : Int) (w : World) (h : PA w g q P D O L) (hi : i < D) (ht : adB P t = true) (ha : ph (L i) = a) (ho : O i = o) (hl : (L i : Int) = l)
    (hM : ∀ W, Calls Try.prog 24 #[.agg #[.int .i64 a, .int .i64 o, .int .i64 l], .int .i64 t, .int .i64 q] W fun e w' => e = .returned (.tuple #[.agg #[.int .i64 a', .int .i64 o', .int .i64 l'], .int .i64 c]) ∧ Below W.heap.size W w')
    (hP : ∀ W, PA W g q P D O L → PA (((W.setCell ⟨g, 3 + i * 3, none⟩ (.int .i64 a')).setCell ⟨g, 3 + i * 3 + 1, none⟩ (.int .i64 o')).setCell ⟨g, 3 + i * 3 + 2, none⟩ (.int .i64 l')) g q P D O' L') :
    Calls Try.prog 11 #[.pointer (some ⟨g, 0, none⟩), .int .i64 i, .int .i64 t] w fun e w' => e = .returned (.int .i64 c) ∧ PA w' g q P D O' L' ∧ w.grownBy w' (some g) := by
  have H := Lib.hid h; have HM := Lib.hid hM; have HP' := Lib.hid hP
  have hD := h.d4
  obtain ⟨c0, c1, c2⟩ := h.at_ i hi
  obtain ⟨cq, _, _⟩ := h.heads
  obtain ⟨b0, b1, b2⟩ := (h.below ((Below.refl _ _).alloc (Nat.le_refl _) (.cells #[.int .i64 0, .int .i64 0, .int .i64 0] 51))).at_ i hi
  obtain ⟨bq, _, _⟩ := (h.below ((Below.refl _ _).alloc (Nat.le_refl _) (.cells #[.int .i64 0, .int .i64 0, .int .i64 0] 51))).heads
  rw [ha] at c0 b0
  rw [ho] at c1 b1
  rw [hl] at c2 b2
  have hi4 : (i : Int) < 4 := by omega
  have HB := Lib.hid (adB_nat hi); have HP := Lib.hid ht
  have hgl := h.blk.lt
  clear h hM hP ht ha ho hl
  go_enter Try.func11, Try.ntmps11
  go_wp2_with fail
  refine (ahasD_any _ _ H.out).mono ?_
  rintro e w' ⟨rfl, rfl⟩
  rw [HB.out]
  go_wp2_with fail
  refine (ahasP_any _ _ H.out).mono ?_
  rintro e w' ⟨rfl, rfl⟩
  rw [HP.out]
  go_upto_region 5 with fail
  go_cut [7, 8] from 21 (fun u7 u8 wx => Nx w a' o' l' (.int .i64 c) u7 u8 wx)
  case first =>
    go_region_with (go_at_call 24; refine (HM.out _).mono ?_; rintro e w3 ⟨rfl, b3⟩; (first | (obtain ⟨k0, k1, k2, k3, k4, k5⟩ := tri_at (Blk.below ((Blk.new w 51 [.int .i64 0, .int .i64 0, .int .i64 0]).drewN 1) b3 (Blk.lt ((Blk.new w 51 [.int .i64 0, .int .i64 0, .int .i64 0]).drewN 1)))) | skip))
    all_goals
      go_wp2_with fail
      go_meet
      case rel =>
        first
          | exact nx_late b3
          | exact nx_early b3
  case rest =>
    clear c0 c1 c2 cq b0 b1 b2 bq HB HP HM
    obtain ⟨k, rfl, rfl, hk, hb, hblk⟩ := hcut
    have hp := H.out.below hb
    have hp' : PA wc.drew g q P D O L := hp.below (bdrewN (Below.refl _ _) 1)
    obtain ⟨k0, k1, k2, _, _, _⟩ := tri_at hblk
    obtain ⟨c0, c1, c2⟩ := hp'.at_ i (by have := H.out.d4; omega)
    have f0 := hp'.frozen (3 + i * 3)
    have f1 := hp'.frozen (3 + i * 3 + 1)
    have f2 := hp'.frozen (3 + i * 3 + 2)
    have hs := Lib.hid (HP'.out _ hp')
    have hg := Lib.hid (gtrans (gof (bdrewN hb 1) (some g)) (set3A wc.drew g (3 + i * 3) (3 + i * 3 + 1) (3 + i * 3 + 2) (.int .i64 a') (.int .i64 o') (.int .i64 l')))
    go_wp2_with fail
    go_still_tail 6, (by kernel_rfl)
    change wpList _ _ _ _ _ wc.drew
    clear k0 k1 k2 hblk hp hp' hb hk
    generalize wc.drew = wd at *
    go_wp2_with fail
    go_ret
    exact ⟨rfl, hs.out, hg.out⟩

theorem amove_any (d t : Int) (w : World) (h : PA w g q P D O L) :
    Calls Try.prog 11 #[.pointer (some ⟨g, 0, none⟩), .int .i64 d, .int .i64 t] w fun e w' => e = .returned (.int .i64 (amC D P L d t)) ∧ PA w' g q P D (amO D P O L d t) (amL D P q L d t) ∧ w.grownBy w' (some g) := by
  rcases am_parts D P q O L d t with ⟨hb, e1, e2, e3⟩ | ⟨i, rfl, hi, ht, hl, e1, e2, e3⟩ | ⟨i, rfl, hi, ht, hl, e1, e2, e3⟩
  · rw [e1, e2, e3]
    exact (amove_no d t w h hb).mono fun e w' ⟨he, hw⟩ => ⟨he, hw ▸ h, hw ▸ grefl _ _⟩
  · rw [e1, e2, e3]
    have hp : ph (L i) = 1 := by simp [ph, hl]
    refine amove_step i t 1501 1 (O i) (L i : Int) 1 (O i) (L i : Int) w h hi ht hp rfl rfl (fun W => amv_1 _ _ _ _ W) (fun W hW => ?_)
    have := hW.put i (O i) (L i) (hW.l8 i)
    rwa [hp, iF_same, uN_same] at this
  · rw [e1, e2, e3]
    have hp : ph (L i) = 0 := by simp [ph, hl]
    refine amove_step i t 0 0 (O i) (L i : Int) 1 t q w h hi ht hp rfl rfl (fun W => amv_0 _ _ _ _ W) (fun W hW => ?_)
    have := hW.put i t q hW.q8
    rwa [show ph q = 1 by have := hW.q1; unfold ph; rw [if_neg (by omega)]] at this
end

section
variable {S : Nat → Prop} {W0 : World} {os os' : List Ob} {i g q P D : Nat} {O : Nat → Int} {L : Nat → Nat}
theorem tk_amove (d t : Int) (w : World) (h : Tk S W0 os w) (hi : os[i]? = some (obPA g q P D O L)) :
    Calls Try.prog 11 #[.pointer (some ⟨g, 0, none⟩), .int .i64 d, .int .i64 t] w fun e w' => e = .returned (.int .i64 (amC D P L d t)) ∧ Tk S W0 (os.set i (obPA g q P D (amO D P O L d t) (amL D P q L d t))) w' :=
  (amove_any d t w (h.pa hi)).mono fun _ _ ⟨he, hp, hg⟩ => ⟨he, h.setPA hi hp hg⟩
theorem tk_amove_is (d t c : Int) (w : World) (h : Tk S W0 os w) (hi : os[i]? = some (obPA g q P D O L)) (hc : amC D P L d t = c) (ho : os.set i (obPA g q P D (amO D P O L d t) (amL D P q L d t)) = os') :
    Calls Try.prog 11 #[.pointer (some ⟨g, 0, none⟩), .int .i64 d, .int .i64 t] w fun e w' => e = .returned (.int .i64 c) ∧ Tk S W0 os' w' := by
  have := tk_amove d t w h hi
  rwa [hc, ho] at this
theorem tk_aphase (d : Int) (w : World) (h : Tk S W0 os w) (hi : os[i]? = some (obPA g q P D O L)) :
    Calls Try.prog 17 #[.pointer (some ⟨g, 0, none⟩), .int .i64 d] w fun e w' => e = .returned (.tuple #[.int .i64 (apX D L d), .int .i64 (apC D d)]) ∧ w = w' := aphase_any d w (h.pa hi)
theorem tk_aphase_is (d x c : Int) (w : World) (h : Tk S W0 os w) (hi : os[i]? = some (obPA g q P D O L)) (hx : apX D L d = x) (hc : apC D d = c) :
    Calls Try.prog 17 #[.pointer (some ⟨g, 0, none⟩), .int .i64 d] w fun e w' => e = .returned (.tuple #[.int .i64 x, .int .i64 c]) ∧ w = w' := by
  have := aphase_any d w (h.pa hi)
  rwa [hx, hc] at this
theorem tk_aowner (d : Int) (w : World) (h : Tk S W0 os w) (hi : os[i]? = some (obPA g q P D O L)) :
    Calls Try.prog 19 #[.pointer (some ⟨g, 0, none⟩), .int .i64 d] w fun e w' => e = .returned (.int .i64 (aoX D O L d)) ∧ Tk S W0 os w' := (aowner_any d w (h.pa hi)).mono fun _ _ ⟨he, hb⟩ => ⟨he, h.next hb⟩
theorem tk_aowner_is (d x : Int) (w : World) (h : Tk S W0 os w) (hi : os[i]? = some (obPA g q P D O L)) (hx : aoX D O L d = x) :
    Calls Try.prog 19 #[.pointer (some ⟨g, 0, none⟩), .int .i64 d] w fun e w' => e = .returned (.int .i64 x) ∧ Tk S W0 os w' := by
  have := tk_aowner d w h hi
  rwa [hx] at this
end
end Go.Proofs.Ytgamfejgpdampaa
