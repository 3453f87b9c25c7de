/-
  Layer 15, the document: Move that goes, Tick.
-/
import Derived.Test.YtgamfejgpdampaaAd0
import Derived.StillTailTactics
namespace Go.Proofs.Ytgamfejgpdampaa
open Go.RowKit Go.ChangeMaps
set_option linter.unusedVariables false
set_option maxRecDepth 100000

section
variable {y b c q P D : Nat} {O : Nat → Int} {L : Nat → Nat} {T : Nat → Int}
set_option maxHeartbeats 1000000 in
theorem damove_go (i : Nat) (t : Int) (w : World) (h : DA w y b c q P D O L T) (hi : i < D) (ht : adB P t = true) (hl : L i = 0) :
    Calls Try.prog 12 #[.pointer (some ⟨y, 0, none⟩), .int .i64 i, .int .i64 t] w fun e w' => e = .returned (.int .i64 0) ∧ DA w' y b c q P D (iF O i t) (uN L i q) (iF T i t) ∧ w.grownBy w' (some b) := by
  have H := Lib.hid h
  have hd : DA w.drew y b c q P D O L T := h.below (bdrewN (Below.refl _ _) 1)
  obtain ⟨cq, cP, hc⟩ := h.heads
  obtain ⟨_, _, c2⟩ := h.at_ i hi
  rw [hl] at c2
  have c2' : w.cell? ⟨b, i * 3 + 2, none⟩ = some (.int .i64 0) := c2
  obtain ⟨e0, e1, e2⟩ := hd.at_ i hi
  have f0 := hd.frozen (i * 3)
  have f1 := hd.frozen (i * 3 + 1)
  have f2 := hd.frozen (i * 3 + 2)
  have HS := Lib.hid (hd.set3 (O' := iF O i t) (L' := uN L i q) (T' := iF T i t) i (-1) t q (uN_le h.q8 h.l8) (fun j hj => by
    by_cases e : j = i
    · rw [iF_at e, iF_at e]
    · rw [uN_off e] at hj
      rw [iF_off e, iF_off e]
      exact h.tt j hj) (ahF_move O L T i t q (by have := h.q1; omega)))
  have HG := Lib.hid (gtrans (gof (bdrewN (Below.refl w.heap.size w) 1) (some b)) (set3A w.drew b (i * 3) (i * 3 + 1) (i * 3 + 2) (.int .i64 (-1)) (.int .i64 t) (.int .i64 (q : Int))))
  have hiI : (i : Int) < D := by omega
  have HB := Lib.hid (adB_nat hi)
  unfold adB at ht
  simp only [decide_eq_true_eq] at ht
  have t0 : decide (t < 0) = false := by simp; omega
  have t1 : decide ((P : Int) ≤ t) = false := by simp; omega
  clear ht hl h hd c2
  go_enter Try.func12, Try.ntmps12
  go_wp2_with fail
  refine (dathere_any _ _ H.out).mono ?_
  rintro e w' ⟨rfl, rfl⟩
  rw [HB.out]
  go_wp2_with fail
  go_still_tail 12, (by kernel_rfl)
  change wpList _ _ _ _ _ w.drew
  clear cq cP hc c2'
  generalize w.drew = wd at *
  go_wp2_with fail
  go_ret
  exact ⟨rfl, HS.out, HG.out⟩

theorem damove_any (d t : Int) (w : World) (h : DA w y b c q P D O L T) :
    Calls Try.prog 12 #[.pointer (some ⟨y, 0, none⟩), .int .i64 d, .int .i64 t] w fun e w' => e = .returned (.int .i64 (amC D P L d t)) ∧ (∃ T', DA w' y b c q P D (amO D P O L d t) (amL D P q L d t) T') ∧ w.grownBy w' (some b) := by
  rcases am_parts D P q O L d t with ⟨hb, e1, e2, e3⟩ | ⟨i, rfl, hi, ht, hl, e1, e2, e3⟩ | ⟨i, rfl, hi, ht, hl, e1, e2, e3⟩
  · rw [e1, e2, e3]
    exact (damove_no d t w h hb).mono fun e w' ⟨he, hw⟩ => ⟨he, hw ▸ ⟨_, h⟩, hw ▸ grefl _ _⟩
  · rw [e1, e2, e3]
    exact (damove_busy i t w h hi ht hl).mono fun e w' ⟨he, hw⟩ => ⟨he, hw ▸ ⟨_, h⟩, hw ▸ grefl _ _⟩
  · rw [e1, e2, e3]
    exact (damove_go i t w h hi ht hl).mono fun e w' ⟨he, hd, hg⟩ => ⟨he, ⟨_, hd⟩, hg⟩
end

section
variable {S : Nat → Prop} {W0 : World} {os : List Ob} {i y q P D : Nat} {O : Nat → Int} {L : Nat → Nat}
theorem tk_damove (d t : Int) (w : World) (h : Tk S W0 os w) (hi : os[i]? = some (obDA y q P D O L)) :
    Calls Try.prog 12 #[.pointer (some ⟨y, 0, none⟩), .int .i64 d, .int .i64 t] w fun e w' => e = .returned (.int .i64 (amC D P L d t)) ∧ Tk S W0 (os.set i (obDA y q P D (amO D P O L d t) (amL D P q L d t))) w' := by
  obtain ⟨b, c, T, hq, k⟩ := h.da hi
  exact (damove_any d t w hq).mono fun _ _ ⟨he, ⟨T', hp⟩, hg⟩ => ⟨he, k _ _ _ _ hp hg⟩
theorem tk_daphase (d : Int) (w : World) (h : Tk S W0 os w) (hi : os[i]? = some (obDA y q P D O L)) :
    Calls Try.prog 18 #[.pointer (some ⟨y, 0, none⟩), .int .i64 d] w fun e w' => e = .returned (.tuple #[.int .i64 (apX D L d), .int .i64 (apC D d)]) ∧ w = w' := by
  obtain ⟨b, c, T, hq, _⟩ := h.da hi
  exact daphase_any d w hq
theorem tk_daowner (d : Int) (w : World) (h : Tk S W0 os w) (hi : os[i]? = some (obDA y q P D O L)) :
    Calls Try.prog 20 #[.pointer (some ⟨y, 0, none⟩), .int .i64 d] w fun e w' => e = .returned (.int .i64 (aoX D O L d)) ∧ w = w' := by
  obtain ⟨b, c, T, hq, _⟩ := h.da hi
  exact daowner_any d w hq
end

/-- The document's table, whatever its devices' cells are. -/
structure DR (w : World) (y b c q P D : Nat) (F : Nat → Int) : Prop where
  dc : D ≤ c
  blk : Blk w y 59 [.int .i64 q, .int .i64 P, .slice (some ⟨b, 0, none⟩) D c]
  row : w.ownsRow 0 61 3 (.slice (some ⟨b, 0, none⟩) D c) D (itc F (D * 3))
section
variable {w w' : World} {y b c q P D : Nat} {F : Nat → Int} {O : Nat → Int} {L : Nat → Nat} {T : Nat → Int}
theorem DR.apart (h : DR w y b c q P D F) : y ≠ b := fun e => own_apart_blk h.row h.blk (by decide) (by rw [e]; rfl)
theorem DR.head (h : DR w y b c q P D F) : w.cell? ⟨y, 2, none⟩ = some (.slice (some ⟨b, 0, none⟩) D c) := by rw [h.blk.cell]; rfl
theorem DR.at_ (h : DR w y b c q P D F) (k : Nat) (hk : k < D * 3) : w.cell? ⟨b, k, none⟩ = some (.int .i64 (F k)) := by rw [h.row.cellAt _ hk, itc_get _ _ _ hk]
theorem DR.frozen (h : DR w y b c q P D F) (i : Nat) : w.frozen? ⟨b, i, none⟩ = false := h.row.frozenAt i
theorem DR.lt (h : DR w y b c q P D F) : b < w.heap.size := (h.row.lt b rfl).2
theorem DR.set (h : DR w y b c q P D F) (k : Nat) (x : Int) : DR (w.setCell ⟨b, k, none⟩ (.int .i64 x)) y b c q P D (iF F k x) := by
  have r1 := (h.row.stored k (.int .i64 x)).1
  rw [itc_set] at r1
  exact ⟨h.dc, h.blk.far (p := ⟨b, k, none⟩) h.apart (.int .i64 x), r1⟩
end
def obDR (y b c q P D : Nat) (F : Nat → Int) : Ob :=
  ⟨fun S w => DR w y b c q P D F ∧ ∀ k, S k ↔ (k = y ∨ k = b), fun ⟨h, e⟩ hk hs => ⟨⟨h.dc, (hk y h.blk.lt ((e y).2 (.inl rfl))).trans h.blk, own_stay h.row (fun b' hb' => by
      have e' : b = b' := by simpa [Value.ownBlock] using hb'
      subst e'
      exact hk b h.lt ((e b).2 (.inr rfl)))⟩, e⟩, fun ⟨h, e⟩ hb => ((e _).1 hb).elim (fun e => e ▸ h.blk.lt) (fun e => e ▸ h.lt)⟩
section
variable {S : Nat → Prop} {W0 w w' : World} {os : List Ob} {i y b c q P D : Nat} {F F' : Nat → Int}
theorem Tk.dr (h : Tk S W0 os w) (hi : os[i]? = some (obDR y b c q P D F)) : DR w y b c q P D F := by obtain ⟨_, q, _⟩ := h.get hi; exact q.1
theorem Tk.setDR (h : Tk S W0 os w) (hi : os[i]? = some (obDR y b c q P D F)) (k : Nat) (x : Int) (hF : iF F k x = F') : Tk S W0 (os.set i (obDR y b c q P D F')) (w.setCell ⟨b, k, none⟩ (.int .i64 x)) := by
  obtain ⟨S1, q, _, kk⟩ := h.call hi
  have hp := q.1.set k x
  rw [hF] at hp
  exact kk _ _ [] ⟨S1, obs_one.2 ⟨hp, q.2⟩, fun _ _ h => h, (Fo.refl _ _).grown (gone (.int .i64 x)) (fun x hx => .inl ((q.2 x).2 (.inr (by injection hx with hx; exact hx.symm))))⟩
end

set_option maxHeartbeats 4000000 in
theorem datick_any {y b c q P D : Nat} {O : Nat → Int} {L : Nat → Nat} {T : Nat → Int} {S : Nat → Prop} (w : World) (hq : (obDR y b c q P D (ahF O L T)).Q S w) (d4 : D ≤ 4) (l8 : ∀ i, L i ≤ 8) (tt : ∀ i, L i ≠ 0 → T i = O i) :
    Calls Try.prog 15 #[.pointer (some ⟨y, 0, none⟩)] w fun e w' => ∃ v, e = .returned v ∧ Tk S w [obJ v (atE L D), obDR y b c q P D (ahF O (atL L D) T)] w' := by
  obtain ⟨i0, hi, hz0, hz1, hz2⟩ := info_parts infoIntA
  have HI := Lib.hid hi; have HZ0 := Lib.hid hz0; have HZ1 := Lib.hid hz1; have HZ2 := Lib.hid hz2
  clear hi hz0 hz1 hz2
  have T0 : Hid (Tk S w [obJ (.slice none 0 0) (atE L 0), obDR y b c q P D (ahF O (atL L 0) T)] w) := Lib.hid (by
    rw [atL_zero]
    exact (Tk.start1 hq).addR (v := .slice none 0 0) (n := 0) (xs := []) (Below.refl _ _) (World.ownsRow_nil _ _ _ _))
  clear hq
  go_enter Try.func15, Try.ntmps15
  go_wp2_with fail
  go_loopw [3, 4] (fun v i wr => ∃ (k : Nat), k ≤ D ∧ i = .int .i64 k ∧ Hid (Tk S w [obJ v (atE L k), obDR y b c q P D (ahF O (atL L k) T)] wr)) (fun _ i _ => 4 - (intOf i).toNat)
  case atStart => exact ⟨0, by omega, rfl, T0⟩
  case round =>
    clear T0
    obtain ⟨k, hkD, rfl, HT⟩ := hrel
    have hr := HT.out.dr (i := 1) rfl
    have hc := hr.head
    by_cases hlt : k < D
    · have hltI : (k : Int) < D := by omega
      have c2 := hr.at_ (k * 3 + 2) (by omega)
      rw [ahF_l, atL_here] at c2
      have f2 := hr.frozen (k * 3 + 2)
      have hlen := atE_len L k
      have hl8 := l8 k
      rcases (show L k = 0 ∨ L k = 1 ∨ 2 ≤ L k by omega) with hl | hl | hl
      · as_aux_lemma =>
          have HE := Lib.hid (atE_no L k (by omega))
          have HU : Hid (atL L k = atL L (k + 1)) := Lib.hid (by rw [← atL_step, show L k - 1 = atL L k k by rw [atL_here]; omega, uN_same])
          rw [hl] at c2
          have c3 : wr.cell? ⟨b, k * 3 + 2, none⟩ = some (.int .i64 0) := c2
          clear c2 f2 hl hl8 hr
          go_wp2_with fail
          go_roundw
          case rel => exact ⟨k + 1, by omega, by go_num, Lib.hid (by rw [HE.out, ← HU.out]; exact HT.out)⟩
          case measure => simp [intOf]; omega
      · as_aux_lemma =>
          have HE := Lib.hid (atE_yes L k hl)
          have tk := tt k (by omega)
          have HU : Hid (iF (iF (ahF O (atL L k) T) (k * 3 + 2) 0) (k * 3) (O k) = ahF O (atL L (k + 1)) T) := Lib.hid (by rw [ahF_last _ _ _ _ tk, ← atL_step, hl])
          rw [hl] at c2
          have c3 : wr.cell? ⟨b, k * 3 + 2, none⟩ = some (.int .i64 1) := c2
          have t1 := HT.out.setDR (i := 1) rfl (k * 3 + 2) 0 rfl
          have c0 := hr.at_ (k * 3 + 2) (by omega)
          clear c2 c0 hl hl8
          go_upto_region 7 with fail
          change Code.wp _ _ _ _ (wr.setCell ⟨b, k * 3 + 2, none⟩ (.int .i64 0))
          generalize wr.setCell ⟨b, k * 3 + 2, none⟩ (.int .i64 0) = w1 at *
          clear c3 f2 hc hr
          have hr := t1.dr (i := 1) rfl
          have hc := hr.head
          have g2 := hr.at_ (k * 3 + 2) (by omega)
          rw [iF_here] at g2
          have g1 := hr.at_ (k * 3 + 1) (by omega)
          rw [iF_off (by omega), ahF_t, tk] at g1
          have td := t1.drewN 1
          have g0 := (td.dr (i := 1) rfl).at_ (k * 3) (by omega)
          have f0 := (td.dr (i := 1) rfl).frozen (k * 3)
          have t3 := td.setDR (i := 1) rfl (k * 3) (O k) HU.out
          have T3 := Lib.hid (show Tk S w [obJ u3 (atE L k), obDR y b c q P D (ahF O (atL L (k + 1)) T)] (w1.drew.setCell ⟨b, k * 3, none⟩ (.int .i64 (O k))) from t3)
          clear t1 td t3 hr tk
          change w1.drew.cell? _ = _ at g0
          change w1.drew.frozen? _ = _ at f0
          generalize iF (ahF O (atL L k) T) (k * 3 + 2) 0 (k * 3) = X0 at g0
          go_wp2_with fail
          go_still_tail 15, (by kernel_rfl)
          change wpList _ _ _ _ _ w1.drew
          clear g1 g2 hc
          generalize w1.drew = w2 at *
          go_upto_region 9 with fail
          generalize w2.setCell ⟨b, k * 3, none⟩ (.int .i64 (O k)) = w4 at *
          have hbl : Below w4.heap.size w4 (w4.alloc (.cells #[.int .i64 (k : Int)] 3)) := (Below.refl _ _).alloc (Nat.le_refl _) _
          have BL := Lib.hid hbl
          clear hbl f0 g0
          go_wp2_with (at_builtin; refine wpList_append_lies _ rfl _ _ 22 rfl 0 3 i0 _ 1 8 Try.underlying22 HI.out HZ0.out HZ1.out HZ2.out rfl (by decide) u3 (atE L k).length (ints (atE L k)) rfl (own_below (T3.out.row (i := 0) rfl) BL.out) ⟨w4.heap.size, 0, none⟩ 1 1 [.int .i64 (k : Int)] rfl rfl (row_new w4 [.int .i64 (k : Int)] 3) (int1A (k : Int)) (by omega) (by unfold maxLen; omega) (by omega) (by omega) _ rfl ?_)
          intro gg cap6 w6 own6 gr6 hat6 hlt6
          have t5 := T3.out.next BL.out
          have t6 : Tk S w [obJ (.slice (some ⟨gg, 0, none⟩) ((atE L k).length + 1) cap6) (atE L (k + 1)), obDR y b c q P D (ahF O (atL L (k + 1)) T)] w6 := by
            refine t5.turnR (i := 0) rfl gr6 (by rw [HE.out, ints_append, List.length_append]; exact own6) (fun x hx => ?_)
            have e : gg = x := by simpa [Value.ownBlock] using hx
            subst e
            rcases hat6 with h | h
            · exact .inl h
            · exact .inr (by simp at h ⊢; omega)
          have T6 := Lib.hid t6
          clear own6 gr6 hat6 hlt6 t5 t6
          go_wp2_with fail
          go_roundw
          case rel => exact ⟨k + 1, by omega, by go_num, T6⟩
          case measure => simp [intOf]; omega
      · as_aux_lemma =>
          have HE := Lib.hid (atE_no L k (by omega))
          have HU : Hid (iF (ahF O (atL L k) T) (k * 3 + 2) ((L k - 1 : Nat) : Int) = ahF O (atL L (k + 1)) T) := Lib.hid (by
            have := ahF_less O (atL L k) T k (by rw [atL_here]; omega) (by rw [atL_here]; omega)
            rw [atL_here, atL_step] at this
            exact this)
          have t1 := HT.out.setDR (i := 1) rfl (k * 3 + 2) ((L k - 1 : Nat) : Int) HU.out
          have T1 := Lib.hid (show Tk S w [obJ u3 (atE L k), obDR y b c q P D (ahF O (atL L (k + 1)) T)] (wr.setCell ⟨b, k * 3 + 2, none⟩ (.int .i64 ((L k - 1 : Nat) : Int))) from t1)
          have g2 := (t1.dr (i := 1) rfl).at_ (k * 3 + 2) (by omega)
          rw [ahF_l, show atL L (k + 1) k = L k - 1 by unfold atL; rw [if_pos (by omega)]] at g2
          have g1 := (t1.dr (i := 1) rfl).head
          rw [show ((L k - 1 : Nat) : Int) = (L k : Int) - 1 by omega] at T1 g2 g1
          have l1 : 2 ≤ (L k : Int) := by omega
          have l2 : (L k : Int) ≤ 8 := by omega
          have l3 : ((L k : Int) - 1 == 0) = false := by simp; omega
          clear t1 hr hl hl8 HU
          generalize (L k : Int) = l at *
          go_upto_region 7 with fail
          change Code.wp _ _ _ _ (wr.setCell ⟨b, k * 3 + 2, none⟩ (.int .i64 (l - 1)))
          generalize wr.setCell ⟨b, k * 3 + 2, none⟩ (.int .i64 (l - 1)) = w1 at *
          clear c2 f2 hc
          generalize l - 1 = m at *
          go_wp2_with fail
          go_roundw
          case rel => exact ⟨k + 1, by omega, by go_num, Lib.hid (by rw [HE.out]; exact T1.out)⟩
          case measure => simp [intOf]; omega
    · have e : k = D := by omega
      subst e
      clear hlt hr
      go_wp2_with fail
      go_ret
      exact ⟨_, rfl, HT.out⟩

section
variable {S : Nat → Prop} {W0 : World} {os : List Ob} {i y q P D : Nat} {O : Nat → Int} {L : Nat → Nat}
theorem tk_datick (w : World) (h : Tk S W0 os w) (hi : os[i]? = some (obDA y q P D O L)) :
    Calls Try.prog 15 #[.pointer (some ⟨y, 0, none⟩)] w fun e w' => ∃ v, e = .returned v ∧ Tk S W0 (obJ v (atE L D) :: os.set i (obDA y q P D O (atL L D))) w' := by
  obtain ⟨S1, ⟨⟨b, c, T⟩, hq, hs⟩, _, k⟩ := h.call hi
  refine (datick_any (T := T) w ⟨⟨hq.dc, hq.blk, hq.row⟩, hs⟩ hq.d4 hq.l8 hq.tt).mono ?_
  rintro e w' ⟨v, he, t⟩
  refine ⟨v, he, k w' _ [_] ?_⟩
  refine (t.wrap (ps := [obJ v (atE L D), obDA y q P D O (atL L D)]) (fun {S w} hh => ?_)).perm (.swap _ _ _)
  obtain ⟨S2, S3, h1, h2, d, ee⟩ := hh
  have h2 := obs_one.1 h2
  exact ⟨S2, S3, h1, obs_one.2 ⟨(b, c, T), ⟨hq.q1, hq.q8, hq.p4, hq.d4, atL_le hq.l8, fun j hj => hq.tt j (fun e0 => hj (by unfold atL; split <;> omega)), h2.1.dc, h2.1.blk, h2.1.row⟩, h2.2⟩, d, ee⟩
end
end Go.Proofs.Ytgamfejgpdampaa
