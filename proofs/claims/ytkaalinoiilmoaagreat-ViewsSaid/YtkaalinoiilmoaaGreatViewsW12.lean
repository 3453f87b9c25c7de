/-
  What the proofs lean on: contracts of the program's functions, plain facts.
-/
import Derived.StillTailTactics
import Derived.Test.YtkaalinoiilmoaaGreatViewsW11
import Derived.Deep.RegionLaw
import Derived.Deep.DrawnRows
import Derived.Test.YtkaalinoiilmoaaGreatViewsW5
import Derived.Test.YtkaalinoiilmoaaGreatViewsW10
namespace Go.Proofs.YtkaalinoiilmoaaGreat
open Go.RowKit Go.ChangeMaps
set_option linter.unusedVariables false
set_option maxRecDepth 100000
section
variable {y b c q P D : Nat} {O : Nat → Int} {L : Nat → Nat} {T : Nat → Int}
set_option maxHeartbeats 1000000 in
theorem damove_go (i : Nat) (t : Int) (w : World) (h : DA w y b c q P D O L T) (hi : i < D) (ht : adB P t = true) (hl : L i = 0) :
    Calls Tryz.prog 25 #[.pointer (some ⟨y, 0, none⟩), .int .i64 i, .int .i64 t] w fun e w' => e = .returned (.int .i64 0) ∧ DA w' y b c q P D (iF O i t) (uN L i q) (iF T i t) ∧ w.grownBy w' (some b) := by
  have H := Lib.hid h
  have hd : DA w.drew y b c q P D O L T := h.below (bdrewN (Below.refl _ _) 1)
  obtain ⟨cq, cP, hc⟩ := h.heads
  obtain ⟨_, _, c2⟩ := h.at_ i hi
  rw [hl] at c2
  have c2' : w.cell? ⟨b, i * 3 + 2, none⟩ = some (.int .i64 0) := c2
  obtain ⟨e0, e1, e2⟩ := hd.at_ i hi
  have f0 := hd.frozen (i * 3)
  have f1 := hd.frozen (i * 3 + 1)
  have f2 := hd.frozen (i * 3 + 2)
  have HS := Lib.hid (hd.set3 (O' := iF O i t) (L' := uN L i q) (T' := iF T i t) i (-1) t q (uN_le h.q8 h.l8) (fun j hj => by
    by_cases e : j = i
    · rw [iF_at e, iF_at e]
    · rw [uN_off e] at hj
      rw [iF_off e, iF_off e]
      exact h.tt j hj) (ahF_move O L T i t q (by have := h.q1; omega)))
  have HG := Lib.hid (gtrans (gof (bdrewN (Below.refl w.heap.size w) 1) (some b)) (set3A w.drew b (i * 3) (i * 3 + 1) (i * 3 + 2) (.int .i64 (-1)) (.int .i64 t) (.int .i64 (q : Int))))
  have hiI : (i : Int) < D := by omega
  have HB := Lib.hid (adB_nat hi)
  unfold adB at ht
  simp only [decide_eq_true_eq] at ht
  have t0 : decide (t < 0) = false := by simp; omega
  have t1 : decide ((P : Int) ≤ t) = false := by simp; omega
  clear ht hl h hd c2
  go_enter Tryz.func25, Tryz.ntmps25
  go_wp2_with fail
  refine (dathere_any _ _ H.out).mono ?_
  rintro e w' ⟨rfl, rfl⟩
  rw [HB.out]
  go_wp2_with fail
  go_still_tail 12, (by kernel_rfl)
  change wpList _ _ _ _ _ w.drew
  clear cq cP hc c2'
  generalize w.drew = wd at *
  go_wp2_with fail
  go_ret
  exact ⟨rfl, HS.out, HG.out⟩
theorem damove_any (d t : Int) (w : World) (h : DA w y b c q P D O L T) :
    Calls Tryz.prog 25 #[.pointer (some ⟨y, 0, none⟩), .int .i64 d, .int .i64 t] w fun e w' => e = .returned (.int .i64 (amC D P L d t)) ∧ (∃ T', DA w' y b c q P D (amO D P O L d t) (amL D P q L d t) T') ∧ w.grownBy w' (some b) := by
  rcases am_parts D P q O L d t with ⟨hb, e1, e2, e3⟩ | ⟨i, rfl, hi, ht, hl, e1, e2, e3⟩ | ⟨i, rfl, hi, ht, hl, e1, e2, e3⟩
  · rw [e1, e2, e3]
    exact (damove_no d t w h hb).mono fun e w' ⟨he, hw⟩ => ⟨he, hw ▸ ⟨_, h⟩, hw ▸ grefl _ _⟩
  · rw [e1, e2, e3]
    exact (damove_busy i t w h hi ht hl).mono fun e w' ⟨he, hw⟩ => ⟨he, hw ▸ ⟨_, h⟩, hw ▸ grefl _ _⟩
  · rw [e1, e2, e3]
    exact (damove_go i t w h hi ht hl).mono fun e w' ⟨he, hd, hg⟩ => ⟨he, ⟨_, hd⟩, hg⟩
end
section
variable {S : Nat → Prop} {W0 : World} {os : List Ob} {i y q P D : Nat} {O : Nat → Int} {L : Nat → Nat}
theorem tk_damove (d t : Int) (w : World) (h : Tk S W0 os w) (hi : os[i]? = some (obDA y q P D O L)) :
    Calls Tryz.prog 25 #[.pointer (some ⟨y, 0, none⟩), .int .i64 d, .int .i64 t] w fun e w' => e = .returned (.int .i64 (amC D P L d t)) ∧ Tk S W0 (os.set i (obDA y q P D (amO D P O L d t) (amL D P q L d t))) w' := by
  obtain ⟨b, c, T, hq, k⟩ := h.da hi
  exact (damove_any d t w hq).mono fun _ _ ⟨he, ⟨T', hp⟩, hg⟩ => ⟨he, k _ _ _ _ hp hg⟩
theorem tk_daowner (d : Int) (w : World) (h : Tk S W0 os w) (hi : os[i]? = some (obDA y q P D O L)) :
    Calls Tryz.prog 24 #[.pointer (some ⟨y, 0, none⟩), .int .i64 d] w fun e w' => e = .returned (.int .i64 (aoX D O L d)) ∧ w = w' := by
  obtain ⟨b, c, T, hq, _⟩ := h.da hi
  exact daowner_any d w hq
end
structure DR (w : World) (y b c q P D : Nat) (F : Nat → Int) : Prop where
  dc : D ≤ c
  blk : Blk w y 90 [.int .i64 q, .int .i64 P, .slice (some ⟨b, 0, none⟩) D c]
  row : w.ownsRow 0 87 3 (.slice (some ⟨b, 0, none⟩) D c) D (itc F (D * 3))
section
variable {w w' : World} {y b c q P D : Nat} {F : Nat → Int} {O : Nat → Int} {L : Nat → Nat} {T : Nat → Int}
theorem DR.apart (h : DR w y b c q P D F) : y ≠ b := fun e => own_apart_blk h.row h.blk (by decide) (by rw [e]; rfl)
theorem DR.head (h : DR w y b c q P D F) : w.cell? ⟨y, 2, none⟩ = some (.slice (some ⟨b, 0, none⟩) D c) := by rw [h.blk.cell]; rfl
theorem DR.at_ (h : DR w y b c q P D F) (k : Nat) (hk : k < D * 3) : w.cell? ⟨b, k, none⟩ = some (.int .i64 (F k)) := by rw [h.row.cellAt _ hk, itc_get _ _ _ hk]
theorem DR.frozen (h : DR w y b c q P D F) (i : Nat) : w.frozen? ⟨b, i, none⟩ = false := h.row.frozenAt i
theorem DR.lt (h : DR w y b c q P D F) : b < w.heap.size := (h.row.lt b rfl).2
theorem DR.set (h : DR w y b c q P D F) (k : Nat) (x : Int) : DR (w.setCell ⟨b, k, none⟩ (.int .i64 x)) y b c q P D (iF F k x) := by
  have r1 := (h.row.stored k (.int .i64 x)).1
  rw [itc_set] at r1
  exact ⟨h.dc, h.blk.far (p := ⟨b, k, none⟩) h.apart (.int .i64 x), r1⟩
end
def obDR (y b c q P D : Nat) (F : Nat → Int) : Ob :=
  ⟨fun S w => DR w y b c q P D F ∧ ∀ k, S k ↔ (k = y ∨ k = b), fun ⟨h, e⟩ hk hs => ⟨⟨h.dc, (hk y h.blk.lt ((e y).2 (.inl rfl))).trans h.blk, own_stay h.row (fun b' hb' => by
      have e' : b = b' := by simpa [Value.ownBlock] using hb'
      subst e'
      exact hk b h.lt ((e b).2 (.inr rfl)))⟩, e⟩, fun ⟨h, e⟩ hb => ((e _).1 hb).elim (fun e => e ▸ h.blk.lt) (fun e => e ▸ h.lt)⟩
section
variable {S : Nat → Prop} {W0 w w' : World} {os : List Ob} {i y b c q P D : Nat} {F F' : Nat → Int}
theorem Tk.dr (h : Tk S W0 os w) (hi : os[i]? = some (obDR y b c q P D F)) : DR w y b c q P D F := by obtain ⟨_, q, _⟩ := h.get hi; exact q.1
theorem Tk.setDR (h : Tk S W0 os w) (hi : os[i]? = some (obDR y b c q P D F)) (k : Nat) (x : Int) (hF : iF F k x = F') : Tk S W0 (os.set i (obDR y b c q P D F')) (w.setCell ⟨b, k, none⟩ (.int .i64 x)) := by
  obtain ⟨S1, q, _, kk⟩ := h.call hi
  have hp := q.1.set k x
  rw [hF] at hp
  exact kk _ _ [] ⟨S1, obs_one.2 ⟨hp, q.2⟩, fun _ _ h => h, (Fo.refl _ _).grown (gone (.int .i64 x)) (fun x hx => .inl ((q.2 x).2 (.inr (by injection hx with hx; exact hx.symm))))⟩
end
set_option maxHeartbeats 4000000 in
theorem datick_any {y b c q P D : Nat} {O : Nat → Int} {L : Nat → Nat} {T : Nat → Int} {S : Nat → Prop} (w : World) (hq : (obDR y b c q P D (ahF O L T)).Q S w) (d4 : D ≤ 4) (l8 : ∀ i, L i ≤ 8) (tt : ∀ i, L i ≠ 0 → T i = O i) :
    Calls Tryz.prog 26 #[.pointer (some ⟨y, 0, none⟩)] w fun e w' => ∃ v, e = .returned v ∧ Tk S w [obJ v (atE L D), obDR y b c q P D (ahF O (atL L D) T)] w' := by
  obtain ⟨i0, hi, hz0, hz1, hz2⟩ := info_parts infoIntA
  have HI := Lib.hid hi; have HZ0 := Lib.hid hz0; have HZ1 := Lib.hid hz1; have HZ2 := Lib.hid hz2
  clear hi hz0 hz1 hz2
  have T0 : Hid (Tk S w [obJ (.slice none 0 0) (atE L 0), obDR y b c q P D (ahF O (atL L 0) T)] w) := Lib.hid (by
    rw [atL_zero]
    exact (Tk.start1 hq).addR (v := .slice none 0 0) (n := 0) (xs := []) (Below.refl _ _) (World.ownsRow_nil _ _ _ _))
  clear hq
  go_enter Tryz.func26, Tryz.ntmps26
  go_wp2_with fail
  go_loopw [3, 4] (fun v i wr => ∃ (k : Nat), k ≤ D ∧ i = .int .i64 k ∧ Hid (Tk S w [obJ v (atE L k), obDR y b c q P D (ahF O (atL L k) T)] wr)) (fun _ i _ => 4 - (intOf i).toNat)
  case atStart => exact ⟨0, by omega, rfl, T0⟩
  case round =>
    clear T0
    obtain ⟨k, hkD, rfl, HT⟩ := hrel
    have hr := HT.out.dr (i := 1) rfl
    have hc := hr.head
    by_cases hlt : k < D
    · have hltI : (k : Int) < D := by omega
      have c2 := hr.at_ (k * 3 + 2) (by omega)
      rw [ahF_l, atL_here] at c2
      have f2 := hr.frozen (k * 3 + 2)
      have hlen := atE_len L k
      have hl8 := l8 k
      rcases (show L k = 0 ∨ L k = 1 ∨ 2 ≤ L k by omega) with hl | hl | hl
      · as_aux_lemma =>
          have HE := Lib.hid (atE_no L k (by omega))
          have HU : Hid (atL L k = atL L (k + 1)) := Lib.hid (by rw [← atL_step, show L k - 1 = atL L k k by rw [atL_here]; omega, uN_same])
          rw [hl] at c2
          have c3 : wr.cell? ⟨b, k * 3 + 2, none⟩ = some (.int .i64 0) := c2
          clear c2 f2 hl hl8 hr
          go_wp2_with fail
          go_roundw
          case rel => exact ⟨k + 1, by omega, by go_num, Lib.hid (by rw [HE.out, ← HU.out]; exact HT.out)⟩
          case measure => simp [intOf]; omega
      · as_aux_lemma =>
          have HE := Lib.hid (atE_yes L k hl)
          have tk := tt k (by omega)
          have HU : Hid (iF (iF (ahF O (atL L k) T) (k * 3 + 2) 0) (k * 3) (O k) = ahF O (atL L (k + 1)) T) := Lib.hid (by rw [ahF_last _ _ _ _ tk, ← atL_step, hl])
          rw [hl] at c2
          have c3 : wr.cell? ⟨b, k * 3 + 2, none⟩ = some (.int .i64 1) := c2
          have t1 := HT.out.setDR (i := 1) rfl (k * 3 + 2) 0 rfl
          have c0 := hr.at_ (k * 3 + 2) (by omega)
          clear c2 c0 hl hl8
          go_upto_region 7 with fail
          change Code.wp _ _ _ _ (wr.setCell ⟨b, k * 3 + 2, none⟩ (.int .i64 0))
          generalize wr.setCell ⟨b, k * 3 + 2, none⟩ (.int .i64 0) = w1 at *
          clear c3 f2 hc hr
          have hr := t1.dr (i := 1) rfl
          have hc := hr.head
          have g2 := hr.at_ (k * 3 + 2) (by omega)
          rw [iF_here] at g2
          have g1 := hr.at_ (k * 3 + 1) (by omega)
          rw [iF_off (by omega), ahF_t, tk] at g1
          have td := t1.drewN 1
          have g0 := (td.dr (i := 1) rfl).at_ (k * 3) (by omega)
          have f0 := (td.dr (i := 1) rfl).frozen (k * 3)
          have t3 := td.setDR (i := 1) rfl (k * 3) (O k) HU.out
          have T3 := Lib.hid (show Tk S w [obJ u3 (atE L k), obDR y b c q P D (ahF O (atL L (k + 1)) T)] (w1.drew.setCell ⟨b, k * 3, none⟩ (.int .i64 (O k))) from t3)
          clear t1 td t3 hr tk
          change w1.drew.cell? _ = _ at g0
          change w1.drew.frozen? _ = _ at f0
          generalize iF (ahF O (atL L k) T) (k * 3 + 2) 0 (k * 3) = X0 at g0
          go_wp2_with fail
          go_still_tail 15, (by kernel_rfl)
          change wpList _ _ _ _ _ w1.drew
          clear g1 g2 hc
          generalize w1.drew = w2 at *
          go_upto_region 9 with fail
          generalize w2.setCell ⟨b, k * 3, none⟩ (.int .i64 (O k)) = w4 at *
          have hbl : Below w4.heap.size w4 (w4.alloc (.cells #[.int .i64 (k : Int)] 3)) := (Below.refl _ _).alloc (Nat.le_refl _) _
          have BL := Lib.hid hbl
          clear hbl f0 g0
          go_wp2_with (at_builtin; refine wpList_append_lies _ rfl _ _ 44 rfl 0 3 i0 _ 1 8 Tryz.underlying44 HI.out HZ0.out HZ1.out HZ2.out rfl (by decide) u3 (atE L k).length (ints (atE L k)) rfl (own_below (T3.out.row (i := 0) rfl) BL.out) ⟨w4.heap.size, 0, none⟩ 1 1 [.int .i64 (k : Int)] rfl rfl (row_new w4 [.int .i64 (k : Int)] 3) (int1A (k : Int)) (by omega) (by unfold maxLen; omega) (by omega) (by omega) _ rfl ?_)
          intro gg cap6 w6 own6 gr6 hat6 hlt6
          have t5 := T3.out.next BL.out
          have t6 : Tk S w [obJ (.slice (some ⟨gg, 0, none⟩) ((atE L k).length + 1) cap6) (atE L (k + 1)), obDR y b c q P D (ahF O (atL L (k + 1)) T)] w6 := by
            refine t5.turnR (i := 0) rfl gr6 (by rw [HE.out, ints_append, List.length_append]; exact own6) (fun x hx => ?_)
            have e : gg = x := by simpa [Value.ownBlock] using hx
            subst e
            rcases hat6 with h | h
            · exact .inl h
            · exact .inr (by simp at h ⊢; omega)
          have T6 := Lib.hid t6
          clear own6 gr6 hat6 hlt6 t5 t6
          go_wp2_with fail
          go_roundw
          case rel => exact ⟨k + 1, by omega, by go_num, T6⟩
          case measure => simp [intOf]; omega
      · as_aux_lemma =>
          have HE := Lib.hid (atE_no L k (by omega))
          have HU : Hid (iF (ahF O (atL L k) T) (k * 3 + 2) ((L k - 1 : Nat) : Int) = ahF O (atL L (k + 1)) T) := Lib.hid (by
            have := ahF_less O (atL L k) T k (by rw [atL_here]; omega) (by rw [atL_here]; omega)
            rw [atL_here, atL_step] at this
            exact this)
          have t1 := HT.out.setDR (i := 1) rfl (k * 3 + 2) ((L k - 1 : Nat) : Int) HU.out
          have T1 := Lib.hid (show Tk S w [obJ u3 (atE L k), obDR y b c q P D (ahF O (atL L (k + 1)) T)] (wr.setCell ⟨b, k * 3 + 2, none⟩ (.int .i64 ((L k - 1 : Nat) : Int))) from t1)
          have g2 := (t1.dr (i := 1) rfl).at_ (k * 3 + 2) (by omega)
          rw [ahF_l, show atL L (k + 1) k = L k - 1 by unfold atL; rw [if_pos (by omega)]] at g2
          have g1 := (t1.dr (i := 1) rfl).head
          rw [show ((L k - 1 : Nat) : Int) = (L k : Int) - 1 by omega] at T1 g2 g1
          have l1 : 2 ≤ (L k : Int) := by omega
          have l2 : (L k : Int) ≤ 8 := by omega
          have l3 : ((L k : Int) - 1 == 0) = false := by simp; omega
          clear t1 hr hl hl8 HU
          generalize (L k : Int) = l at *
          go_upto_region 7 with fail
          change Code.wp _ _ _ _ (wr.setCell ⟨b, k * 3 + 2, none⟩ (.int .i64 (l - 1)))
          generalize wr.setCell ⟨b, k * 3 + 2, none⟩ (.int .i64 (l - 1)) = w1 at *
          clear c2 f2 hc
          generalize l - 1 = m at *
          go_wp2_with fail
          go_roundw
          case rel => exact ⟨k + 1, by omega, by go_num, Lib.hid (by rw [HE.out]; exact T1.out)⟩
          case measure => simp [intOf]; omega
    · have e : k = D := by omega
      subst e
      clear hlt hr
      go_wp2_with fail
      go_ret
      exact ⟨_, rfl, HT.out⟩
section
variable {S : Nat → Prop} {W0 : World} {os : List Ob} {i y q P D : Nat} {O : Nat → Int} {L : Nat → Nat}
theorem tk_datick (w : World) (h : Tk S W0 os w) (hi : os[i]? = some (obDA y q P D O L)) :
    Calls Tryz.prog 26 #[.pointer (some ⟨y, 0, none⟩)] w fun e w' => ∃ v, e = .returned v ∧ Tk S W0 (obJ v (atE L D) :: os.set i (obDA y q P D O (atL L D))) w' := by
  obtain ⟨S1, ⟨⟨b, c, T⟩, hq, hs⟩, _, k⟩ := h.call hi
  refine (datick_any (T := T) w ⟨⟨hq.dc, hq.blk, hq.row⟩, hs⟩ hq.d4 hq.l8 hq.tt).mono ?_
  rintro e w' ⟨v, he, t⟩
  refine ⟨v, he, k w' _ [_] ?_⟩
  refine (t.wrap (ps := [obJ v (atE L D), obDA y q P D O (atL L D)]) (fun {S w} hh => ?_)).perm (.swap _ _ _)
  obtain ⟨S2, S3, h1, h2, d, ee⟩ := hh
  have h2 := obs_one.1 h2
  exact ⟨S2, S3, h1, obs_one.2 ⟨(b, c, T), ⟨hq.q1, hq.q8, hq.p4, hq.d4, atL_le hq.l8, fun j hj => hq.tt j (fun e0 => hj (by unfold atL; split <;> omega)), h2.1.dc, h2.1.blk, h2.1.row⟩, h2.2⟩, d, ee⟩
end
end Go.Proofs.YtkaalinoiilmoaaGreat
namespace Go.Proofs.YtkaalinoiilmoaaGreat
open Go.RowKit Go.ChangeMaps
set_option linter.unusedVariables false
set_option maxRecDepth 100000
attribute [local go_sem ↓] Go.wp_at_zero Go.wp_at_succ
theorem infoHeld : (Tryz.prog.info? 87).map (fun i => (i.zero, i.size, i.bytes)) = some (some (.agg #[.int .i64 0, .int .i64 0, .int .i64 0]), 3, 24) := by kernel_rfl
theorem itc_three (f : Nat → Int) (N : Nat) : itc f (N + 3) = itc f N ++ [.int .i64 (f N), .int .i64 (f (N + 1)), .int .i64 (f (N + 2))] := by
  unfold itc
  rw [show N + 3 = N + 1 + 1 + 1 by omega, List.range_succ, List.range_succ, List.range_succ]
  simp
def nwF (zs : List Int) (k : Nat) : Nat → Int := ahF (zO zs k) noN noI
theorem nwF_step (zs : List Int) (k : Nat) : itc (nwF zs (k + 1)) ((k + 1) * 3) = itc (nwF zs k) (k * 3) ++ [.int .i64 (zs.getD k 0), .int .i64 0, .int .i64 0] := by
  rw [show (k + 1) * 3 = k * 3 + 3 by omega, itc_three]
  have e0 : nwF zs (k + 1) (k * 3) = zs.getD k 0 := by
    unfold nwF; rw [ahF_o]
    show (if (0 : Nat) = 0 then zO zs (k + 1) k else -1) = _
    rw [if_pos rfl]; unfold zO; rw [if_pos (by omega)]
  have e1 : nwF zs (k + 1) (k * 3 + 1) = 0 := by unfold nwF; rw [ahF_t]; rfl
  have e2 : nwF zs (k + 1) (k * 3 + 2) = 0 := by unfold nwF; rw [ahF_l]; rfl
  rw [e0, e1, e2]
  congr 1
  apply itc_congr
  intro i hi
  unfold nwF
  rw [ahF_def, ahF_def]
  have : zO zs (k + 1) (i / 3) = zO zs k (i / 3) := by unfold zO; rw [if_pos (by omega), if_pos (by omega)]
  rw [this]
theorem three_one (x y z : Int) : ∀ u ∈ [Value.int .i64 x, .int .i64 y, .int .i64 z], u.oneCell' = true := by
  intro u hu
  simp only [List.mem_cons, List.not_mem_nil, or_false] at hu
  rcases hu with rfl | rfl | rfl <;> rfl
def nwOs (y q P : Nat) (u : Value) (zs : List Int) (k : Nat) : List Ob := [obR 87 3 u k (itc (nwF zs k) (k * 3)), obB y 90 [.int .i64 q, .int .i64 P, u]]
theorem nw_at {w1 w2 : World} {y q P n : Nat} {v : Value} {xs : List Value} {o : Obj} (own : w1.ownsRow 0 87 3 v n xs) (hb : Blk w1 y 90 [.int .i64 q, .int .i64 P, v]) (gr : (w1.alloc o).drew.grownBy w2 v.ownBlock) : w2.cell? ⟨y, 2, none⟩ = some v ∧ w2.frozen? ⟨y, 2, none⟩ = false := by
  have hb2 : Blk w2 y _ _ := (show Blk (w1.alloc o).drew y _ _ from (hb.alloc o).drewN 1).grown gr (fun e => own_apart_blk own hb (by decide) e.symm)
  exact ⟨by rw [hb2.cell]; rfl, hb2.frozen 2⟩
set_option maxHeartbeats 4000000 in
theorem danew_any (q P : Nat) (v : Value) (n : Nat) (zs : List Int) (w : World) (hv : Sl w v n 1 (ints zs)) (q1 : 1 ≤ q) (q8 : q ≤ 8) (p1 : 1 ≤ P) (p4 : P ≤ 4) (n1 : 1 ≤ n) (n4 : n ≤ 4) :
    Calls Tryz.prog 46 #[.int .i64 q, .int .i64 P, v] w fun e w' => (∃ y, e = .returned (.tuple #[.pointer (some ⟨y, 0, none⟩), .int .i64 0]) ∧ Tk nos w [obDA y q P n (zO zs n) noN] w' ∧ ∀ j, j < n → adB P (zs.getD j 0) = true) ∨ (e = .returned (.tuple #[.pointer none, .int .i64 1500]) ∧ Below w.heap.size w w' ∧ ∃ j, j < n ∧ adB P (zs.getD j 0) = false) := by
  obtain ⟨A, cap, rfl⟩ : ∃ A cap, v = .slice A n cap := by obtain ⟨A, c, e, _⟩ := hv; exact ⟨A, c, e⟩
  have HV := Lib.hid hv; clear hv
  obtain ⟨i0, hi, hz0, hz1, hz2⟩ := info_parts infoHeld
  have HI := Lib.hid hi; have HZ0 := Lib.hid hz0; have HZ1 := Lib.hid hz1; have HZ2 := Lib.hid hz2
  clear hi hz0 hz1 hz2
  have d1 : decide ((q : Int) < 1) = false := by simp; omega
  have d2 : decide ((8 : Int) < q) = false := by simp; omega
  have d3 : decide ((P : Int) < 1) = false := by simp; omega
  have d4 : decide ((4 : Int) < P) = false := by simp; omega
  have d5 : decide ((n : Int) < 1) = false := by simp; omega
  have d6 : decide ((4 : Int) < n) = false := by simp; omega
  have T0 : Hid (∃ u, Tk nos w (nwOs w.heap.size q P u zs 0) (w.alloc (.cells #[.int .i64 q, .int .i64 P, .slice none 0 0] 90))) := Lib.hid (by
    have t := (Tk.empty w).alloc 90 [.int .i64 q, .int .i64 P, .slice none 0 0]
    exact ⟨.slice none 0 0, t.addR (v := .slice none 0 0) (n := 0) (xs := []) (Below.refl _ _) (World.ownsRow_nil _ _ _ _)⟩)
  go_enter Tryz.func46, Tryz.ntmps46
  go_wp2_with fail
  change Code.wp _ _ _ _ (w.alloc (.cells #[.int .i64 q, .int .i64 P, .slice none 0 0] 90))
  generalize w.alloc (.cells #[.int .i64 q, .int .i64 P, .slice none 0 0] 90) = w1 at *
  generalize w.heap.size = y at *
  clear d1 d2 d3 d4 d5 d6
  go_loopw [9] (fun i wr => ∃ (k : Nat), k ≤ n ∧ i = .int .i64 k ∧ Hid (∃ u, Tk nos w (nwOs y q P u zs k) wr) ∧ ∀ j, j < k → adB P (zs.getD j 0) = true) (fun i _ => 4 - (intOf i).toNat)
  case atStart => exact ⟨0, by omega, rfl, T0, fun j hj => absurd hj (by omega)⟩
  case round =>
    clear T0
    obtain ⟨k, hkn, rfl, HT, hgood⟩ := hrel
    obtain ⟨u, tk⟩ := HT.out
    by_cases hlt : k < n
    · have hltI : (k : Int) < n := by omega
      have hsl := HV.out.below tk.below
      obtain ⟨b, o, cap', e, hbw, hcell⟩ := sli_at hsl k hlt
      simp only [Value.slice.injEq] at e
      obtain ⟨rfl, -, -⟩ := e
      have HZ := Lib.hid (nwF_step zs k)
      obtain ⟨z, hzz⟩ : ∃ z, zs.getD k 0 = z := ⟨_, rfl⟩
      rw [hzz] at hcell HZ
      clear hsl HT
      cases hgz : adB P z with
      | false =>
        have HX : Hid (∃ j, j < n ∧ adB P (zs.getD j 0) = false) := Lib.hid ⟨k, hlt, by rw [hzz]; exact hgz⟩
        have BX := Lib.hid tk.below
        have hz : z < 0 ∨ (decide (z < 0) = false ∧ (P : Int) ≤ z) := by
          unfold adB at hgz
          simp only [decide_eq_false_iff_not] at hgz ⊢
          omega
        clear hgz hzz hgood tk
        rcases hz with hz | ⟨hz, hz2⟩
        all_goals
          go_wp2_with fail
          go_ret2
          exact .inr ⟨rfl, BX.out, HX.out⟩
      | true =>
        have HX : Hid (∀ j, j < k + 1 → adB P (zs.getD j 0) = true) := Lib.hid (fun j hj => by
          by_cases e : j = k
          · subst e; rw [hzz]; exact hgz
          · exact hgood j (by omega))
        unfold adB at hgz
        simp only [decide_eq_true_eq] at hgz
        have z0 : decide (z < 0) = false := by simp; omega
        have z1 : decide ((P : Int) ≤ z) = false := by simp; omega
        clear hgz hzz hgood
        obtain ⟨A4, c4, hu, -⟩ := tk.sl (i := 0) rfl
        subst hu
        have HTK := Lib.hid tk
        have hbk := tk.blk (i := 1) rfl
        have hc := hbk.cell 2
        have hfz := hbk.frozen 2
        have hca := (hbk.alloc (.cells #[.int .i64 z, .int .i64 0, .int .i64 0] 87)).cell 2
        simp only [List.getElem?_cons_zero, List.getElem?_cons_succ] at hc hca
        have HOW := Lib.hid (tk.row (i := 0) rfl)
        have HBK := Lib.hid hbk
        clear tk hbk
        go_upto_region 9 with fail
        go_region_law ((refine step_append_lies _ (by rfl) _ _ 88 (by rfl) 0 87 i0 _ 3 24 Tryz.underlying88 HI.out HZ0.out HZ1.out HZ2.out (by rfl) (by decide) (.slice A4 k c4) k (itc (nwF zs k) (k * 3)) (by rfl) (own_drewN (HOW.out.alloc _) 1) ⟨wr.heap.size, 0, none⟩ 1 1 [.int .i64 z, .int .i64 0, .int .i64 0] (by rfl) (by rfl) (by exact row_new wr [.int .i64 z, .int .i64 0, .int .i64 0] _) (three_one _ _ _) (by omega) (by unfold maxLen; omega) (by omega) (by simp) (wr.heap.size + 1) (by simp) ?_; intro g cap2 w2 own2 gr2 hat hlt2; obtain ⟨hc2, hf2⟩ := nw_at HOW.out HBK.out gr2))
        all_goals
          have t1 := (HTK.out.alloc 87 [.int .i64 z, .int .i64 0, .int .i64 0]).drewN 1
          have t2 := t1.turnR (i := 1) (n' := k + 1) (xs' := itc (nwF zs (k + 1)) ((k + 1) * 3)) rfl gr2 (by rw [HZ.out]; exact own2) (fun x hx => by
            have e : g = x := by simpa [Value.ownBlock] using hx
            subst e
            rcases hat with h | h
            · exact .inl h
            · exact .inr (by show (wr.alloc _).heap.size ≤ g; simp at h ⊢; omega))
          have t3 := t2.store (i := 2) rfl 2 (.slice (some ⟨g, 0, none⟩) (k + 1) cap2)
          have T3 := Lib.hid (show Tk nos w (nwOs y q P (.slice (some ⟨g, 0, none⟩) (k + 1) cap2) zs (k + 1)) (w2.setCell ⟨y, 2, none⟩ (.slice (some ⟨g, 0, none⟩) (k + 1) cap2)) from t3.tail)
          clear t1 t2 t3 own2 gr2 hat hlt2 hc2 hf2 hc hfz hca
          go_wp2_with fail
          go_roundw
          case rel => exact ⟨k + 1, by omega, by go_num, Lib.hid ⟨_, T3.out⟩, HX.out⟩
          case measure => simp [intOf]; omega
    · have e : k = n := by omega
      subst e
      have HG := Lib.hid hgood
      obtain ⟨g, c, e, -⟩ := (tk.row (i := 0) rfl).form (by omega)
      have hcap : k ≤ c := by
        obtain ⟨A5, c5, e5, h5, -⟩ := tk.sl (i := 0) rfl
        rw [e] at e5
        simp only [Value.slice.injEq] at e5
        omega
      have HE : Hid (Tk nos w [obDA y q P k (zO zs k) noN] wr) := Lib.hid (tk.wrap1 (fun {S w} hh => by
        obtain ⟨S1, S2, h1, h2, d, ee⟩ := hh
        have h2 := obs_one.1 h2
        subst e
        refine ⟨(g, c, noI), ⟨q1, q8, p4, n4, fun i => by unfold noN; omega, fun i hi => absurd rfl hi, hcap, h2.1, h1.1⟩, fun x => ?_⟩
        rw [ee, h1.2, h2.2]
        simp [Value.ownBlock, eq_comm, or_comm]))
      clear hgood hlt tk e HT
      go_wp2_with fail
      go_ret2
      exact .inl ⟨y, rfl, HE.out, HG.out⟩
end Go.Proofs.YtkaalinoiilmoaaGreat
namespace Go.Proofs.YtkaalinoiilmoaaGreat
open Go.RowKit Go.ChangeMaps
set_option linter.unusedVariables false
set_option linter.unusedSimpArgs false
set_option maxRecDepth 100000
theorem danew_yes (q P : Nat) (v : Value) (n : Nat) (zs : List Int) (w : World) (hv : Sl w v n 1 (ints zs)) (q1 : 1 ≤ q) (q8 : q ≤ 8) (p1 : 1 ≤ P) (p4 : P ≤ 4) (n1 : 1 ≤ n) (n4 : n ≤ 4) (hz : ∀ j, j < n → adB P (zs.getD j 0) = true) :
    Calls Tryz.prog 46 #[.int .i64 q, .int .i64 P, v] w fun e w' => ∃ g, e = .returned (.tuple #[.pointer (some ⟨g, 0, none⟩), .int .i64 0]) ∧ Tk nos w [obDA g q P n (zO zs n) noN] w' :=
  (danew_any q P v n zs w hv q1 q8 p1 p4 n1 n4).mono fun e w' h => by
    rcases h with ⟨g, he, t, _⟩ | ⟨_, _, j, hj, hb⟩
    · exact ⟨g, he, t⟩
    · rw [hz j hj] at hb; cases hb
def callB (k : Int) : Bool := decide (5 ≤ k ∧ k ≤ 16)
theorem rcall_any (k : Int) (w : World) : Calls Tryz.prog 23 #[.int .i64 k] w fun e w' => e = .returned (.bool (callB k)) ∧ w = w' := by
  by_cases h0 : 5 ≤ k
  · by_cases h1 : k ≤ 16
    · have HR := Lib.hid (show callB k = true from decide_eq_true ⟨h0, h1⟩)
      have hd : decide (k ≤ 16) = true := decide_eq_true h1
      clear h1
      go_enter Tryz.func23, Tryz.ntmps23
      go_wp2
      go_ret
      exact ⟨by rw [HR.out]; rfl, rfl⟩
    · have HR := Lib.hid (show callB k = false from decide_eq_false (fun h => h1 h.2))
      have hd : decide (k ≤ 16) = false := decide_eq_false h1
      clear h1
      go_enter Tryz.func23, Tryz.ntmps23
      go_wp2
      go_ret
      exact ⟨by rw [HR.out]; rfl, rfl⟩
  · have HR := Lib.hid (show callB k = false from decide_eq_false (fun h => h0 h.1))
    have h2 : k < 5 := by omega
    clear h0
    go_enter Tryz.func23, Tryz.ntmps23
    go_wp2
    go_ret
    exact ⟨by rw [HR.out]; rfl, rfl⟩
theorem Tk.put7 {S : Nat → Prop} {W0 w : World} {os : List Ob} {z : Nat} {x : Stp} (h : Tk S W0 (obB z 48 (stc x) :: os) w) : Tk S W0 (obB z 48 (stc stD) :: os) (((((((w.setCell ⟨z, 0, none⟩ (.int .i64 0)).setCell ⟨z, 1, none⟩ (.int .i64 0)).setCell ⟨z, 2, none⟩ (.int .i64 0)).setCell ⟨z, 3, none⟩ (.int .i64 0)).setCell ⟨z, 4, none⟩ (.int .i64 0)).setCell ⟨z, 5, none⟩ (.int .i64 0)).setCell ⟨z, 6, none⟩ (.string ⟨#[]⟩)) :=
  ((((((h.store (i := 0) rfl 0 (.int .i64 0)).store (i := 0) rfl 1 (.int .i64 0)).store (i := 0) rfl 2 (.int .i64 0)).store (i := 0) rfl 3 (.int .i64 0)).store (i := 0) rfl 4 (.int .i64 0)).store (i := 0) rfl 5 (.int .i64 0)).store (i := 0) rfl 6 (.string ⟨#[]⟩)
theorem flB_flI {c : Cf} (h : cfMay c = true) {p : Nat} (hp : p < c.ps.length) (x : Int) : flB c x p = flI c x p := by unfold flB; rw [h, inP_at hp]; simp
section
variable {w : World} {c : Cf} {vp vd vw vg : Value}
set_option maxHeartbeats 2000000 in
theorem rowners_any (hc : CfAt w vp vd vw vg c) (hm : cfMay c = true) :
    Calls Tryz.prog 22 #[.agg #[.int .i64 c.fr, vp, vd, .int .i64 c.mj, vw, vg, .int .i64 c.se, .int .i64 c.qu, .int .i64 c.qt]] w fun e w' => ∃ g, e = .returned (.pointer (some ⟨g, 0, none⟩)) ∧ Tk nos w [obDA g c.qt.toNat c.ps.length c.ds.length (zO (c.ds.map (·.pt)) c.ds.length) noN] w' := by
  obtain ⟨i0, hi, hz0, hz1, hz2⟩ := info_parts infoIntA
  have HI := Lib.hid hi; have HZ0 := Lib.hid hz0; have HZ1 := Lib.hid hz1; have HZ2 := Lib.hid hz2
  clear hi hz0 hz1 hz2
  obtain ⟨p1, p4, d1, d4⟩ := cfMay_n hm
  obtain ⟨u1, u8⟩ := cfMay_q hm
  have hdv := Lib.hid (cfMay_dv hm)
  obtain ⟨Ap, cap, rfl, _⟩ := hc.ps
  obtain ⟨A, cad, b, o, sv, rfl, hA, hr⟩ := hc.ds.rows
  obtain ⟨rfl, hb⟩ := hA (by omega)
  have HR := Lib.hid (fun i hi => And.intro (hr i hi).1 (show ∃ A2 n2 c2, sv i = .slice A2 n2 c2 by obtain ⟨A2, c2, e, _⟩ := (hr i hi).2; exact ⟨_, _, _, e⟩))
  clear hr hA hm
  have hk : Blk (w.alloc (.cells #[.int .i64 c.fr, .slice Ap c.ps.length cap, .slice (some ⟨b, o, none⟩) c.ds.length cad, .int .i64 c.mj, vw, vg, .int .i64 c.se, .int .i64 c.qu, .int .i64 c.qt] 27)) w.heap.size 27 (cfc c (.slice Ap c.ps.length cap) (.slice (some ⟨b, o, none⟩) c.ds.length cad) vw vg) := (cf_box w c _ _ vw vg).1
  have T0 : Hid (Tk nos w [obJ (.slice none 0 0) ((c.ds.map (·.pt)).take 0), obB w.heap.size 27 (cfc c (.slice Ap c.ps.length cap) (.slice (some ⟨b, o, none⟩) c.ds.length cad) vw vg)] (w.alloc (.cells #[.int .i64 c.fr, .slice Ap c.ps.length cap, .slice (some ⟨b, o, none⟩) c.ds.length cad, .int .i64 c.mj, vw, vg, .int .i64 c.se, .int .i64 c.qu, .int .i64 c.qt] 27))) := Lib.hid
    (((Tk.empty w).alloc 27 (cfc c (.slice Ap c.ps.length cap) (.slice (some ⟨b, o, none⟩) c.ds.length cad) vw vg)).addR (v := .slice none 0 0) (n := 0) (xs := []) (Below.refl _ _) (World.ownsRow_nil _ _ _ _))
  have HL := Lib.hid (show (c.ds.map (·.pt)).length = c.ds.length by simp)
  have HE := Lib.hid (fun k (h : k < c.ds.length) => show (c.ds.map (·.pt)).take (k + 1) = (c.ds.map (·.pt)).take k ++ [(c.ds.getD k deD).pt] by
    rw [List.take_succ_eq_append_getElem (by simpa using h)]; simp [List.getD, List.getElem?_eq_getElem h])
  obtain ⟨q0, q1, q2, q3, q4, q5, q6, q7, q8⟩ := cf_at hk
  obtain ⟨U, hU⟩ : ∃ U : Nat, c.qt = U := ⟨c.qt.toNat, by omega⟩
  have HUq := Lib.hid hU
  clear hk hc hU
  generalize c.ds.map (·.pt) = P at *
  go_enter Tryz.func22, Tryz.ntmps22
  go_wp2_with fail
  generalize w.alloc (.cells #[.int .i64 c.fr, .slice Ap c.ps.length cap, .slice (some ⟨b, o, none⟩) c.ds.length cad, .int .i64 c.mj, vw, vg, .int .i64 c.se, .int .i64 c.qu, .int .i64 c.qt] 27) = w1 at *
  have HB := Lib.hid hb
  clear hb
  generalize hd : c.ds.length = D at *
  have HD := Lib.hid hd
  clear hd
  generalize hy : w.heap.size = y at *
  have HY := Lib.hid hy
  clear hy q0 q1 q2 q3 q4 q5 q6 q7 q8
  go_loopw [3, 4] (fun v i wr => ∃ (k : Nat), k ≤ D ∧ i = .int .i64 k ∧ Hid (Tk nos w [obJ v (P.take k), obB y 27 (cfc c (.slice Ap c.ps.length cap) (.slice (some ⟨b, o, none⟩) D cad) vw vg)] wr)) (fun _ i _ => 4 - (intOf i).toNat)
  case atStart => exact ⟨0, by omega, rfl, T0⟩
  case round =>
    clear T0
    obtain ⟨k, hkD, rfl, HT⟩ := hrel
    by_cases hlt : k < D
    · have hltI : (k : Int) < D := by omega
      have hbel := HT.out.below
      have hsz := hbel.size
      have r0 := (hbel.cell (p := ⟨b, o + k * 2, none⟩) (by rw [HY.out]; exact HB.out)).trans (HR.out k hlt).1.1
      have r1 := (hbel.cell (p := ⟨b, o + k * 2 + 1, none⟩) (by rw [HY.out]; exact HB.out)).trans (HR.out k hlt).1.2
      have HEk := Lib.hid (HE.out k hlt)
      have T1 := HT
      have hlen : (P.take k).length ≤ 4 := by rw [List.length_take]; omega
      generalize (c.ds.getD k deD).pt = pt at *
      obtain ⟨q0, q1, q2, q3, q4, q5, q6, q7, q8⟩ := cf_at (HT.out.blk (i := 1) rfl)
      clear hbel hsz r1
      generalize hlk : P.take k = lk at *
      clear hlk
      have BL := Lib.hid (show Below wr.heap.size wr (wr.alloc (.cells #[.int .i64 pt] 3)) from (Below.refl _ _).alloc (Nat.le_refl _) _)
      go_wp2_with (at_builtin; refine wpList_append_lies _ rfl _ _ 44 rfl 0 3 i0 _ 1 8 Tryz.underlying44 HI.out HZ0.out HZ1.out HZ2.out rfl (by decide) u3 lk.length (ints lk) rfl (own_below (T1.out.row (i := 0) rfl) BL.out) ⟨wr.heap.size, 0, none⟩ 1 1 [.int .i64 pt] rfl rfl (row_new wr [.int .i64 pt] 3) (int1A pt) (by omega) (by unfold maxLen; omega) (by omega) (by omega) _ rfl ?_)
      intro gg cap6 w6 own6 gr6 hat6 hlt6
      have t5 := T1.out.next BL.out
      have t6 : Tk nos w [obJ (.slice (some ⟨gg, 0, none⟩) (lk.length + 1) cap6) (P.take (k + 1)), obB y 27 (cfc c (.slice Ap c.ps.length cap) (.slice (some ⟨b, o, none⟩) D cad) vw vg)] w6 := by
        refine t5.turnR (i := 0) rfl gr6 (by rw [HEk.out, ints_append, List.length_append]; exact own6) (fun x hx => ?_)
        have e : gg = x := by simpa [Value.ownBlock] using hx
        subst e
        rcases hat6 with h | h
        · exact .inl h
        · exact .inr (by simp at h ⊢; omega)
      have T6 := Lib.hid t6
      clear own6 gr6 hat6 hlt6 t5 t6 r0
      go_wp2_with fail
      go_roundw
      case rel => exact ⟨k + 1, by omega, by go_num, T6⟩
      case measure => simp [intOf]; omega
    · obtain rfl : k = D := by omega
      obtain ⟨q0, q1, q2, q3, q4, q5, q6, q7, q8⟩ := cf_at (HT.out.blk (i := 1) rfl)
      go_wp2_with fail
      rw [HUq.out]
      have hP : P.take k = P := List.take_of_length_le (by rw [HL.out]; omega)
      rw [hP] at HT
      have hkP := HL.out
      have hS := HT.out.sl (i := 0) rfl
      refine (danew_yes U c.ps.length u3 k P wr (by rw [← hkP]; exact hS) (by have := HUq.out; omega) (by have := HUq.out; omega) p1 p4 d1 d4 hdv.out).mono ?_
      rintro e w5 ⟨g, rfl, t5⟩
      have T5 := Lib.hid ((HT.out.add t5).sub (List.Sublist.cons_cons _ (List.nil_sublist _)) : Tk nos w [obDA g U c.ps.length k (zO P k) noN] w5)
      clear hS t5 hkP hP q0 q1 q2 q3 q4 q5 q6 q7 q8
      go_wp2_with fail
      go_ret
      exact ⟨g, rfl, by rw [HUq.out, HD.out]; exact T5.out⟩
set_option maxHeartbeats 2000000 in
theorem rpurge_no (hc : CfAt w vp vd vw vg c) (v : Value) (p : Int) (hno : ¬ (cfMay c = true ∧ inP c.ps.length p = true)) :
    Calls Tryz.prog 7 #[.agg #[.int .i64 c.fr, vp, vd, .int .i64 c.mj, vw, vg, .int .i64 c.se, .int .i64 c.qu, .int .i64 c.qt], v, .int .i64 p] w fun e w' => e = .returned (.tuple #[.slice none 0 0, .int .i64 2300]) ∧ Below w.heap.size w w' := by
  obtain ⟨Ap, capp, rfl, -⟩ := hc.ps
  have hpz := hc.pz.1
  obtain ⟨hb, hB⟩ := cf_box w c (.slice Ap c.ps.length capp) vd vw vg
  have HV := Lib.hid hb; have HB := Lib.hid hB; have HA := Lib.hid (hc.below hB)
  have HM := Lib.hid (rcmay_any HA.out)
  obtain ⟨q0, q1, q2, q3, q4, q5, q6, q7, q8⟩ := cf_at hb
  clear hb hB hc
  generalize hn : c.ps.length = n0 at *
  cases hm : cfMay c with
  | false =>
    rw [hm] at HM
    clear hm hno
    go_enter Tryz.func7, Tryz.ntmps7
    go_wp2_with fail
    generalize w.alloc (.cells #[.int .i64 c.fr, .slice Ap n0 capp, vd, .int .i64 c.mj, vw, vg, .int .i64 c.se, .int .i64 c.qu, .int .i64 c.qt] 27) = w1 at *
    refine HM.out.mono ?_
    rintro e w2 ⟨rfl, b2⟩
    have HB2 := Lib.hid b2
    obtain ⟨q0, q1, q2, q3, q4, q5, q6, q7, q8⟩ := cf_at (HV.out.below b2 HV.out.lt)
    clear b2
    go_wp2_with fail
    go_ret2
    exact ⟨rfl, Below.down HB.out HB2.out HB.out.size⟩
  | true =>
    rw [hm] at HM
    have hp : inP n0 p = false := by
      cases h : inP n0 p with
      | false => rfl
      | true => exact absurd ⟨hm, h⟩ hno
    clear hm hno
    rcases inP_no hp with h1 | ⟨h1, h2⟩
    · clear hp
      go_enter Tryz.func7, Tryz.ntmps7
      go_wp2_with fail
      generalize w.alloc (.cells #[.int .i64 c.fr, .slice Ap n0 capp, vd, .int .i64 c.mj, vw, vg, .int .i64 c.se, .int .i64 c.qu, .int .i64 c.qt] 27) = w1 at *
      refine HM.out.mono ?_
      rintro e w2 ⟨rfl, b2⟩
      have HB2 := Lib.hid b2
      obtain ⟨q0, q1, q2, q3, q4, q5, q6, q7, q8⟩ := cf_at (HV.out.below b2 HV.out.lt)
      clear b2
      go_wp2_with fail
      go_ret2
      exact ⟨rfl, Below.down HB.out HB2.out HB.out.size⟩
    · clear hp
      have t1 : decide (p < 0) = false := by simp; omega
      go_enter Tryz.func7, Tryz.ntmps7
      go_wp2_with fail
      generalize w.alloc (.cells #[.int .i64 c.fr, .slice Ap n0 capp, vd, .int .i64 c.mj, vw, vg, .int .i64 c.se, .int .i64 c.qu, .int .i64 c.qt] 27) = w1 at *
      refine HM.out.mono ?_
      rintro e w2 ⟨rfl, b2⟩
      have HB2 := Lib.hid b2
      obtain ⟨q0, q1, q2, q3, q4, q5, q6, q7, q8⟩ := cf_at (HV.out.below b2 HV.out.lt)
      clear b2
      go_wp2_with fail
      go_ret2
      exact ⟨rfl, Below.down HB.out HB2.out HB.out.size⟩
structure RpS (w1 : World) (c : Cf) (vp vd vw vg : Value) (y z : Nat) (x : Stp) (os : List Ob) (w' : World) : Prop where
  tk : Tk nos w1 (obB z 48 (stc x) :: os) w'
  cb : Blk w' y 27 (cfc c vp vd vw vg)
theorem RpS.next {w1 w' w2 : World} {c : Cf} {vp vd vw vg : Value} {y z : Nat} {x : Stp} {os : List Ob} (h : RpS w1 c vp vd vw vg y z x os w') (hb : Below w'.heap.size w' w2) : RpS w1 c vp vd vw vg y z x os w2 := ⟨h.tk.next hb, h.cb.below hb h.cb.lt⟩
theorem RpS.drew {w1 w' : World} {c : Cf} {vp vd vw vg : Value} {y z : Nat} {x : Stp} {os : List Ob} (h : RpS w1 c vp vd vw vg y z x os w') : RpS w1 c vp vd vw vg y z x os w'.drew := h.next (bdrewN (Below.refl _ _) 1)
theorem RpS.all {w1 w' : World} {c : Cf} {vp vd vw vg : Value} {y z : Nat} {x : Stp} {os : List Ob} (h : RpS w1 c vp vd vw vg y z x os w') : (w'.cell? ⟨y, 0, none⟩ = some (.int .i64 c.fr) ∧ w'.cell? ⟨y, 1, none⟩ = some vp ∧ w'.cell? ⟨y, 2, none⟩ = some vd ∧ w'.cell? ⟨y, 3, none⟩ = some (.int .i64 c.mj) ∧ w'.cell? ⟨y, 4, none⟩ = some vw ∧ w'.cell? ⟨y, 5, none⟩ = some vg ∧ w'.cell? ⟨y, 6, none⟩ = some (.int .i64 c.se) ∧ w'.cell? ⟨y, 7, none⟩ = some (.int .i64 c.qu) ∧ w'.cell? ⟨y, 8, none⟩ = some (.int .i64 c.qt)) ∧ w'.cell? ⟨z, 2, none⟩ = some (.int .i64 x.d) ∧ RpS w1 c vp vd vw vg y z x os w' :=
  ⟨cf_at h.cb, (stp_cells (h.tk.blk (i := 0) rfl)).2.2.1, h⟩
set_option maxHeartbeats 8000000 in
theorem rpurge_yes (hc : CfAt w vp vd vw vg c) (hm : cfMay c = true) (p : Nat) (hp : p < c.ps.length) (v : Value) (n : Nat) (l : List Stp) (hv : Sl w v n 7 (stcs l)) (hl : l.length = n) (hn : n * 64 ≤ 140737488351232) :
    Calls Tryz.prog 7 #[.agg #[.int .i64 c.fr, vp, vd, .int .i64 c.mj, vw, vg, .int .i64 c.se, .int .i64 c.qu, .int .i64 c.qt], v, .int .i64 (p : Int)] w fun e w' => ∃ v', e = .returned (.tuple #[v', .int .i64 0]) ∧ Tk nos w [obS v' (pgL c p (hsNew c) l)] w' := by
  obtain ⟨i7, hi7, h70, h71, h72⟩ := info_parts infoStep
  have H70 := Lib.hid hi7; have H71 := Lib.hid h70; have H72 := Lib.hid h71; have H73 := Lib.hid h72
  clear hi7 h70 h71 h72
  obtain ⟨Ap, capp, rfl, -⟩ := hc.ps
  have hpz := hc.pz.1
  obtain ⟨hb, hB⟩ := cf_box w c (.slice Ap c.ps.length capp) vd vw vg
  have HV := Lib.hid hb; have HB := Lib.hid hB; have HA := Lib.hid (hc.below hB)
  have HM := Lib.hid (rcmay_any HA.out)
  obtain ⟨q0, q1, q2, q3, q4, q5, q6, q7, q8⟩ := cf_at hb
  have HS := Lib.hid (hv.below hB); have HL := Lib.hid hl
  obtain ⟨A, cap, rfl, hcap, -, -⟩ := hv
  have HMM := Lib.hid hm; have HPP := Lib.hid hp
  rw [hm] at HM
  obtain ⟨P, hP⟩ : ∃ P, pgL c p (hsNew c) l = P := ⟨_, rfl⟩
  have HPE := Lib.hid hP
  have HPL := Lib.hid (show P.length = n by rw [← hP, pgL_len, hl])
  have HPA0 := Lib.hid (fun k (hk : k < n) => (show P.getD k stD = if hdB c p (hdW c (hsNew c) (l.take k)) (l.getD k stD) then l.getD k stD else stD by rw [← hP]; exact pgL_at c p l _ k (by rw [hl]; exact hk)))
  have HEP := Lib.hid (fun k (h : k < n) => show P.take (k + 1) = P.take k ++ [P.getD k stD] by
    have h' : k < P.length := by rw [HPL.out]; exact h
    rw [List.take_succ_eq_append_getElem h']; simp [List.getD, List.getElem?_eq_getElem h'])
  have hcq := cfMay_q hm
  obtain ⟨U, hU⟩ : ∃ U : Nat, c.qt.toNat = U := ⟨_, rfl⟩
  clear hb hB hc hP hl hm
  generalize hn0 : c.ps.length = n0 at *
  have HN0 := Lib.hid hn0
  clear hn0
  have t1 : decide ((p : Int) < 0) = false := by simp
  have t2 : decide ((n0 : Int) ≤ (p : Int)) = false := by simp; omega
  go_enter Tryz.func7, Tryz.ntmps7
  go_wp2_with fail
  generalize w.alloc (.cells #[.int .i64 c.fr, .slice Ap n0 capp, vd, .int .i64 c.mj, vw, vg, .int .i64 c.se, .int .i64 c.qu, .int .i64 c.qt] 27) = w1 at *
  refine HM.out.mono ?_
  rintro e w2 ⟨rfl, b2⟩
  have HB2 := Lib.hid b2
  obtain ⟨q0, q1, q2, q3, q4, q5, q6, q7, q8⟩ := cf_at (HV.out.below b2 HV.out.lt)
  clear b2
  go_wp2_with fail
  refine (rowners_any (HA.out.below HB2.out) HMM.out).mono ?_
  rintro e w3 ⟨g, rfl, t3⟩
  rw [HN0.out, hU] at t3
  have T4 := Lib.hid (show Tk nos w1 [obS (.slice none 0 0) (P.take 0), obDA g U n0 c.ds.length (hsNew c).O (hsNew c).L] w3 by
    have := (((Tk.empty w1).next HB2.out).add t3).addR (t := 48) (size := 7) (v := .slice none 0 0) (n := 0) (xs := []) (Below.refl _ _) (World.ownsRow_nil _ _ _ _)
    rw [List.append_nil] at this
    exact this)
  clear t3 q0 q1 q2 q3 q4 q5 q6 q7 q8 HB2
  go_wp2_with fail
  generalize hyw : w.heap.size = y at *
  have HYW := Lib.hid hyw
  clear hyw
  go_loopw [9, 10, 11, 12, 13] (fun v9 v10 v11 v12 v13 wr => ∃ (k : Nat), k ≤ n ∧ v11 = .int .i64 k ∧ v9 = .int .i64 ((hdW c (hsNew c) (l.take k)).t : Nat) ∧ v12 = v12 ∧ v13 = v13 ∧ Hid (Tk nos w1 [obS v10 (P.take k), obDA g U n0 c.ds.length (hdW c (hsNew c) (l.take k)).O (hdW c (hsNew c) (l.take k)).L] wr)) (fun _ _ v11 _ _ _ => n - (intOf v11).toNat)
  case atStart => exact ⟨0, by omega, rfl, rfl, rfl, rfl, T4⟩
  case round =>
    clear T4
    obtain ⟨k, hkn, rfl, rfl, -, -, HT⟩ := hrel
    by_cases hlt : k < n
    · have hltI : (k : Int) < n := by omega
      obtain ⟨sb, so, rfl, -, c0, c1, c2, c3, c4, c5, c6⟩ := stcs_at (HS.out.below HT.out.below) HL.out k hlt
      have HPA := Lib.hid (HPA0.out k hlt)
      have HW1 := Lib.hid (hdW_succ c (hsNew c) l k (by rw [HL.out]; exact hlt))
      have hWt := hdW_t c (l.take k) (hsNew c) (Nat.zero_le _)
      have HEk := Lib.hid (HEP.out k hlt)
      have hlk : (P.take k).length < n := by rw [List.length_take]; omega
      generalize P.take k = lk at *
      generalize hdW c (hsNew c) (l.take k) = hs at *
      generalize l.getD k stD = x at *
      obtain ⟨hs', HH0⟩ : ∃ h, hdS c hs x = h := ⟨_, rfl⟩
      have HH := Lib.hid HH0
      clear HH0
      obtain ⟨x0, x1, x2, x3, x4, x5, s⟩ := x
      dsimp only at c0 c1 c2 c3 c4 c5 c6
      have t5 := HT.out.alloc 48 (stc ⟨x0, x1, x2, x3, x4, x5, s⟩)
      have T5 : Hid (Tk nos w1 [obB wr.heap.size 48 (stc ⟨x0, x1, x2, x3, x4, x5, s⟩), obS u10 lk, obDA g U n0 c.ds.length hs.O hs.L] (wr.alloc (.cells #[.int .i64 x0, .int .i64 x1, .int .i64 x2, .int .i64 x3, .int .i64 x4, .int .i64 x5, .string s] 48))) := Lib.hid t5
      obtain ⟨s0, s1, s2, s3, s4, s5, s6⟩ := stp_cells (T5.out.blk (i := 0) rfl)
      dsimp only at s0 s1 s2 s3 s4 s5 s6
      clear t5 HT
      rcases (show (x0 = 1 ∧ hs.t < 1048575) ∨ (x0 = 1 ∧ hs.t = 1048575) ∨ x0 = 2 ∨ (x0 = 3 ∨ x0 = 4) ∨ (5 ≤ x0 ∧ x0 ≤ 16) ∨ ((x0 < 1 ∨ 16 < x0)) by omega) with ⟨hx, ht⟩ | ⟨hx, ht⟩ | hx | hx | ⟨ha, hb⟩ | hx
      · have dc : callB x0 = false := decide_eq_false (by omega)
        have HK := Lib.hid (show hdB c p hs ⟨x0, x1, x2, x3, x4, x5, s⟩ = true by unfold hdB; rw [if_neg (by dsimp only; omega), if_neg (by dsimp only; omega)])
        have EH := Lib.hid (show hs' = ⟨hs.t + 1, hs.O, atL hs.L c.ds.length⟩ by rw [← HH.out]; unfold hdS; rw [if_pos hx, if_pos ht])
        have e1 : (x0 == 1) = true := by simp; omega
        have e2 : (x0 == 2) = false := beq_eq_false_iff_ne.2 (by omega)
        have e3 : (x0 == 3) = false := beq_eq_false_iff_ne.2 (by omega)
        have e4 : (x0 == 4) = false := beq_eq_false_iff_ne.2 (by omega)
        have hti : decide ((hs.t : Int) < 1048575) = true := by simp; omega
        clear hx
        go_wp2_with fail
        generalize wr.alloc (.cells #[.int .i64 x0, .int .i64 x1, .int .i64 x2, .int .i64 x3, .int .i64 x4, .int .i64 x5, .string s] 48) = w5 at *
        generalize wr.heap.size = z at *
        refine (rcall_any _ _).mono ?_
        rintro e we ⟨rfl, rfl⟩
        rw [dc]
        go_wp2_with fail
        refine (tk_datick _ T5.out (i := 2) rfl).mono ?_
        rintro e w6 ⟨v9, rfl, t6⟩
        have T6 := Lib.hid (show Tk nos w1 (obB z 48 (stc ⟨x0, x1, x2, x3, x4, x5, s⟩) :: obS u10 lk :: obDA g U n0 c.ds.length hs'.O hs'.L :: []) w6 by rw [EH.out]; exact t6.tail)
        clear t6 T5
        have BL := Lib.hid (show Below w6.heap.size w6 (w6.alloc (.cells #[.int .i64 x0, .int .i64 x1, .int .i64 x2, .int .i64 x3, .int .i64 x4, .int .i64 x5, .string s] 48)) from (Below.refl _ _).alloc (Nat.le_refl _) _)
        obtain ⟨s0, s1, s2, s3, s4, s5, s6⟩ := stp_cells (T6.out.blk (i := 0) rfl)
        dsimp only [stD] at s0 s1 s2 s3 s4 s5 s6
        go_wp2_with (at_builtin; refine wpList_append_lies _ rfl _ _ 28 rfl 0 48 i7 _ 7 64 Tryz.underlying28 H70.out H71.out H72.out H73.out rfl (by decide) u10 lk.length (stcs lk) rfl (own_below (T6.out.row (i := 1) rfl) BL.out) ⟨w6.heap.size, 0, none⟩ 1 1 [.int .i64 x0, .int .i64 x1, .int .i64 x2, .int .i64 x3, .int .i64 x4, .int .i64 x5, .string s] rfl rfl (row_new w6 [.int .i64 x0, .int .i64 x1, .int .i64 x2, .int .i64 x3, .int .i64 x4, .int .i64 x5, .string s] 48) (one_stc ⟨x0, x1, x2, x3, x4, x5, s⟩) (by omega) (by unfold maxLen; omega) (by omega) (by omega) _ rfl ?_)
        intro g4 cap4 w7 own6 gr6 hat6 hlt6
        have T7 := Lib.hid (show Tk nos w1 [obS (.slice (some ⟨g4, 0, none⟩) (lk.length + 1) cap4) (lk ++ [⟨x0, x1, x2, x3, x4, x5, s⟩]), obDA g U n0 c.ds.length hs'.O hs'.L] w7 by
          have := T6.out.grow (i := 1) rfl BL.out own6 gr6 (hat6.imp id (fun h => by simp only [World.size_alloc]; omega))
          rw [← obS_app]
          exact this.tail)
        clear own6 gr6 hat6 hlt6 BL s0 s1 s2 s3 s4 s5 s6
        go_wp2_with fail
        go_roundw
        case rel => exact ⟨k + 1, by omega, by go_num, (by rw [HW1.out, HH.out, EH.out] <;> first | rfl | omega | (simp; done) | (simp; omega)), trivial, trivial, Lib.hid (by rw [HW1.out, HH.out, HEk.out, show P.getD k stD = ⟨x0, x1, x2, x3, x4, x5, s⟩ by rw [HPA.out, HK.out]; rfl]; exact T7.out)⟩
        case measure => simp [intOf]; omega
      · have dc : callB x0 = false := decide_eq_false (by omega)
        have HK := Lib.hid (show hdB c p hs ⟨x0, x1, x2, x3, x4, x5, s⟩ = true by unfold hdB; rw [if_neg (by dsimp only; omega), if_neg (by dsimp only; omega)])
        have EH := Lib.hid (show hs' = hs by rw [← HH.out]; unfold hdS; rw [if_pos hx, if_neg (by omega)])
        have e1 : (x0 == 1) = true := by simp; omega
        have e2 : (x0 == 2) = false := beq_eq_false_iff_ne.2 (by omega)
        have e3 : (x0 == 3) = false := beq_eq_false_iff_ne.2 (by omega)
        have e4 : (x0 == 4) = false := beq_eq_false_iff_ne.2 (by omega)
        have hti : decide ((hs.t : Int) < 1048575) = false := by simp; omega
        clear hx
        go_wp2_with fail
        generalize wr.alloc (.cells #[.int .i64 x0, .int .i64 x1, .int .i64 x2, .int .i64 x3, .int .i64 x4, .int .i64 x5, .string s] 48) = w5 at *
        generalize wr.heap.size = z at *
        refine (rcall_any _ _).mono ?_
        rintro e we ⟨rfl, rfl⟩
        rw [dc]
        have T6 := Lib.hid (show Tk nos w1 (obB z 48 (stc ⟨x0, x1, x2, x3, x4, x5, s⟩) :: obS u10 lk :: obDA g U n0 c.ds.length hs'.O hs'.L :: []) w5 by rw [EH.out]; exact T5.out)
        clear T5
        have BL := Lib.hid (show Below w5.heap.size w5 (w5.alloc (.cells #[.int .i64 x0, .int .i64 x1, .int .i64 x2, .int .i64 x3, .int .i64 x4, .int .i64 x5, .string s] 48)) from (Below.refl _ _).alloc (Nat.le_refl _) _)
        obtain ⟨s0, s1, s2, s3, s4, s5, s6⟩ := stp_cells (T6.out.blk (i := 0) rfl)
        dsimp only [stD] at s0 s1 s2 s3 s4 s5 s6
        go_wp2_with (at_builtin; refine wpList_append_lies _ rfl _ _ 28 rfl 0 48 i7 _ 7 64 Tryz.underlying28 H70.out H71.out H72.out H73.out rfl (by decide) u10 lk.length (stcs lk) rfl (own_below (T6.out.row (i := 1) rfl) BL.out) ⟨w5.heap.size, 0, none⟩ 1 1 [.int .i64 x0, .int .i64 x1, .int .i64 x2, .int .i64 x3, .int .i64 x4, .int .i64 x5, .string s] rfl rfl (row_new w5 [.int .i64 x0, .int .i64 x1, .int .i64 x2, .int .i64 x3, .int .i64 x4, .int .i64 x5, .string s] 48) (one_stc ⟨x0, x1, x2, x3, x4, x5, s⟩) (by omega) (by unfold maxLen; omega) (by omega) (by omega) _ rfl ?_)
        intro g4 cap4 w7 own6 gr6 hat6 hlt6
        have T7 := Lib.hid (show Tk nos w1 [obS (.slice (some ⟨g4, 0, none⟩) (lk.length + 1) cap4) (lk ++ [⟨x0, x1, x2, x3, x4, x5, s⟩]), obDA g U n0 c.ds.length hs'.O hs'.L] w7 by
          have := T6.out.grow (i := 1) rfl BL.out own6 gr6 (hat6.imp id (fun h => by simp only [World.size_alloc]; omega))
          rw [← obS_app]
          exact this.tail)
        clear own6 gr6 hat6 hlt6 BL s0 s1 s2 s3 s4 s5 s6
        go_wp2_with fail
        go_roundw
        case rel => exact ⟨k + 1, by omega, by go_num, (by rw [HW1.out, HH.out, EH.out] <;> first | rfl | omega | (simp; done) | (simp; omega)), trivial, trivial, Lib.hid (by rw [HW1.out, HH.out, HEk.out, show P.getD k stD = ⟨x0, x1, x2, x3, x4, x5, s⟩ by rw [HPA.out, HK.out]; rfl]; exact T7.out)⟩
        case measure => simp [intOf]; omega
      · have dc : callB x0 = false := decide_eq_false (by omega)
        have HK := Lib.hid (show hdB c p hs ⟨x0, x1, x2, x3, x4, x5, s⟩ = true by unfold hdB; rw [if_neg (by dsimp only; omega), if_neg (by dsimp only; omega)])
        have EH := Lib.hid (show hs' = ⟨hs.t, amO c.ds.length n0 hs.O hs.L x2 x3, amL c.ds.length n0 U hs.L x2 x3⟩ by rw [← HH.out]; unfold hdS; rw [if_neg (by dsimp only; omega), if_pos hx, HN0.out, hU])
        have e2 : (x0 == 2) = true := by simp; omega
        have e3 : (x0 == 3) = false := beq_eq_false_iff_ne.2 (by omega)
        have e4 : (x0 == 4) = false := beq_eq_false_iff_ne.2 (by omega)
        clear hx
        go_wp2_with fail
        generalize wr.alloc (.cells #[.int .i64 x0, .int .i64 x1, .int .i64 x2, .int .i64 x3, .int .i64 x4, .int .i64 x5, .string s] 48) = w5 at *
        generalize wr.heap.size = z at *
        refine (rcall_any _ _).mono ?_
        rintro e we ⟨rfl, rfl⟩
        rw [dc]
        go_wp2_with fail
        refine (tk_damove x2 x3 _ T5.out (i := 2) rfl).mono ?_
        rintro e w6 ⟨rfl, t6⟩
        have T6 := Lib.hid (show Tk nos w1 (obB z 48 (stc ⟨x0, x1, x2, x3, x4, x5, s⟩) :: obS u10 lk :: obDA g U n0 c.ds.length hs'.O hs'.L :: []) w6 by rw [EH.out]; exact t6)
        clear t6 T5
        have BL := Lib.hid (show Below w6.heap.size w6 (w6.alloc (.cells #[.int .i64 x0, .int .i64 x1, .int .i64 x2, .int .i64 x3, .int .i64 x4, .int .i64 x5, .string s] 48)) from (Below.refl _ _).alloc (Nat.le_refl _) _)
        obtain ⟨s0, s1, s2, s3, s4, s5, s6⟩ := stp_cells (T6.out.blk (i := 0) rfl)
        dsimp only [stD] at s0 s1 s2 s3 s4 s5 s6
        go_wp2_with (at_builtin; refine wpList_append_lies _ rfl _ _ 28 rfl 0 48 i7 _ 7 64 Tryz.underlying28 H70.out H71.out H72.out H73.out rfl (by decide) u10 lk.length (stcs lk) rfl (own_below (T6.out.row (i := 1) rfl) BL.out) ⟨w6.heap.size, 0, none⟩ 1 1 [.int .i64 x0, .int .i64 x1, .int .i64 x2, .int .i64 x3, .int .i64 x4, .int .i64 x5, .string s] rfl rfl (row_new w6 [.int .i64 x0, .int .i64 x1, .int .i64 x2, .int .i64 x3, .int .i64 x4, .int .i64 x5, .string s] 48) (one_stc ⟨x0, x1, x2, x3, x4, x5, s⟩) (by omega) (by unfold maxLen; omega) (by omega) (by omega) _ rfl ?_)
        intro g4 cap4 w7 own6 gr6 hat6 hlt6
        have T7 := Lib.hid (show Tk nos w1 [obS (.slice (some ⟨g4, 0, none⟩) (lk.length + 1) cap4) (lk ++ [⟨x0, x1, x2, x3, x4, x5, s⟩]), obDA g U n0 c.ds.length hs'.O hs'.L] w7 by
          have := T6.out.grow (i := 1) rfl BL.out own6 gr6 (hat6.imp id (fun h => by simp only [World.size_alloc]; omega))
          rw [← obS_app]
          exact this.tail)
        clear own6 gr6 hat6 hlt6 BL s0 s1 s2 s3 s4 s5 s6
        go_wp2_with fail
        go_roundw
        case rel => exact ⟨k + 1, by omega, by go_num, (by rw [HW1.out, HH.out, EH.out] <;> first | rfl | omega | (simp; done) | (simp; omega)), trivial, trivial, Lib.hid (by rw [HW1.out, HH.out, HEk.out, show P.getD k stD = ⟨x0, x1, x2, x3, x4, x5, s⟩ by rw [HPA.out, HK.out]; rfl]; exact T7.out)⟩
        case measure => simp [intOf]; omega
      · have dc : callB x0 = false := decide_eq_false (by omega)
        have EH := Lib.hid (show hs' = hs by rw [← HH.out]; unfold hdS; rw [if_neg (by dsimp only; omega), if_neg (by dsimp only; omega)])
        have HKE := Lib.hid (show flB c (aoX c.ds.length hs.O hs.L x2) (p : Int) = hdB c p hs ⟨x0, x1, x2, x3, x4, x5, s⟩ by rw [flB_flI HMM.out (by rw [HN0.out]; exact HPP.out)]; unfold hdB; rw [if_pos hx])
        rcases (show ((x0 == 3) = true) ∨ ((x0 == 3) = false ∧ (x0 == 4) = true) by rcases hx with rfl | rfl <;> simp) with e3 | ⟨e3, e4⟩
        all_goals
          clear hx
          go_wp2_with fail
          generalize wr.alloc (.cells #[.int .i64 x0, .int .i64 x1, .int .i64 x2, .int .i64 x3, .int .i64 x4, .int .i64 x5, .string s] 48) = w5 at *
          generalize wr.heap.size = z at *
          refine (rcall_any _ _).mono ?_
          rintro e we ⟨rfl, rfl⟩
          rw [dc]
          go_wp2_with fail
          have hS : RpS w1 c (.slice Ap n0 capp) vd vw vg y z ⟨x0, x1, x2, x3, x4, x5, s⟩ [obS u10 lk, obDA g U n0 c.ds.length hs.O hs.L] w5 := ⟨T5.out, HV.out.below T5.out.below HV.out.lt⟩
          clear s0 s1 s3 s4 s5 s6
          go_region_held3 (fun w' => (w'.cell? ⟨y, 0, none⟩ = some (.int .i64 c.fr) ∧ w'.cell? ⟨y, 1, none⟩ = some (.slice Ap n0 capp) ∧ w'.cell? ⟨y, 2, none⟩ = some vd ∧ w'.cell? ⟨y, 3, none⟩ = some (.int .i64 c.mj) ∧ w'.cell? ⟨y, 4, none⟩ = some vw ∧ w'.cell? ⟨y, 5, none⟩ = some vg ∧ w'.cell? ⟨y, 6, none⟩ = some (.int .i64 c.se) ∧ w'.cell? ⟨y, 7, none⟩ = some (.int .i64 c.qu) ∧ w'.cell? ⟨y, 8, none⟩ = some (.int .i64 c.qt)) ∧ w'.cell? ⟨z, 2, none⟩ = some (.int .i64 x2) ∧ RpS w1 c (.slice Ap n0 capp) vd vw vg y z ⟨x0, x1, x2, x3, x4, x5, s⟩ [obS u10 lk, obDA g U n0 c.ds.length hs.O hs.L] w')
            ((go_split_ands; refine RpS.all (c := c) (x := ⟨x0, x1, x2, x3, x4, x5, s⟩) ?_; (first | with_reducible assumption | with_reducible exact RpS.drew (by assumption) | with_reducible exact RpS.next (by assumption) (by assumption))))
            (first
              | (go_at_call 24; go_split_ands; refine (tk_daowner x2 _ (RpS.tk (w1 := w1) (c := c) (vp := .slice Ap n0 capp) (vd := vd) (vw := vw) (vg := vg) (y := y) (z := z) (x := ⟨x0, x1, x2, x3, x4, x5, s⟩) (os := [obS u10 lk, obDA g U n0 c.ds.length hs.O hs.L]) (by assumption)) (i := 2) rfl).mono ?_; rintro e w8 ⟨rfl, rfl⟩)
              | (go_at_call 11; go_split_ands; refine (rflows_any (HA.out.below (RpS.tk (w1 := w1) (c := c) (vp := .slice Ap n0 capp) (vd := vd) (vw := vw) (vg := vg) (y := y) (z := z) (x := ⟨x0, x1, x2, x3, x4, x5, s⟩) (os := [obS u10 lk, obDA g U n0 c.ds.length hs.O hs.L]) (by assumption)).below) _ _).mono ?_; rintro e w6 ⟨rfl, b6⟩))
          all_goals
            rename_i hH
            rw [HKE.out]
            have T6 := Lib.hid (show Tk nos w1 (obB z 48 (stc ⟨x0, x1, x2, x3, x4, x5, s⟩) :: obS u10 lk :: obDA g U n0 c.ds.length hs'.O hs'.L :: []) w6 by rw [EH.out]; exact hH.2.2.tk)
            clear hH hS T5 s2
            cases HKB : hdB c p hs ⟨x0, x1, x2, x3, x4, x5, s⟩ with
            | true =>
              have HK := Lib.hid HKB
              clear HKB
              have BL := Lib.hid (show Below w6.heap.size w6 (w6.alloc (.cells #[.int .i64 x0, .int .i64 x1, .int .i64 x2, .int .i64 x3, .int .i64 x4, .int .i64 x5, .string s] 48)) from (Below.refl _ _).alloc (Nat.le_refl _) _)
              obtain ⟨s0, s1, s2, s3, s4, s5, s6⟩ := stp_cells (T6.out.blk (i := 0) rfl)
              dsimp only [stD] at s0 s1 s2 s3 s4 s5 s6
              go_wp2_with (at_builtin; refine wpList_append_lies _ rfl _ _ 28 rfl 0 48 i7 _ 7 64 Tryz.underlying28 H70.out H71.out H72.out H73.out rfl (by decide) u10 lk.length (stcs lk) rfl (own_below (T6.out.row (i := 1) rfl) BL.out) ⟨w6.heap.size, 0, none⟩ 1 1 [.int .i64 x0, .int .i64 x1, .int .i64 x2, .int .i64 x3, .int .i64 x4, .int .i64 x5, .string s] rfl rfl (row_new w6 [.int .i64 x0, .int .i64 x1, .int .i64 x2, .int .i64 x3, .int .i64 x4, .int .i64 x5, .string s] 48) (one_stc ⟨x0, x1, x2, x3, x4, x5, s⟩) (by omega) (by unfold maxLen; omega) (by omega) (by omega) _ rfl ?_)
              intro g4 cap4 w7 own6 gr6 hat6 hlt6
              have T7 := Lib.hid (show Tk nos w1 [obS (.slice (some ⟨g4, 0, none⟩) (lk.length + 1) cap4) (lk ++ [⟨x0, x1, x2, x3, x4, x5, s⟩]), obDA g U n0 c.ds.length hs'.O hs'.L] w7 by
                have := T6.out.grow (i := 1) rfl BL.out own6 gr6 (hat6.imp id (fun h => by simp only [World.size_alloc]; omega))
                rw [← obS_app]
                exact this.tail)
              clear own6 gr6 hat6 hlt6 BL s0 s1 s2 s3 s4 s5 s6
              go_wp2_with fail
              go_roundw
              case rel => exact ⟨k + 1, by omega, by go_num, (by rw [HW1.out, HH.out, EH.out] <;> first | rfl | omega | (simp; done) | (simp; omega)), trivial, trivial, Lib.hid (by rw [HW1.out, HH.out, HEk.out, show P.getD k stD = ⟨x0, x1, x2, x3, x4, x5, s⟩ by rw [HPA.out, HK.out]; rfl]; exact T7.out)⟩
              case measure => simp [intOf]; omega
            | false =>
              have HK := Lib.hid HKB
              clear HKB
              have T5 : Hid (Tk nos w1 (obB z 48 (stc stD) :: obS u10 lk :: obDA g U n0 c.ds.length hs'.O hs'.L :: []) (((((((w6.setCell ⟨z, 0, none⟩ (.int .i64 0)).setCell ⟨z, 1, none⟩ (.int .i64 0)).setCell ⟨z, 2, none⟩ (.int .i64 0)).setCell ⟨z, 3, none⟩ (.int .i64 0)).setCell ⟨z, 4, none⟩ (.int .i64 0)).setCell ⟨z, 5, none⟩ (.int .i64 0)).setCell ⟨z, 6, none⟩ (.string ⟨#[]⟩))) := Lib.hid T6.out.put7
              obtain ⟨s0, s1, s2, s3, s4, s5, s6⟩ := stp_cells (T6.out.blk (i := 0) rfl)
              dsimp only at s0 s1 s2 s3 s4 s5 s6
              have fz := fun i => (T6.out.blk (i := 0) rfl).frozen i
              have f0 := fz 0
              have f1 := fz 1
              have f2 := fz 2
              have f3 := fz 3
              have f4 := fz 4
              have f5 := fz 5
              have f6 := fz 6
              clear fz
              go_upto_region 22 with fail
              clear s0 s1 s2 s3 s4 s5 s6 f0 f1 f2 f3 f4 f5 f6
              generalize (((((((w6.setCell ⟨z, 0, none⟩ (.int .i64 0)).setCell ⟨z, 1, none⟩ (.int .i64 0)).setCell ⟨z, 2, none⟩ (.int .i64 0)).setCell ⟨z, 3, none⟩ (.int .i64 0)).setCell ⟨z, 4, none⟩ (.int .i64 0)).setCell ⟨z, 5, none⟩ (.int .i64 0)).setCell ⟨z, 6, none⟩ (.string ⟨#[]⟩)) = w6 at *
              have BL := Lib.hid (show Below w6.heap.size w6 (w6.alloc (.cells #[.int .i64 0, .int .i64 0, .int .i64 0, .int .i64 0, .int .i64 0, .int .i64 0, .string ⟨#[]⟩] 48)) from (Below.refl _ _).alloc (Nat.le_refl _) _)
              obtain ⟨s0, s1, s2, s3, s4, s5, s6⟩ := stp_cells (T5.out.blk (i := 0) rfl)
              dsimp only [stD] at s0 s1 s2 s3 s4 s5 s6
              go_wp2_with (at_builtin; refine wpList_append_lies _ rfl _ _ 28 rfl 0 48 i7 _ 7 64 Tryz.underlying28 H70.out H71.out H72.out H73.out rfl (by decide) u10 lk.length (stcs lk) rfl (own_below (T5.out.row (i := 1) rfl) BL.out) ⟨w6.heap.size, 0, none⟩ 1 1 [.int .i64 0, .int .i64 0, .int .i64 0, .int .i64 0, .int .i64 0, .int .i64 0, .string ⟨#[]⟩] rfl rfl (row_new w6 [.int .i64 0, .int .i64 0, .int .i64 0, .int .i64 0, .int .i64 0, .int .i64 0, .string ⟨#[]⟩] 48) (one_stc stD) (by omega) (by unfold maxLen; omega) (by omega) (by omega) _ rfl ?_)
              intro g4 cap4 w7 own6 gr6 hat6 hlt6
              have T7 := Lib.hid (show Tk nos w1 [obS (.slice (some ⟨g4, 0, none⟩) (lk.length + 1) cap4) (lk ++ [stD]), obDA g U n0 c.ds.length hs'.O hs'.L] w7 by
                have := T5.out.grow (i := 1) rfl BL.out own6 gr6 (hat6.imp id (fun h => by simp only [World.size_alloc]; omega))
                rw [← obS_app]
                exact this.tail)
              clear own6 gr6 hat6 hlt6 BL s0 s1 s2 s3 s4 s5 s6
              go_wp2_with fail
              go_roundw
              case rel => exact ⟨k + 1, by omega, by go_num, (by rw [HW1.out, HH.out, EH.out] <;> first | rfl | omega | (simp; done) | (simp; omega)), trivial, trivial, Lib.hid (by rw [HW1.out, HH.out, HEk.out, show P.getD k stD = stD by rw [HPA.out, HK.out]; rfl]; exact T7.out)⟩
              case measure => simp [intOf]; omega
      · have dc : callB x0 = true := decide_eq_true ⟨ha, hb⟩
        have EH := Lib.hid (show hs' = hs by rw [← HH.out]; unfold hdS; rw [if_neg (by dsimp only; omega), if_neg (by dsimp only; omega)])
        have HKE := Lib.hid (show flB c x1 (p : Int) = hdB c p hs ⟨x0, x1, x2, x3, x4, x5, s⟩ by rw [flB_flI HMM.out (by rw [HN0.out]; exact HPP.out)]; unfold hdB; rw [if_neg (by dsimp only; omega), if_pos ⟨ha, hb⟩])
        go_wp2_with fail
        generalize wr.alloc (.cells #[.int .i64 x0, .int .i64 x1, .int .i64 x2, .int .i64 x3, .int .i64 x4, .int .i64 x5, .string s] 48) = w5 at *
        generalize wr.heap.size = z at *
        refine (rcall_any _ _).mono ?_
        rintro e we ⟨rfl, rfl⟩
        rw [dc]
        obtain ⟨q0, q1, q2, q3, q4, q5, q6, q7, q8⟩ := cf_at (HV.out.below T5.out.below HV.out.lt)
        go_wp2_with fail
        refine (rflows_any (HA.out.below T5.out.below) _ _).mono ?_
        rintro e w6 ⟨rfl, b6⟩
        rw [HKE.out]
        have T6 := Lib.hid (show Tk nos w1 (obB z 48 (stc ⟨x0, x1, x2, x3, x4, x5, s⟩) :: obS u10 lk :: obDA g U n0 c.ds.length hs'.O hs'.L :: []) w6 by rw [EH.out]; exact T5.out.next b6)
        clear b6 T5 q0 q1 q2 q3 q4 q5 q6 q7 q8
        clear s0 s1 s2 s3 s4 s5 s6
        cases HKB : hdB c p hs ⟨x0, x1, x2, x3, x4, x5, s⟩ with
        | true =>
          have HK := Lib.hid HKB
          clear HKB
          have BL := Lib.hid (show Below w6.heap.size w6 (w6.alloc (.cells #[.int .i64 x0, .int .i64 x1, .int .i64 x2, .int .i64 x3, .int .i64 x4, .int .i64 x5, .string s] 48)) from (Below.refl _ _).alloc (Nat.le_refl _) _)
          obtain ⟨s0, s1, s2, s3, s4, s5, s6⟩ := stp_cells (T6.out.blk (i := 0) rfl)
          dsimp only [stD] at s0 s1 s2 s3 s4 s5 s6
          go_wp2_with (at_builtin; refine wpList_append_lies _ rfl _ _ 28 rfl 0 48 i7 _ 7 64 Tryz.underlying28 H70.out H71.out H72.out H73.out rfl (by decide) u10 lk.length (stcs lk) rfl (own_below (T6.out.row (i := 1) rfl) BL.out) ⟨w6.heap.size, 0, none⟩ 1 1 [.int .i64 x0, .int .i64 x1, .int .i64 x2, .int .i64 x3, .int .i64 x4, .int .i64 x5, .string s] rfl rfl (row_new w6 [.int .i64 x0, .int .i64 x1, .int .i64 x2, .int .i64 x3, .int .i64 x4, .int .i64 x5, .string s] 48) (one_stc ⟨x0, x1, x2, x3, x4, x5, s⟩) (by omega) (by unfold maxLen; omega) (by omega) (by omega) _ rfl ?_)
          intro g4 cap4 w7 own6 gr6 hat6 hlt6
          have T7 := Lib.hid (show Tk nos w1 [obS (.slice (some ⟨g4, 0, none⟩) (lk.length + 1) cap4) (lk ++ [⟨x0, x1, x2, x3, x4, x5, s⟩]), obDA g U n0 c.ds.length hs'.O hs'.L] w7 by
            have := T6.out.grow (i := 1) rfl BL.out own6 gr6 (hat6.imp id (fun h => by simp only [World.size_alloc]; omega))
            rw [← obS_app]
            exact this.tail)
          clear own6 gr6 hat6 hlt6 BL s0 s1 s2 s3 s4 s5 s6
          go_wp2_with fail
          go_roundw
          case rel => exact ⟨k + 1, by omega, by go_num, (by rw [HW1.out, HH.out, EH.out] <;> first | rfl | omega | (simp; done) | (simp; omega)), trivial, trivial, Lib.hid (by rw [HW1.out, HH.out, HEk.out, show P.getD k stD = ⟨x0, x1, x2, x3, x4, x5, s⟩ by rw [HPA.out, HK.out]; rfl]; exact T7.out)⟩
          case measure => simp [intOf]; omega
        | false =>
          have HK := Lib.hid HKB
          clear HKB
          have T5 : Hid (Tk nos w1 (obB z 48 (stc stD) :: obS u10 lk :: obDA g U n0 c.ds.length hs'.O hs'.L :: []) (((((((w6.setCell ⟨z, 0, none⟩ (.int .i64 0)).setCell ⟨z, 1, none⟩ (.int .i64 0)).setCell ⟨z, 2, none⟩ (.int .i64 0)).setCell ⟨z, 3, none⟩ (.int .i64 0)).setCell ⟨z, 4, none⟩ (.int .i64 0)).setCell ⟨z, 5, none⟩ (.int .i64 0)).setCell ⟨z, 6, none⟩ (.string ⟨#[]⟩))) := Lib.hid T6.out.put7
          obtain ⟨s0, s1, s2, s3, s4, s5, s6⟩ := stp_cells (T6.out.blk (i := 0) rfl)
          dsimp only at s0 s1 s2 s3 s4 s5 s6
          have fz := fun i => (T6.out.blk (i := 0) rfl).frozen i
          have f0 := fz 0
          have f1 := fz 1
          have f2 := fz 2
          have f3 := fz 3
          have f4 := fz 4
          have f5 := fz 5
          have f6 := fz 6
          clear fz
          go_upto_region 22 with fail
          clear s0 s1 s2 s3 s4 s5 s6 f0 f1 f2 f3 f4 f5 f6
          generalize (((((((w6.setCell ⟨z, 0, none⟩ (.int .i64 0)).setCell ⟨z, 1, none⟩ (.int .i64 0)).setCell ⟨z, 2, none⟩ (.int .i64 0)).setCell ⟨z, 3, none⟩ (.int .i64 0)).setCell ⟨z, 4, none⟩ (.int .i64 0)).setCell ⟨z, 5, none⟩ (.int .i64 0)).setCell ⟨z, 6, none⟩ (.string ⟨#[]⟩)) = w6 at *
          have BL := Lib.hid (show Below w6.heap.size w6 (w6.alloc (.cells #[.int .i64 0, .int .i64 0, .int .i64 0, .int .i64 0, .int .i64 0, .int .i64 0, .string ⟨#[]⟩] 48)) from (Below.refl _ _).alloc (Nat.le_refl _) _)
          obtain ⟨s0, s1, s2, s3, s4, s5, s6⟩ := stp_cells (T5.out.blk (i := 0) rfl)
          dsimp only [stD] at s0 s1 s2 s3 s4 s5 s6
          go_wp2_with (at_builtin; refine wpList_append_lies _ rfl _ _ 28 rfl 0 48 i7 _ 7 64 Tryz.underlying28 H70.out H71.out H72.out H73.out rfl (by decide) u10 lk.length (stcs lk) rfl (own_below (T5.out.row (i := 1) rfl) BL.out) ⟨w6.heap.size, 0, none⟩ 1 1 [.int .i64 0, .int .i64 0, .int .i64 0, .int .i64 0, .int .i64 0, .int .i64 0, .string ⟨#[]⟩] rfl rfl (row_new w6 [.int .i64 0, .int .i64 0, .int .i64 0, .int .i64 0, .int .i64 0, .int .i64 0, .string ⟨#[]⟩] 48) (one_stc stD) (by omega) (by unfold maxLen; omega) (by omega) (by omega) _ rfl ?_)
          intro g4 cap4 w7 own6 gr6 hat6 hlt6
          have T7 := Lib.hid (show Tk nos w1 [obS (.slice (some ⟨g4, 0, none⟩) (lk.length + 1) cap4) (lk ++ [stD]), obDA g U n0 c.ds.length hs'.O hs'.L] w7 by
            have := T5.out.grow (i := 1) rfl BL.out own6 gr6 (hat6.imp id (fun h => by simp only [World.size_alloc]; omega))
            rw [← obS_app]
            exact this.tail)
          clear own6 gr6 hat6 hlt6 BL s0 s1 s2 s3 s4 s5 s6
          go_wp2_with fail
          go_roundw
          case rel => exact ⟨k + 1, by omega, by go_num, (by rw [HW1.out, HH.out, EH.out] <;> first | rfl | omega | (simp; done) | (simp; omega)), trivial, trivial, Lib.hid (by rw [HW1.out, HH.out, HEk.out, show P.getD k stD = stD by rw [HPA.out, HK.out]; rfl]; exact T7.out)⟩
          case measure => simp [intOf]; omega
      · have dc : callB x0 = false := decide_eq_false (by omega)
        have HK := Lib.hid (show hdB c p hs ⟨x0, x1, x2, x3, x4, x5, s⟩ = true by unfold hdB; rw [if_neg (by dsimp only; omega), if_neg (by dsimp only; omega)])
        have EH := Lib.hid (show hs' = hs by rw [← HH.out]; unfold hdS; rw [if_neg (by dsimp only; omega), if_neg (by dsimp only; omega)])
        have e1 : (x0 == 1) = false := beq_eq_false_iff_ne.2 (by omega)
        have e2 : (x0 == 2) = false := beq_eq_false_iff_ne.2 (by omega)
        have e3 : (x0 == 3) = false := beq_eq_false_iff_ne.2 (by omega)
        have e4 : (x0 == 4) = false := beq_eq_false_iff_ne.2 (by omega)
        clear hx
        go_wp2_with fail
        generalize wr.alloc (.cells #[.int .i64 x0, .int .i64 x1, .int .i64 x2, .int .i64 x3, .int .i64 x4, .int .i64 x5, .string s] 48) = w5 at *
        generalize wr.heap.size = z at *
        refine (rcall_any _ _).mono ?_
        rintro e we ⟨rfl, rfl⟩
        rw [dc]
        have T6 := Lib.hid (show Tk nos w1 (obB z 48 (stc ⟨x0, x1, x2, x3, x4, x5, s⟩) :: obS u10 lk :: obDA g U n0 c.ds.length hs'.O hs'.L :: []) w5 by rw [EH.out]; exact T5.out)
        clear T5
        have BL := Lib.hid (show Below w5.heap.size w5 (w5.alloc (.cells #[.int .i64 x0, .int .i64 x1, .int .i64 x2, .int .i64 x3, .int .i64 x4, .int .i64 x5, .string s] 48)) from (Below.refl _ _).alloc (Nat.le_refl _) _)
        obtain ⟨s0, s1, s2, s3, s4, s5, s6⟩ := stp_cells (T6.out.blk (i := 0) rfl)
        dsimp only [stD] at s0 s1 s2 s3 s4 s5 s6
        go_wp2_with (at_builtin; refine wpList_append_lies _ rfl _ _ 28 rfl 0 48 i7 _ 7 64 Tryz.underlying28 H70.out H71.out H72.out H73.out rfl (by decide) u10 lk.length (stcs lk) rfl (own_below (T6.out.row (i := 1) rfl) BL.out) ⟨w5.heap.size, 0, none⟩ 1 1 [.int .i64 x0, .int .i64 x1, .int .i64 x2, .int .i64 x3, .int .i64 x4, .int .i64 x5, .string s] rfl rfl (row_new w5 [.int .i64 x0, .int .i64 x1, .int .i64 x2, .int .i64 x3, .int .i64 x4, .int .i64 x5, .string s] 48) (one_stc ⟨x0, x1, x2, x3, x4, x5, s⟩) (by omega) (by unfold maxLen; omega) (by omega) (by omega) _ rfl ?_)
        intro g4 cap4 w7 own6 gr6 hat6 hlt6
        have T7 := Lib.hid (show Tk nos w1 [obS (.slice (some ⟨g4, 0, none⟩) (lk.length + 1) cap4) (lk ++ [⟨x0, x1, x2, x3, x4, x5, s⟩]), obDA g U n0 c.ds.length hs'.O hs'.L] w7 by
          have := T6.out.grow (i := 1) rfl BL.out own6 gr6 (hat6.imp id (fun h => by simp only [World.size_alloc]; omega))
          rw [← obS_app]
          exact this.tail)
        clear own6 gr6 hat6 hlt6 BL s0 s1 s2 s3 s4 s5 s6
        go_wp2_with fail
        go_roundw
        case rel => exact ⟨k + 1, by omega, by go_num, (by rw [HW1.out, HH.out, EH.out] <;> first | rfl | omega | (simp; done) | (simp; omega)), trivial, trivial, Lib.hid (by rw [HW1.out, HH.out, HEk.out, show P.getD k stD = ⟨x0, x1, x2, x3, x4, x5, s⟩ by rw [HPA.out, HK.out]; rfl]; exact T7.out)⟩
        case measure => simp [intOf]; omega
    · obtain rfl : k = n := by omega
      have hlk : P.take k = P := List.take_of_length_le (by rw [HPL.out]; exact Nat.le_refl _)
      rw [hlk] at HT
      clear hlk
      go_wp2_with fail
      go_ret2
      exact ⟨_, rfl, by rw [HPE.out]; exact (((Tk.empty w).next (by rw [HYW.out]; exact HB.out)).add HT.out).sub (List.Sublist.cons_cons _ (List.nil_sublist _))⟩
end
end Go.Proofs.YtkaalinoiilmoaaGreat
