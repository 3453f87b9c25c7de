/-
  Contracts of the program's set: take.
-/
import Derived.Test.YtjmdgjpepogogaaPn6
namespace Go.Proofs.Ytjmdgjpepogogaa
open Go.RowKit Go.ChangeMaps
set_option linter.unusedVariables false
set_option maxRecDepth 100000

/-- How many wait in the row of the set at block x. -/
def rowLen (w : World) (x : Nat) : Nat := match w.cell? ⟨x, 1, none⟩ with | some (.slice _ n _) => n | _ => 0
theorem HR.rowLen {w : World} {x B : Nat} {mv v : Value} {l : List Nat} (h : HR w x mv v B l) : rowLen w x = l.length := by
  obtain ⟨A, cap, rfl, _⟩ := form_of h.row
  unfold Go.Proofs.Ytjmdgjpepogogaa.rowLen
  rw [h.at1]

theorem RW.zero {w : World} {B : Nat} {v : Value} {l : List Nat} (h : RW w B v l) : RW w 0 v l := ⟨h.1, h.2.imp id (fun ⟨g, cap, cur, a, b, c⟩ => ⟨g, cap, cur, a, Nat.zero_le _, c⟩)⟩

/-- What take leaves: u what it tells, t what is left; P all in their order. -/
structure Tz (S : Nat → Prop) (w : World) (x m : Nat) (l : List Nat) (M : List Iq) (hs : List (Int × Int)) (P : List Nat) (u t : Value) (w' : World) : Prop where
  ru : RW w' w.heap.size u (P.filter (fun k => !hB hs k))
  st : St (fun b => Nw S w b ∧ u.ownBlock ≠ some b) w' x m t (P.filter (hB hs))
  fo : Fo S w w'
  pm : P.Perm l
  srt : P.Pairwise (· < ·)
  am : ∀ i, i ∈ hs ↔ i ∈ l.map pz ∧ ∃ q ∈ M, (q.d, q.v) = i

set_option maxHeartbeats 4000000 in
theorem stake_any (S : Nat → Prop) (x m : Nat) (v mv : Value) (l : List Nat) (M : List Iq) (n : Nat) (w : World) (h : St S w x m v l) (hM : Sl w mv n 3 (iqs M)) (hl : M.length = n) (hn : n ≤ 140737488355328) :
    Calls Try.prog 55 #[.pointer (some ⟨x, 0, none⟩), mv] w fun e w' => ∃ u t P hs, e = .returned u ∧ Tz S w x m l M hs P u t w' := by
  have hwl := h.hr.blk.lt
  obtain ⟨ks, hm, hks⟩ := h.mp
  have hml := hm.lt
  have cA := samong_any x m v mv ks M n w h.hr.blk hm hM hl hn
  have H := Lib.hid h
  have HKS := Lib.hid hks
  have HM := Lib.hid hm
  have HL := Lib.hid hl
  clear h hks hm hM hl
  go_enter Try.func55, Try.ntmps55
  go_wp2_with fail
  refine cA.mono ?_
  rintro e w1 ⟨rfl, a1⟩
  clear cA
  obtain ⟨hs, hm1, hamg⟩ := a1.mp
  have h1 := H.out.below a1.below (Nat.le_refl _)
  have t0 : Tg S w x m w.heap.size hs [] [] l l v (.slice none 0 0) (.slice none 0 0) w1 :=
    ⟨h1.hr, ⟨rfl, .inl ⟨rfl, rfl⟩⟩, ⟨rfl, .inl ⟨rfl, rfl⟩⟩, by cases v.ownBlock <;> simp [Value.ownBlock], by cases v.ownBlock <;> simp [Value.ownBlock], .inl rfl, ⟨ks, HM.out.stay (a1.below.block m hml), HKS.out⟩, hm1, by omega, fun i hi => .inl (H.out.row i hi), Fo.of a1.below S⟩
  have T0 := Lib.hid t0
  have AM := Lib.hid hamg
  have Q0 : Hid (Tq l [] l) := Lib.hid ⟨by simp, .nil, by simp, H.out.heap⟩
  clear a1 hm1 hamg h1 t0
  generalize hg : w.heap.size = g at *
  have HG := Lib.hid hg
  clear hg
  have hta := tassert_run
  go_wp2_with fail
  go_loopw [6, 7] (fun u t wr => ∃ (v : Value) (P l' : List Nat), Hid (Tg S w x m g hs (P.filter (fun k => !hB hs k)) (P.filter (hB hs)) (l' ++ P.filter (hB hs)) l' v u t wr ∧ Tq l P l')) (fun _ _ wr => rowLen wr x)
  case atStart => exact ⟨v, [], l, Lib.hid ⟨by simpa using T0.out, Q0.out⟩⟩
  case round =>
    clear T0 Q0
    rename_i u6 u7
    obtain ⟨v, P, l', HT⟩ := hrel
    have hlen : l'.length ≤ 32 := by
      have h1 := HT.out.2.pm.length_eq
      have h2 := H.out.len
      simp at h1; omega
    obtain ⟨A, cap, hv, hcap⟩ := form_of HT.out.1.hr.row
    have c1 := HT.out.1.hr.at1
    have f1 := HT.out.1.hr.blk.frozen 1
    have hxr := HT.out.1.hr.blk.lt
    have hgr := HT.out.1.fo.size
    rw [HG.out] at hgr
    obtain ⟨z, hz⟩ : ∃ z, z = l'.length := ⟨_, rfl⟩
    have HZ := Lib.hid hz
    have hrl : rowLen wr x = z := by rw [hz]; exact HT.out.1.hr.rowLen
    have HRL := Lib.hid hrl
    clear hrl
    rw [← hz] at hv hcap hlen
    clear hz
    rcases Nat.eq_zero_or_pos z with h0 | h0
    · subst h0
      have c1' := c1
      rw [hv] at c1'
      obtain ⟨A7, c7, e7, -⟩ := form_of HT.out.1.rt
      generalize hn7 : (P.filter (hB hs)).length = n7 at e7
      have HN7 := Lib.hid hn7
      clear hn7
      have HT' := HT
      subst e7
      clear HT
      have HT := HT'
      clear HT'
      have hl0 : l' = [] := List.length_eq_zero_iff.1 HZ.out.symm
      subst hl0
      have hs3 := HR.store HT.out.1.hr.blk HT.out.1.rt
      have fo3 := HT.out.1.fo.set (p := ⟨x, 1, none⟩) (.inl H.out.sx) (.slice A7 n7 c7)
      clear c1
      subst hv
      have HS3 := Lib.hid hs3
      have FO3 := Lib.hid fo3
      clear hs3 fo3
      go_wp2_with fail
      go_ret
      have r6 : RW (wr.setCell ⟨x, 1, none⟩ (.slice A7 n7 c7)) w.heap.size u6 (P.filter (fun k => !hB hs k)) := HT.out.1.ru.kept (row := some x) (gone _) (.inr (own_apart_blk HT.out.1.ru HT.out.1.hr.blk (by decide)))
      obtain ⟨k2, hm2, hk2⟩ := HT.out.1.mp
      have hm3 : MapB (wr.setCell ⟨x, 1, none⟩ (.slice A7 n7 c7)) m k2 := hm2.stay (Below.heap_setCell wr ⟨x, 1, none⟩ _ m (hm2.ne HT.out.1.hr.blk))
      have pm : P.Perm l := by have := HT.out.2.pm; simpa using this
      have nd := pm.nodup_iff.2 H.out.nd
      refine ⟨u6, _, P, hs, rfl, r6, ⟨⟨HS3.out.blk, HS3.out.row.zero⟩, ⟨k2, hm3, by simpa using hk2⟩, ?_, ⟨.inl H.out.sx, ?_⟩, ⟨.inl H.out.sm, ?_⟩, hp_of_sorted _ (HT.out.2.srt.filter _), ?_, nd.filter _⟩, FO3.out, pm, HT.out.2.srt, ?_⟩
      · intro i hi
        refine ⟨.inr (HT.out.1.rt.lt i hi).1, fun e => ?_⟩
        rcases HT.out.1.ut with h1 | h1
        · rw [h1] at e; cases e
        · exact h1 (e.trans hi.symm)
      · exact own_apart_blk HT.out.1.ru HT.out.1.hr.blk (by decide)
      · exact hm2.ne_own HT.out.1.ru
      · intro k hk
        exact H.out.rng k (pm.mem_iff.1 (List.mem_filter.1 hk).1)
      · intro i
        rw [AM.out i, HKS.out]
        rw [List.take_of_length_le (by rw [HL.out]; exact Nat.le_refl _)]
    · obtain ⟨y, hy⟩ : ∃ y, z = y + 1 := ⟨z - 1, by omega⟩
      subst hy
      have hzl : l'.length = y + 1 := HZ.out.symm
      have cP := hpop_any (fun b => b = x ∨ v.ownBlock = some b) x (.map (some m)) v l' y wr HT.out.1.hr hzl (by omega) HT.out.2.hp (.inl rfl) (fun i hi => .inr hi)
      have hk32 : gd l' 0 ∈ l := HT.out.2.pm.mem_iff.1 (List.mem_append_right _ (by rw [gd_lt l' 0 (by omega)]; exact List.getElem_mem _))
      have HK := Lib.hid hk32
      clear hk32 hzl
      rw [hv] at c1
      go_wp2_with fail
      refine cP.mono ?_
      rintro e w2 ⟨rfl, l2, v2, r2, p2, hp2, lt2⟩
      have hT2 := HT.out.1.pop H.out.sx r2
      have hQ2 := HT.out.2.pop H.out.nd p2 hp2 lt2
      have HP2 := Lib.hid p2
      have HR2 := Lib.hid hT2.hr.rowLen
      have HL2 : Hid (l2.length = y) := Lib.hid (by have := p2.length_eq; have := HZ.out; simp at *; omega)
      clear cP r2 p2 hp2 lt2 c1 f1
      obtain ⟨k, hk⟩ : ∃ k, gd l' 0 = k := ⟨_, rfl⟩
      rw [hk] at hQ2 ⊢
      have HKE := Lib.hid hk
      clear hk
      obtain ⟨kd, hkd⟩ : ∃ kd, kd = ((k / 8 : Nat) : Int) := ⟨_, rfl⟩
      obtain ⟨kv, hkv⟩ : ∃ kv, kv = ((k % 8 : Nat) : Int) := ⟨_, rfl⟩
      rw [← hkd, ← hkv]
      have HPZ : Hid ((kd, kv) = pz k) := Lib.hid (by rw [hkd, hkv]; rfl)
      have HPL : Hid (pl2 k = [.int .i64 kd, .int .i64 kv]) := Lib.hid (by rw [hkd, hkv]; rfl)
      have Q2 := Lib.hid hQ2
      have T2 := Lib.hid hT2
      clear hkd hkv hQ2 hT2
      have hg2 : g ≤ w2.heap.size := by have := T2.out.fo.size; have := HG.out; omega
      have hb3 : Below w2.heap.size w2 (w2.alloc (.cells #[.int .i64 kd, .int .i64 kv] 111)) := (Below.refl _ _).alloc (Nat.le_refl _) _
      have hb5 : Below w2.heap.size w2 (((w2.alloc (.cells #[.int .i64 kd, .int .i64 kv] 111)).alloc (.cells #[] 125)).alloc (.cells #[.int .i64 kd, .int .i64 kv] 111)) := (hb3.alloc (by simp) _).alloc (by simp; omega) _
      have HM3 := Lib.hid (T2.out.below hb3).hm
      have T5 := Lib.hid (T2.out.below hb5)
      clear hb3 hb5
      obtain ⟨i0, hi, hz0, hz1, hz2⟩ := info_parts infoPl
      have HI := Lib.hid hi; have HZ0 := Lib.hid hz0; have HZ1 := Lib.hid hz1; have HZ2 := Lib.hid hz2; clear hi hz0 hz1 hz2
      by_cases hin : (kd, kv) ∈ hs
      · have q1 := look_in HM3.out kd kv true (by simpa using hin) (w2.alloc (.cells #[.int .i64 kd, .int .i64 kv] 111)) rfl
        have HIN : Hid (hB hs k = true) := Lib.hid (by unfold hB; rw [← HPZ.out]; simpa using hin)
        clear hin
        obtain ⟨nb, hnb⟩ : ∃ nb, nb = (P.filter (hB hs)).length := ⟨_, rfl⟩
        have hnb32 : nb ≤ 32 := by
          have h1 := HT.out.2.pm.length_eq
          have h2 := H.out.len
          have h3 := List.length_filter_le (hB hs) P
          simp at h1; omega
        have HNB := Lib.hid hnb
        clear hnb
        go_wp2_with (at_builtin; refine wpList_append_lies _ rfl _ _ 96 rfl w.heap.size 111 i0 _ 2 16 Try.underlying96 HI.out HZ0.out HZ1.out HZ2.out rfl (by decide) u7 (P.filter (hB hs)).length (pls (P.filter (hB hs))) rfl T5.out.rt ⟨w2.heap.size + 1 + 1, 0, none⟩ 1 1 [.int .i64 kd, .int .i64 kv] rfl rfl (by have := row_new ((w2.alloc (.cells #[.int .i64 kd, .int .i64 kv] 111)).alloc (.cells #[] 125)) [.int .i64 kd, .int .i64 kv] 111; simpa using this) (by intro u hu; simp at hu; rcases hu with rfl | rfl <;> rfl) (by omega) (by unfold maxLen; have := HNB.out; omega) (by have := HNB.out; omega) (by have := T5.out.fo.size; exact this) _ rfl ?_)
        intro gg cap6 w6 own6 gr6 hat6 hlt6
        have hC : (P.filter (hB hs) ++ [k]).length = (P.filter (hB hs)).length + 1 := by simp
        have own7 : RW w6 w.heap.size (.slice (some ⟨gg, 0, none⟩) (P.filter (hB hs) ++ [k]).length cap6) (P.filter (hB hs) ++ [k]) := by
          unfold RW; rw [hC, pls_append, pls_one, HPL.out]; exact own6
        have T6 := T5.out.left own7 gr6 (hat6.imp id (fun e => by rw [e]; simp))
        rw [hC] at T6
        have e1 : (P ++ [k]).filter (hB hs) = P.filter (hB hs) ++ [k] := by rw [List.filter_append]; simp [HIN.out]
        have e2 : (P ++ [k]).filter (fun k => !hB hs k) = P.filter (fun k => !hB hs k) := by rw [List.filter_append]; simp [HIN.out]
        have T7 : Tg S w x m g hs ((P ++ [k]).filter (fun k => !hB hs k)) ((P ++ [k]).filter (hB hs)) (l2 ++ (P ++ [k]).filter (hB hs)) l2 v2 u6 (.slice (some ⟨gg, 0, none⟩) ((P.filter (hB hs)).length + 1) cap6) w6 := by
          rw [e1, e2]
          refine T6.congr (fun a => ?_)
          have := HP2.out.mem_iff (a := a)
          rw [HKE.out] at this
          simp only [List.mem_append, List.mem_cons, List.not_mem_nil, or_false] at this ⊢
          rw [← this]
          constructor
          · rintro ((rfl | h) | h)
            · exact .inr (.inr rfl)
            · exact .inl h
            · exact .inr (.inl h)
          · rintro (h | h | rfl)
            · exact .inl (.inr h)
            · exact .inr h
            · exact .inl (.inl rfl)
        have T8 := Lib.hid T7
        clear own6 own7 gr6 hat6 hlt6 T6 T7 e1 e2 hC q1
        go_wp2_with fail
        go_roundw
        case rel => exact ⟨v2, P ++ [k], l2, Lib.hid ⟨T8.out, Q2.out⟩⟩
        case measure => rw [HRL.out, T8.out.hr.rowLen]; have := HL2.out; omega
      · have q1 := look_in HM3.out kd kv false (by simpa using hin) (w2.alloc (.cells #[.int .i64 kd, .int .i64 kv] 111)) rfl
        have HIN : Hid (hB hs k = false) := Lib.hid (by unfold hB; rw [← HPZ.out]; simpa using hin)
        clear hin
        go_wp2_with fail
        change Code.wp _ _ _ _ ((w2.alloc (.cells [Value.int .i64 kd, .int .i64 kv].toArray 111)).alloc (.cells #[] 125))
        have hb4 : Below w2.heap.size w2 ((w2.alloc (.cells [Value.int .i64 kd, .int .i64 kv].toArray 111)).alloc (.cells #[] 125)) := ((Below.refl _ _).alloc (Nat.le_refl _) _).alloc (by simp) _
        have hk4 : Blk ((w2.alloc (.cells [Value.int .i64 kd, .int .i64 kv].toArray 111)).alloc (.cells #[] 125)) w2.heap.size 111 [.int .i64 kd, .int .i64 kv] := (Blk.new _ _ _).alloc _
        have T4 := Lib.hid (T2.out.below hb4)
        clear q1 hb4 T5 HM3
        generalize (w2.alloc (.cells [Value.int .i64 kd, .int .i64 kv].toArray 111)).alloc (.cells #[] 125) = w4 at *
        obtain ⟨k4, hm4, hk4e⟩ := T4.out.mp
        obtain ⟨es, clock, ho, hrun⟩ := hm4.del (pz k)
        rw [← HPZ.out] at hrun
        have r1 : ∀ ty, (Builtin.delete_ #[94, 111] ty #[.map (some m), .agg #[.int .i64 kd, .int .i64 kv]]).run Try.prog w4 = .ok (.tuple #[]) (setBlock w4 m (.map es clock)) := fun ty => (hrun ty w4 rfl).1
        have r2 : ∀ ty, (Builtin.delete_ #[94, 111] ty #[.map (some m), .agg #[.int .i64 kd, .int .i64 kv]]).run Try.prog w4.drew = .ok (.tuple #[]) (setBlock w4.drew m (.map es clock)) := fun ty => (hrun ty w4.drew rfl).1
        have gr := (hrun 0 w4.drew rfl).2.1
        have hb := (hrun 0 w4.drew rfl).2.2
        have hnd := Tq.nodup Q2.out H.out.nd
        have hmm : ∀ i, i ∈ k4.erase (pz k) ↔ i ∈ (l2 ++ P.filter (hB hs)).map pz := by
          intro i
          rw [hm4.nd.mem_erase_iff, hk4e i]
          have hkn : k ∉ l2 ++ P.filter (hB hs) := by
            intro h
            rw [List.append_assoc, List.nodup_append] at hnd
            obtain ⟨h1, h2, h3⟩ := hnd
            rcases List.mem_append.1 h with h | h
            · exact (List.nodup_cons.1 h2).1 h
            · exact h3 k (List.mem_filter.1 h).1 k List.mem_cons_self rfl
          simp only [List.mem_map]
          have hp2 := fun a => HP2.out.mem_iff (a := a)
          rw [HKE.out] at hp2
          constructor
          · rintro ⟨h1, a, h2, rfl⟩
            refine ⟨a, ?_, rfl⟩
            rcases List.mem_append.1 h2 with h2 | h2
            · rcases List.mem_cons.1 ((hp2 a).2 h2) with rfl | h3
              · exact absurd rfl h1
              · exact List.mem_append_left _ h3
            · exact List.mem_append_right _ h2
          · rintro ⟨a, h2, rfl⟩
            refine ⟨fun e => hkn (pz_inj e ▸ h2), a, ?_, rfl⟩
            rcases List.mem_append.1 h2 with h2 | h2
            · exact List.mem_append_left _ ((hp2 a).1 (List.mem_cons_of_mem _ h2))
            · exact List.mem_append_right _ h2
        have T5 := Lib.hid ((T4.out.drewN 1).mapped H.out.sm gr hb ho hmm)
        have hk5 := (hk4.drewN 1).grown gr (fun e => hm4.ne hk4 (by injection e with e; exact e.symm))
        have x0 := T4.out.hr.at0
        have b0 := hk4.cell 0
        have b1 := hk4.cell 1
        simp only [List.getElem?_cons_zero, List.getElem?_cons_succ] at b0 b1
        have HK5 := Lib.hid hk5
        clear hrun gr hb hmm hnd ho hk4e hm4 hk4 hk5
        generalize w2.heap.size = g2 at *
        go_region
        all_goals
          clear r1 r2 x0 b0 b1
          generalize setBlock w4.drew m (.map es clock) = w5 at *
          have b0 := HK5.out.cell 0
          have b1 := HK5.out.cell 1
          have hlt5 := HK5.out.lt
          simp only [List.getElem?_cons_zero, List.getElem?_cons_succ] at b0 b1
          have T6 := Lib.hid (T5.out.below (show Below w5.heap.size w5 (w5.alloc (.cells #[.int .i64 kd, .int .i64 kv] 111)) from (Below.refl _ _).alloc (Nat.le_refl _) _))
          obtain ⟨nb, hnb⟩ : ∃ nb, nb = (P.filter (fun k => !hB hs k)).length := ⟨_, rfl⟩
          have hnb32 : nb ≤ 32 := by
            have h1 := HT.out.2.pm.length_eq
            have h2 := H.out.len
            have h3 := List.length_filter_le (fun k => !hB hs k) P
            simp at h1; omega
          have HNB := Lib.hid hnb
          clear hnb
          go_wp2_with (at_builtin; refine wpList_append_lies _ rfl _ _ 95 rfl w.heap.size 111 i0 _ 2 16 Try.underlying95 HI.out HZ0.out HZ1.out HZ2.out rfl (by decide) u6 (P.filter (fun k => !hB hs k)).length (pls (P.filter (fun k => !hB hs k))) rfl T6.out.ru ⟨w5.heap.size, 0, none⟩ 1 1 [.int .i64 kd, .int .i64 kv] rfl rfl (row_new w5 [.int .i64 kd, .int .i64 kv] 111) (by intro u hu; simp at hu; rcases hu with rfl | rfl <;> rfl) (by omega) (by unfold maxLen; have := HNB.out; omega) (by have := HNB.out; omega) (by have := T6.out.fo.size; exact this) _ rfl ?_)
          intro gg cap6 w6 own6 gr6 hat6 hlt6
          have hC : (P.filter (fun k => !hB hs k) ++ [k]).length = (P.filter (fun k => !hB hs k)).length + 1 := by simp
          have own7 : RW w6 w.heap.size (.slice (some ⟨gg, 0, none⟩) (P.filter (fun k => !hB hs k) ++ [k]).length cap6) (P.filter (fun k => !hB hs k) ++ [k]) := by
            unfold RW; rw [hC, pls_append, pls_one, HPL.out]; exact own6
          have T7 := T6.out.take own7 gr6 (hat6.imp id (fun e => by rw [e]; simp))
          rw [hC] at T7
          have e1 : (P ++ [k]).filter (hB hs) = P.filter (hB hs) := by rw [List.filter_append]; simp [HIN.out]
          have e2 : (P ++ [k]).filter (fun k => !hB hs k) = P.filter (fun k => !hB hs k) ++ [k] := by rw [List.filter_append]; simp [HIN.out]
          have T8 : Hid (Tg S w x m g hs ((P ++ [k]).filter (fun k => !hB hs k)) ((P ++ [k]).filter (hB hs)) (l2 ++ (P ++ [k]).filter (hB hs)) l2 v2 (.slice (some ⟨gg, 0, none⟩) ((P.filter (fun k => !hB hs k)).length + 1) cap6) u7 w6) := Lib.hid (by rw [e1, e2]; exact T7)
          clear own6 own7 gr6 hat6 hlt6 T7 e1 e2 hC b0 b1
          go_wp2_with fail
          go_roundw
          case rel => exact ⟨v2, P ++ [k], l2, Lib.hid ⟨T8.out, Q2.out⟩⟩
          case measure => rw [HRL.out, T8.out.hr.rowLen]; have := HL2.out; omega
end Go.Proofs.Ytjmdgjpepogogaa
