/-
  Layer 16's law DescUnlike: it answers true for every input.
-/
import Derived.Test.YtoahemnenjhlhaaDeAwake
import Derived.Deep.CutBlock
import Derived.Deep.DeepCutAuto
namespace Go.Proofs.Ytoahemnenjhlhaa
open Go.RowKit
set_option linter.unusedVariables false
set_option maxRecDepth 100000

/-- What stands behind the switch: the two descriptors, and the third that has parts of both. -/
structure Ul (w : World) (g k : Nat) (o x l b n o2 x2 l2 b2 n2 : Int) (w' : World) : Prop where
  a : Blk w' g 23 [.int .i64 o, .int .i64 x, .int .i64 l, .int .i64 b, .int .i64 n]
  c : Blk w' k 23 [.int .i64 o2, .int .i64 x2, .int .i64 l2, .int .i64 b2, .int .i64 n2]
  s : w.heap.size ≤ w'.heap.size
  b : Below w.heap.size w w'
theorem Ul.next {w w1 w2 : World} {g k : Nat} {o x l b n o2 x2 l2 b2 n2 : Int} (h : Ul w g k o x l b n o2 x2 l2 b2 n2 w1) (hb : Below w1.heap.size w1 w2) : Ul w g k o x l b n o2 x2 l2 b2 n2 w2 :=
  ⟨h.a.below hb h.a.lt, h.c.below hb h.c.lt, (Below.down h.b hb h.s).size, Below.down h.b hb h.s⟩

/-- The ways of two descriptors. -/
theorem ul_ways (o x l b n o2 x2 l2 b2 n2 : Int) : (o = o2 ∧ x = x2 ∧ l = l2 ∧ b = b2 ∧ n = n2) ∨ o ≠ o2 ∨ (o = o2 ∧ x ≠ x2) ∨ (o = o2 ∧ x = x2 ∧ l ≠ l2) ∨ (o = o2 ∧ x = x2 ∧ l = l2 ∧ b ≠ b2) ∨ (o = o2 ∧ x = x2 ∧ l = l2 ∧ b = b2 ∧ n ≠ n2) := by omega

set_option maxHeartbeats 2000000 in
theorem law_DescUnlike (o x l b n o' x' l' b' n' q : Int) (wq : (Lit.int .i64 q).wf = true) (w : World) :
    Calls Try.prog 6 #[.agg #[.int .i64 o, .int .i64 x, .int .i64 l, .int .i64 b, .int .i64 n], .agg #[.int .i64 o', .int .i64 x', .int .i64 l', .int .i64 b', .int .i64 n'], .int .i64 q] w fun e w' => e = .returned (.bool true) ∧ Below w.heap.size w w' := by
  have hU := u64b q
  generalize hU' : IntKind.u64.wrap q = U at hU
  obtain ⟨hU0, hU1⟩ := hU
  have hI0 : 0 ≤ U % 6 := by omega
  have hI1 : U % 6 < 6 := by omega
  generalize hI' : U % 6 = I at hI0 hI1
  clear wq
  have ta := (Blk.new w 23 [.int .i64 o, .int .i64 x, .int .i64 l, .int .i64 b, .int .i64 n]).alloc (.cells #[.int .i64 o', .int .i64 x', .int .i64 l', .int .i64 b', .int .i64 n'] 23)
  have tb := Blk.new (w.alloc (.cells #[.int .i64 o, .int .i64 x, .int .i64 l, .int .i64 b, .int .i64 n] 23)) 23 [.int .i64 o', .int .i64 x', .int .i64 l', .int .i64 b', .int .i64 n']
  have z0 : Below w.heap.size w ((w.alloc (.cells #[.int .i64 o, .int .i64 x, .int .i64 l, .int .i64 b, .int .i64 n] 23)).alloc (.cells #[.int .i64 o', .int .i64 x', .int .i64 l', .int .i64 b', .int .i64 n'] 23)) := ((Below.refl _ _).alloc (Nat.le_refl _) _).alloc (by simp) _
  go_enter Try.func6, Try.ntmps6
  go_wp2_with fail
  have hsz : (w.alloc (.cells #[.int .i64 o, .int .i64 x, .int .i64 l, .int .i64 b, .int .i64 n] 23)).heap.size = w.heap.size + 1 := by simp
  rw [hsz] at tb
  generalize (w.alloc (.cells #[.int .i64 o, .int .i64 x, .int .i64 l, .int .i64 b, .int .i64 n] 23)).alloc (.cells #[.int .i64 o', .int .i64 x', .int .i64 l', .int .i64 b', .int .i64 n'] 23) = w0 at *
  generalize w.heap.size + 1 = gb at *
  obtain ⟨ga, hga⟩ : ∃ ga, w.heap.size = ga := ⟨_, rfl⟩
  rw [hga] at ta
  simp only [hga]
  have HGA := Lib.hid hga
  clear hga hsz
  refine (deawake_any _).mono ?_
  rintro e w1 ⟨rfl, b1⟩
  have ta1 := ta.below b1 ta.lt
  have tb1 := tb.below b1 tb.lt
  have z1 := Below.down z0 b1 z0.size
  obtain ⟨a0, a1, a2, a3, a4⟩ := five_at ta1
  clear ta tb z0 b1
  go_upto_block 0 with fail
  have tc := Blk.new w1 23 [.int .i64 o, .int .i64 x, .int .i64 l, .int .i64 b, .int .i64 n]
  have z2 := z1.alloc z1.size (.cells #[.int .i64 o, .int .i64 x, .int .i64 l, .int .i64 b, .int .i64 n] 23)
  have ta2 := ta1.alloc (.cells #[.int .i64 o, .int .i64 x, .int .i64 l, .int .i64 b, .int .i64 n] 23)
  have tb2 := tb1.alloc (.cells #[.int .i64 o, .int .i64 x, .int .i64 l, .int .i64 b, .int .i64 n] 23)
  have hk : w.heap.size ≤ w1.heap.size := z1.size
  have hlt : ga < w1.heap.size := ta1.lt
  generalize w1.alloc (.cells #[.int .i64 o, .int .i64 x, .int .i64 l, .int .i64 b, .int .i64 n] 23) = w2 at *
  generalize w1.heap.size = k at *
  have hne : k ≠ ga := by omega
  clear ta1 tb1 z1 a0 a1 a2 a3 a4
  go_cut [] (fun wx => ∃ o2 x2 l2 b2 n2 : Int, Hid (Ul w ga k o x l b n o2 x2 l2 b2 n2 wx))
  case first =>
    obtain ⟨b0, b1, b2, b3, b4⟩ := five_at tb2
    obtain ⟨c0, c1, c2, c3, c4⟩ := five_at tc
    obtain ⟨f0, f1, f2, f3, f4⟩ := five_fr tc
    have hs2 := z2.size
    rcases (show I = 0 ∨ I = 1 ∨ I = 2 ∨ I = 3 ∨ I = 4 ∨ I = 5 by omega) with rfl | rfl | rfl | rfl | rfl | rfl
    · as_aux_lemma =>
        go_wp2_with fail
        go_meet
        exact ⟨o', x, l, b, n, Lib.hid ⟨ta2.far (p := ⟨k, 0, none⟩) (Ne.symm hne) _, tc.set 0 (.int .i64 o'), (by simpa [World.setCell] using hs2), z2.setCell hk _⟩⟩
    · as_aux_lemma =>
        go_wp2_with fail
        go_meet
        exact ⟨o, x', l, b, n, Lib.hid ⟨ta2.far (p := ⟨k, 1, none⟩) (Ne.symm hne) _, tc.set 1 (.int .i64 x'), (by simpa [World.setCell] using hs2), z2.setCell hk _⟩⟩
    · as_aux_lemma =>
        go_wp2_with fail
        go_meet
        exact ⟨o, x, l', b, n, Lib.hid ⟨ta2.far (p := ⟨k, 2, none⟩) (Ne.symm hne) _, tc.set 2 (.int .i64 l'), (by simpa [World.setCell] using hs2), z2.setCell hk _⟩⟩
    · as_aux_lemma =>
        go_wp2_with fail
        go_meet
        exact ⟨o, x, l, b', n, Lib.hid ⟨ta2.far (p := ⟨k, 3, none⟩) (Ne.symm hne) _, tc.set 3 (.int .i64 b'), (by simpa [World.setCell] using hs2), z2.setCell hk _⟩⟩
    · as_aux_lemma =>
        go_wp2_with fail
        go_meet
        exact ⟨o, x, l, b, n', Lib.hid ⟨ta2.far (p := ⟨k, 4, none⟩) (Ne.symm hne) _, tc.set 4 (.int .i64 n'), (by simpa [World.setCell] using hs2), z2.setCell hk _⟩⟩
    · as_aux_lemma =>
        go_wp2_with fail
        go_meet
        exact ⟨o', x', l', b', n', Lib.hid ⟨(((((ta2.far (p := ⟨k, 0, none⟩) (Ne.symm hne) (.int .i64 o')).far (p := ⟨k, 1, none⟩) (Ne.symm hne) (.int .i64 x')).far (p := ⟨k, 2, none⟩) (Ne.symm hne) (.int .i64 l')).far (p := ⟨k, 3, none⟩) (Ne.symm hne) (.int .i64 b')).far (p := ⟨k, 4, none⟩) (Ne.symm hne) (.int .i64 n')), (((((tc.set 0 (.int .i64 o')).set 1 (.int .i64 x')).set 2 (.int .i64 l')).set 3 (.int .i64 b')).set 4 (.int .i64 n')), (by simpa [World.setCell] using hs2), (((((z2.setCell hk (.int .i64 o')).setCell hk (.int .i64 x')).setCell hk (.int .i64 l')).setCell hk (.int .i64 b')).setCell hk (.int .i64 n'))⟩⟩
  case rest =>
    clear ta2 tb2 tc z2
    obtain ⟨o2, x2, l2, b2, n2, hcut⟩ := hcut
    have hca := hcut.out.a
    obtain ⟨a0, a1, a2, a3, a4⟩ := five_at hca
    clear hca
    have HA : Hid (deB o x l b n = true) ∨ Hid (deB o x l b n = false) := by cases h : deB o x l b n; exact .inr (Lib.hid rfl); exact .inl (Lib.hid rfl)
    have HC : Hid (deB o2 x2 l2 b2 n2 = true) ∨ Hid (deB o2 x2 l2 b2 n2 = false) := by cases h : deB o2 x2 l2 b2 n2; exact .inr (Lib.hid rfl); exact .inl (Lib.hid rfl)
    go_wp2_with fail
    rcases HA with HA | HA
    · rcases HC with HC | HC
      · rcases ul_ways o x l b n o2 x2 l2 b2 n2 with ⟨rfl, rfl, rfl, rfl, rfl⟩ | hd
        · obtain ⟨Sa, hSa⟩ : ∃ Sa, str (deL o x l b n) = Sa := ⟨_, rfl⟩
          have HSa := Lib.hid hSa
          have HSc := HSa
          clear hSa
          refine (deput_is o x l b n 0 Sa _ HSa.out (by rw [HA.out]; rfl)).mono ?_
          rintro e w4 ⟨rfl, b4⟩
          have h4 := hcut.out.next b4
          clear b4
          obtain ⟨c0, c1, c2, c3, c4⟩ := five_at h4.c
          have H4 := Lib.hid h4
          clear h4
          go_wp2_with fail
          refine (deput_is o x l b n 0 Sa _ HSc.out (by rw [HC.out]; rfl)).mono ?_
          rintro e w5 ⟨rfl, b5⟩
          have h5 := H4.out.next b5
          clear b5 H4 c0 c1 c2 c3 c4
          obtain ⟨a0, a1, a2, a3, a4⟩ := five_at h5.a
          obtain ⟨c0, c1, c2, c3, c4⟩ := five_at h5.c
          have H5 := Lib.hid h5
          clear h5
          go_wp2_with fail
          refine (num_any _ _).mono ?_; rintro e w' ⟨rfl, rfl⟩
          go_wp2_with fail
          refine (num_any _ _).mono ?_; rintro e w' ⟨rfl, rfl⟩
          go_wp2_with fail
          go_ret
          exact ⟨rfl, H5.out.b⟩
        · have hn : str (deL o x l b n) ≠ str (deL o2 x2 l2 b2 n2) := by
            intro e
            have e2 := str_inj e
            rw [deL_yes HA.out, deL_yes HC.out] at e2
            have := de_inj HA.out HC.out e2
            omega
          obtain ⟨Sa, hSa⟩ : ∃ Sa, str (deL o x l b n) = Sa := ⟨_, rfl⟩
          obtain ⟨Sc, hSc⟩ : ∃ Sc, str (deL o2 x2 l2 b2 n2) = Sc := ⟨_, rfl⟩
          rw [hSa, hSc] at hn
          have HSa := Lib.hid hSa; have HSc := Lib.hid hSc
          have hn2 := str_ne hn
          clear hSa hSc hn
          refine (deput_is o x l b n 0 Sa _ HSa.out (by rw [HA.out]; rfl)).mono ?_
          rintro e w4 ⟨rfl, b4⟩
          have h4 := hcut.out.next b4
          clear b4
          obtain ⟨c0, c1, c2, c3, c4⟩ := five_at h4.c
          have H4 := Lib.hid h4
          clear h4
          go_wp2_with fail
          refine (deput_is o2 x2 l2 b2 n2 0 Sc _ HSc.out (by rw [HC.out]; rfl)).mono ?_
          rintro e w5 ⟨rfl, b5⟩
          have h5 := H4.out.next b5
          clear b5 H4 c0 c1 c2 c3 c4
          obtain ⟨a0, a1, a2, a3, a4⟩ := five_at h5.a
          obtain ⟨c0, c1, c2, c3, c4⟩ := five_at h5.c
          have H5 := Lib.hid h5
          clear h5
          go_wp2_with fail
          refine (num_any _ _).mono ?_; rintro e w' ⟨rfl, rfl⟩
          go_wp2_with fail
          refine (num_any _ _).mono ?_; rintro e w' ⟨rfl, rfl⟩
          rcases hd with hd | ⟨rfl, hd⟩ | ⟨rfl, rfl, hd⟩ | ⟨rfl, rfl, rfl, hd⟩ | ⟨rfl, rfl, rfl, rfl, hd⟩
          all_goals
            go_wp2_with fail
            go_ret
            exact ⟨rfl, H5.out.b⟩
      · obtain ⟨Sa, hSa⟩ : ∃ Sa, str (deL o x l b n) = Sa := ⟨_, rfl⟩
        have HSa := Lib.hid hSa
        clear hSa
        refine (deput_is o x l b n 0 Sa _ HSa.out (by rw [HA.out]; rfl)).mono ?_
        rintro e w4 ⟨rfl, b4⟩
        have h4 := hcut.out.next b4
        clear b4
        obtain ⟨c0, c1, c2, c3, c4⟩ := five_at h4.c
        have H4 := Lib.hid h4
        clear h4
        go_wp2_with fail
        refine (deput_is o2 x2 l2 b2 n2 1600 ⟨#[]⟩ _ (by rw [deL_no HC.out]; rfl) (by rw [HC.out]; rfl)).mono ?_
        rintro e w5 ⟨rfl, b5⟩
        have h5 := H4.out.next b5
        clear b5 H4 c0 c1 c2 c3 c4
        obtain ⟨a0, a1, a2, a3, a4⟩ := five_at h5.a
        obtain ⟨c0, c1, c2, c3, c4⟩ := five_at h5.c
        have H5 := Lib.hid h5
        clear h5
        go_wp2_with fail
        refine (num_any _ _).mono ?_; rintro e w' ⟨rfl, rfl⟩
        go_wp2_with fail
        refine (num_any _ _).mono ?_; rintro e w' ⟨rfl, rfl⟩
        go_wp2_with fail
        refine (num_any _ _).mono ?_; rintro e w' ⟨rfl, rfl⟩
        go_wp2_with fail
        refine (num_any _ _).mono ?_; rintro e w' ⟨rfl, rfl⟩
        go_wp2_with fail
        go_ret
        exact ⟨rfl, H5.out.b⟩
    · rcases HC with HC | HC
      · obtain ⟨Sc, hSc⟩ : ∃ Sc, str (deL o2 x2 l2 b2 n2) = Sc := ⟨_, rfl⟩
        have HSc := Lib.hid hSc
        clear hSc
        refine (deput_is o x l b n 1600 ⟨#[]⟩ _ (by rw [deL_no HA.out]; rfl) (by rw [HA.out]; rfl)).mono ?_
        rintro e w4 ⟨rfl, b4⟩
        have h4 := hcut.out.next b4
        clear b4
        obtain ⟨c0, c1, c2, c3, c4⟩ := five_at h4.c
        have H4 := Lib.hid h4
        clear h4
        go_wp2_with fail
        refine (deput_is o2 x2 l2 b2 n2 0 Sc _ HSc.out (by rw [HC.out]; rfl)).mono ?_
        rintro e w5 ⟨rfl, b5⟩
        have h5 := H4.out.next b5
        clear b5 H4 c0 c1 c2 c3 c4
        obtain ⟨a0, a1, a2, a3, a4⟩ := five_at h5.a
        obtain ⟨c0, c1, c2, c3, c4⟩ := five_at h5.c
        have H5 := Lib.hid h5
        clear h5
        go_wp2_with fail
        refine (num_any _ _).mono ?_; rintro e w' ⟨rfl, rfl⟩
        go_wp2_with fail
        refine (num_any _ _).mono ?_; rintro e w' ⟨rfl, rfl⟩
        go_wp2_with fail
        refine (num_any _ _).mono ?_; rintro e w' ⟨rfl, rfl⟩
        go_wp2_with fail
        go_ret
        exact ⟨rfl, H5.out.b⟩
      · refine (deput_is o x l b n 1600 ⟨#[]⟩ _ (by rw [deL_no HA.out]; rfl) (by rw [HA.out]; rfl)).mono ?_
        rintro e w4 ⟨rfl, b4⟩
        have h4 := hcut.out.next b4
        clear b4
        obtain ⟨c0, c1, c2, c3, c4⟩ := five_at h4.c
        have H4 := Lib.hid h4
        clear h4
        go_wp2_with fail
        refine (deput_is o2 x2 l2 b2 n2 1600 ⟨#[]⟩ _ (by rw [deL_no HC.out]; rfl) (by rw [HC.out]; rfl)).mono ?_
        rintro e w5 ⟨rfl, b5⟩
        have h5 := H4.out.next b5
        clear b5 H4 c0 c1 c2 c3 c4
        obtain ⟨a0, a1, a2, a3, a4⟩ := five_at h5.a
        obtain ⟨c0, c1, c2, c3, c4⟩ := five_at h5.c
        have H5 := Lib.hid h5
        clear h5
        go_wp2_with fail
        refine (num_any _ _).mono ?_; rintro e w' ⟨rfl, rfl⟩
        go_wp2_with fail
        refine (num_any _ _).mono ?_; rintro e w' ⟨rfl, rfl⟩
        go_wp2_with fail
        refine (num_any _ _).mono ?_; rintro e w' ⟨rfl, rfl⟩
        go_wp2_with fail
        go_ret
        exact ⟨rfl, H5.out.b⟩

end Go.Proofs.Ytoahemnenjhlhaa
