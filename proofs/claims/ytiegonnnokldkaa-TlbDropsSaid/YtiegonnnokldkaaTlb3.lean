/-
  Contracts of package tlb: Delete and DeleteFunc over its row.
-/
import Derived.Test.YtiegonnnokldkaaTlb2
import Derived.Test.YtiegonnnokldkaaRun
namespace Go.Proofs.Ytiegonnnokldkaa
open Go.RowKit
set_option linter.unusedVariables false

set_option maxRecDepth 100000 in
theorem del_any (g c n : Nat) (x : Ln) (l : List Ln) (w : World) (h : PT w g c n (x :: l)) (hl : 0 < l.length) :
    Calls Try.prog 32 #[.slice (some ⟨g, 2, none⟩) (l.length + 1 : Nat) 17, .int .i64 0, .int .i64 1] w fun e w' => e = .returned (.slice (some ⟨g, 2, none⟩) l.length 17) ∧ PT w' g c n l ∧ w.grownBy w' (some g) := by
  have hlen := h.len
  simp only [List.length_cons] at hlen
  obtain ⟨w1, ha, ⟨y, h1⟩, g1⟩ := PT.shifted (show PT w.drew g c n (x :: l) from h) hl
  have h1l : l.length < (l ++ [y]).length := by simp
  obtain ⟨w2, hc, h2, g2⟩ := h1.cleared l.length h1l
  rw [show (l ++ [y]).length - l.length = 1 by simp] at hc
  rw [List.take_left] at h2
  generalize l.length = m at *
  have hg12 : w.grownBy w2 (some g) := gtrans (show w.grownBy w1 (some g) from ⟨g1.os, g1.tape, g1.output, g1.size, g1.block⟩) g2
  clear h1l h h1 g1 g2
  have hsl := fun w => sl_from w g 2 (m + 1) 17 1 (by omega) (by omega)
  simp only [show m + 1 - 1 = m by omega, show 17 - 1 = 16 by omega, show 2 + 1 * 4 = 6 by omega] at hsl
  have hsl2 : ∀ w, (Instr.slice 59 (.slice (some ⟨g, 2, none⟩) (m + 1) 17) (some (.int .i64 1)) none none).run Try.prog w = _ := hsl
  clear hsl
  go_enter Try.func32, Try.ntmps32
  go_wp2_with fail
  go_still_tail 6, (by kernel_rfl)
  change wpList _ _ _ _ _ w.drew
  refine wpList_append_run rfl _ _ _ rfl _ _ _ _ rfl rfl (ha _ _) ?_
  clear ha
  go_wp2_with fail
  go_ret
  exact ⟨rfl, h2, hg12⟩

/-- A row on the way: i lines kept of the first j, those from j on as they were. -/
structure Way (w w' : World) (g c n : Nat) (l : List Ln) (f : Ln → Bool) (i j : Nat) (L : List Ln) : Prop where
  tab : PT w' g c n L
  len : L.length = l.length
  kept : L.take i = (l.take j).filter (fun x => !f x)
  rest : L.drop j = l.drop j
  gr : w.grownBy w' (some g)

theorem setCells_grown (w : World) (g : Nat) (a b c d : Addr) (ha : a.block = g) (hb : b.block = g) (hc : c.block = g) (hd : d.block = g) (x y z u : Value) : w.grownBy ((((w.setCell a x).setCell b y).setCell c z).setCell d u) (some g) :=
  gset (gset (gset (gset (grefl w _) (.inl ha) _) (.inl hb) _) (.inl hc) _) (.inl hd) _

/-- All of it: just the lines kept. -/
theorem Way.all {w w' : World} {g c n : Nat} {l : List Ln} {f : Ln → Bool} {i j : Nat} {L : List Ln} (h : Way w w' g c n l f i j L) (hij : i < j) (hj : j = l.length) : L.take i = l.filter (fun x => !f x) ∧ i = (l.filter (fun x => !f x)).length := by
  have e := h.kept
  rw [hj, List.take_length] at e
  refine ⟨e, ?_⟩
  rw [← e, List.length_take, h.len]
  omega

theorem Way.at_ {w w' : World} {g c n : Nat} {l : List Ln} {f : Ln → Bool} {i j : Nat} {L : List Ln} (h : Way w w' g c n l f i j L) (hj : j < l.length) : ∃ hj' : j < L.length, L[j] = l[j] := by
  have hl := h.len
  refine ⟨by omega, ?_⟩
  have e := congrArg (fun x => x[0]?) h.rest
  simp only [List.getElem?_drop, Nat.add_zero] at e
  rw [List.getElem?_eq_getElem (by omega), List.getElem?_eq_getElem hj] at e
  exact Option.some.inj e

theorem Way.skip {w w' w1 : World} {g c n : Nat} {l : List Ln} {f : Ln → Bool} {i j : Nat} {L : List Ln} (h : Way w w' g c n l f i j L) (hb : Below w'.heap.size w' w1) (hj : j < l.length) (hf : f l[j] = true) : Way w w1 g c n l f i (j + 1) L := by
  refine ⟨h.tab.below hb h.tab.lt, h.len, ?_, ?_, gtrans h.gr (gof hb _)⟩
  · rw [h.kept, List.take_succ_eq_append_getElem hj, List.filter_append]
    simp [hf]
  · have := congrArg (List.drop 1) h.rest
    simpa [List.drop_drop] using this

theorem Way.keep {w w' w1 : World} {g c n : Nat} {l : List Ln} {f : Ln → Bool} {i j : Nat} {L : List Ln} (h : Way w w' g c n l f i j L) (hij : i < j) (hj : j < l.length) (hf : f l[j] = false)
    (ht : PT w1 g c n (L.set i l[j])) (hg : w'.grownBy w1 (some g)) : Way w w1 g c n l f (i + 1) (j + 1) (L.set i l[j]) := by
  have hl := h.len
  refine ⟨ht, by rw [List.length_set, hl], ?_, ?_, gtrans h.gr hg⟩
  · rw [List.take_succ_eq_append_getElem hj, List.filter_append, ← h.kept]
    rw [List.take_succ_eq_append_getElem (by rw [List.length_set]; omega), List.getElem_set_self]
    rw [List.take_set_of_le (Nat.le_refl _)]
    simp [hf]
  · rw [List.drop_set_of_lt (by omega)]
    have := congrArg (List.drop 1) h.rest
    simpa [List.drop_drop] using this

set_option maxRecDepth 100000 in
theorem delf_any (g c n : Nat) (l : List Ln) (F : Value) (f : Ln → Bool) (w : World) (h : PT w g c n l) (ht : Tst w F f) :
    Calls Try.prog 33 #[.slice (some ⟨g, 2, none⟩) l.length 17, F] w fun e w' => e = .returned (.slice (some ⟨g, 2, none⟩) (l.filter fun x => !f x).length 17) ∧ PT w' g c n (l.filter fun x => !f x) ∧ w.grownBy w' (some g) := by
  have hlen := h.len
  have hgl := h.lt
  have H : Hid (PT w g c n l) := Lib.hid h
  have HT := Lib.hid ht
  clear h
  rcases idx_cases f l with ⟨he, hall⟩ | ⟨k, hk, he, hy, hb⟩
  · have hfl : l.filter (fun x => !f x) = l := by
      rw [List.filter_eq_self]; intro x hx; simp [hall x hx]
    rw [hfl]
    have HE := Lib.hid he; clear he hall hfl
    rcases ht with ⟨a, b, d, p, rfl, rfl, ha, hb⟩ | ⟨a, d, rfl, rfl, ha⟩
    all_goals
      first | unfold fK at * | unfold fD at *
      go_enter Try.func33, Try.ntmps33
      go_wp2_with fail
      refine (ifn_any g c n l _ _ _ H.out HT.out).mono ?_
      rw [HE.out]
      rintro e w1 ⟨rfl, b1⟩
      go_wp2_with fail
      go_ret
      exact ⟨rfl, H.out.below b1 hgl, gof b1 _⟩
  · have HE := Lib.hid he; clear he
    have hw0 : Way w w g c n l f k (k + 1) l := by
      refine ⟨H.out, rfl, ?_, rfl, grefl _ _⟩
      rw [List.take_succ_eq_append_getElem hk, List.filter_append]
      have e1 : (l.take k).filter (fun x => !f x) = l.take k := by
        rw [List.filter_eq_self]
        intro x hx
        obtain ⟨j, hj, rfl⟩ := List.getElem_of_mem hx
        simp only [List.length_take] at hj
        rw [List.getElem_take, hb j (by omega)]; rfl
      rw [e1]
      simp [hy]
    have HW0 := Lib.hid hw0; clear hw0 hb hy
    obtain ⟨m, hm⟩ : ∃ m, m = l.length := ⟨_, rfl⟩
    rw [← hm] at hlen hk ⊢
    have HM := Lib.hid hm; clear hm
    rcases ht with ⟨a, b, d, p, rfl, rfl, ha, hb⟩ | ⟨a, d, rfl, rfl, ha⟩
    · unfold fK at *
      have HA := Lib.hid ha; have HB := Lib.hid hb
      clear ha hb
      go_enter Try.func33, Try.ntmps33
      go_wp2_with fail
      have hi := ifn_any g c n l _ _ w H.out HT.out
      rw [HE.out, ← HM.out] at hi
      refine hi.mono ?_
      clear hi
      rintro e w1 ⟨rfl, b1⟩
      have hw1 : Way w w1 g c n l (isK d p) k (k + 1) l := ⟨H.out.below b1 hgl, rfl, HW0.out.kept, rfl, gof b1 _⟩
      clear b1
      have hk1 : ((k : Int) == -1) = false := by simp
      go_wp2_with fail
      go_loopw [5, 6] (fun vi vj wr => ∃ (i j : Nat) (L : List Ln), i < j ∧ j ≤ m ∧ vi = .int .i64 i ∧ vj = .int .i64 j ∧ Way w wr g c n l (isK d p) i j L) (fun _ j _ => m - (intOf j).toNat)
      case atStart => exact ⟨k, k + 1, l, by omega, by omega, rfl, by go_num, hw1⟩
      case round =>
        clear hw1 hk1
        obtain ⟨i, j, L, hij, hjm, rfl, rfl, hway⟩ := hrel
        by_cases hlt : j < m
        · have hjl : j < l.length := by rw [← HM.out]; exact hlt
          obtain ⟨hjL, hLj⟩ := hway.at_ hjl
          have hlL := hway.len
          rw [← HM.out] at hlL
          obtain ⟨c0, c1, c2, c3⟩ := hway.tab.at_ j hjL
          rw [hLj] at c0 c1 c2 c3
          have hgr := hway.tab.lt
          generalize hx : l[j] = x at *
          have HX := Lib.hid hx; clear hx hLj
          have HLL := Lib.hid hlL; clear hlL
          go_wp2_with fail
          clear c0 c1 c2 c3
          change Calls _ _ _ (wr.alloc (.cells (ints (ln4 x)).toArray 51)) _
          have hv : Blk (wr.alloc (.cells (ints (ln4 x)).toArray 51)) wr.heap.size 51 (ints (ln4 x)) := Blk.new _ _ _
          have hwv : Below wr.heap.size wr (wr.alloc (.cells (ints (ln4 x)).toArray 51)) := (Below.refl _ _).alloc (Nat.le_refl _) _
          generalize wr.alloc (.cells (ints (ln4 x)).toArray 51) = wv at *
          generalize hh : wr.heap.size = h at *
          refine (of1_any _ _ d p x _ (((HA.out.grown hway.gr (fun e => H.out.apart_int HA.out (by injection e with e; exact e.symm))).below hwv (by have := (HA.out.grown hway.gr (fun e => H.out.apart_int HA.out (by injection e with e; exact e.symm))).lt; omega)).cell 0) (((HB.out.grown hway.gr (fun e => H.out.apart_int HB.out (by injection e with e; exact e.symm))).below hwv (by have := (HB.out.grown hway.gr (fun e => H.out.apart_int HB.out (by injection e with e; exact e.symm))).lt; omega)).cell 0)).mono ?_
          rintro e w2 ⟨rfl, b2⟩
          have hv2 := hv.below b2 hv.lt
          have b2' : Below wr.heap.size wr w2 := by rw [hh]; exact Below.down hwv b2 (by have := hwv.size; omega)
          clear hv hwv b2
          cases hf : isK d p x with
          | true =>
            have HF := Lib.hid hf; clear hf
            have hw2 := hway.skip b2' hjl (by rw [HX.out]; exact HF.out)
            clear hway b2' hv2
            go_wp2_with fail
            go_roundw
            case rel => exact ⟨i, j + 1, L, by omega, by omega, rfl, by go_num, hw2⟩
            case measure => simp [intOf]; omega
          | false =>
            have HF := Lib.hid hf; clear hf
            have ht2 := hway.tab.below b2' hway.tab.lt
            obtain ⟨i0, i1, i2, i3⟩ := ht2.at_ i (by omega)
            have f0 := ht2.frozen (2 + i * 4)
            have f1 := ht2.frozen (2 + i * 4 + 1)
            have f2 := ht2.frozen (2 + i * 4 + 2)
            have f3 := ht2.frozen (2 + i * 4 + 3)
            have v0 := hv2.cell 0
            have v1 := hv2.cell 1
            have v2 := hv2.cell 2
            have v3 := hv2.cell 3
            simp only [ln4, ints, List.map_cons, List.getElem?_cons_zero, List.getElem?_cons_succ] at v0 v1 v2 v3
            clear hv2
            have ht3 := ht2.put4 i (by omega) x
            have hw3 := Way.keep (w1 := (((w2.setCell ⟨g, 2 + i * 4, none⟩ (.int .i64 x.d)).setCell ⟨g, 2 + i * 4 + 1, none⟩ (.int .i64 x.p)).setCell ⟨g, 2 + i * 4 + 2, none⟩ (.int .i64 x.f)).setCell ⟨g, 2 + i * 4 + 3, none⟩ (.int .i64 x.m)) hway hij hjl (by rw [HX.out]; exact HF.out) (by rw [HX.out]; exact ht3) (gtrans (gof b2' _) (setCells_grown w2 g _ _ _ _ rfl rfl rfl rfl _ _ _ _))
            clear hway ht2 ht3 b2'
            go_wp2_with fail
            go_roundw
            case rel => exact ⟨i + 1, j + 1, _, by omega, by omega, by go_num, by go_num, hw3⟩
            case measure => simp [intOf]; omega
        · have hjm' : j = l.length := by rw [← HM.out]; omega
          obtain ⟨w3, hc, h3, g3⟩ := hway.tab.cleared i (by rw [hway.len]; omega)
          obtain ⟨e1, e2⟩ := hway.all hij hjm'
          rw [hway.len, ← HM.out] at hc
          rw [e1] at h3
          have g3' := gtrans hway.gr g3
          have E2 := Lib.hid e2
          clear hjm' hway e1 e2 g3
          go_wp2_with fail
          go_ret
          exact ⟨by rw [← E2.out]; rfl, h3, g3'⟩
    · unfold fD at *
      have HA := Lib.hid ha
      clear ha
      go_enter Try.func33, Try.ntmps33
      go_wp2_with fail
      have hi := ifn_any g c n l _ _ w H.out HT.out
      rw [HE.out, ← HM.out] at hi
      refine hi.mono ?_
      clear hi
      rintro e w1 ⟨rfl, b1⟩
      have hw1 : Way w w1 g c n l (isD d) k (k + 1) l := ⟨H.out.below b1 hgl, rfl, HW0.out.kept, rfl, gof b1 _⟩
      clear b1
      have hk1 : ((k : Int) == -1) = false := by simp
      go_wp2_with fail
      go_loopw [5, 6] (fun vi vj wr => ∃ (i j : Nat) (L : List Ln), i < j ∧ j ≤ m ∧ vi = .int .i64 i ∧ vj = .int .i64 j ∧ Way w wr g c n l (isD d) i j L) (fun _ j _ => m - (intOf j).toNat)
      case atStart => exact ⟨k, k + 1, l, by omega, by omega, rfl, by go_num, hw1⟩
      case round =>
        clear hw1 hk1
        obtain ⟨i, j, L, hij, hjm, rfl, rfl, hway⟩ := hrel
        by_cases hlt : j < m
        · have hjl : j < l.length := by rw [← HM.out]; exact hlt
          obtain ⟨hjL, hLj⟩ := hway.at_ hjl
          have hlL := hway.len
          rw [← HM.out] at hlL
          obtain ⟨c0, c1, c2, c3⟩ := hway.tab.at_ j hjL
          rw [hLj] at c0 c1 c2 c3
          have hgr := hway.tab.lt
          generalize hx : l[j] = x at *
          have HX := Lib.hid hx; clear hx hLj
          have HLL := Lib.hid hlL; clear hlL
          go_wp2_with fail
          clear c0 c1 c2 c3
          change Calls _ _ _ (wr.alloc (.cells (ints (ln4 x)).toArray 51)) _
          have hv : Blk (wr.alloc (.cells (ints (ln4 x)).toArray 51)) wr.heap.size 51 (ints (ln4 x)) := Blk.new _ _ _
          have hwv : Below wr.heap.size wr (wr.alloc (.cells (ints (ln4 x)).toArray 51)) := (Below.refl _ _).alloc (Nat.le_refl _) _
          generalize wr.alloc (.cells (ints (ln4 x)).toArray 51) = wv at *
          generalize hh : wr.heap.size = h at *
          refine (all1_any _ d x _ (((HA.out.grown hway.gr (fun e => H.out.apart_int HA.out (by injection e with e; exact e.symm))).below hwv (by have := (HA.out.grown hway.gr (fun e => H.out.apart_int HA.out (by injection e with e; exact e.symm))).lt; omega)).cell 0)).mono ?_
          rintro e w2 ⟨rfl, b2⟩
          have hv2 := hv.below b2 hv.lt
          have b2' : Below wr.heap.size wr w2 := by rw [hh]; exact Below.down hwv b2 (by have := hwv.size; omega)
          clear hv hwv b2
          cases hf : isD d x with
          | true =>
            have HF := Lib.hid hf; clear hf
            have hw2 := hway.skip b2' hjl (by rw [HX.out]; exact HF.out)
            clear hway b2' hv2
            go_wp2_with fail
            go_roundw
            case rel => exact ⟨i, j + 1, L, by omega, by omega, rfl, by go_num, hw2⟩
            case measure => simp [intOf]; omega
          | false =>
            have HF := Lib.hid hf; clear hf
            have ht2 := hway.tab.below b2' hway.tab.lt
            obtain ⟨i0, i1, i2, i3⟩ := ht2.at_ i (by omega)
            have f0 := ht2.frozen (2 + i * 4)
            have f1 := ht2.frozen (2 + i * 4 + 1)
            have f2 := ht2.frozen (2 + i * 4 + 2)
            have f3 := ht2.frozen (2 + i * 4 + 3)
            have v0 := hv2.cell 0
            have v1 := hv2.cell 1
            have v2 := hv2.cell 2
            have v3 := hv2.cell 3
            simp only [ln4, ints, List.map_cons, List.getElem?_cons_zero, List.getElem?_cons_succ] at v0 v1 v2 v3
            clear hv2
            have ht3 := ht2.put4 i (by omega) x
            have hw3 := Way.keep (w1 := (((w2.setCell ⟨g, 2 + i * 4, none⟩ (.int .i64 x.d)).setCell ⟨g, 2 + i * 4 + 1, none⟩ (.int .i64 x.p)).setCell ⟨g, 2 + i * 4 + 2, none⟩ (.int .i64 x.f)).setCell ⟨g, 2 + i * 4 + 3, none⟩ (.int .i64 x.m)) hway hij hjl (by rw [HX.out]; exact HF.out) (by rw [HX.out]; exact ht3) (gtrans (gof b2' _) (setCells_grown w2 g _ _ _ _ rfl rfl rfl rfl _ _ _ _))
            clear hway ht2 ht3 b2'
            go_wp2_with fail
            go_roundw
            case rel => exact ⟨i + 1, j + 1, _, by omega, by omega, by go_num, by go_num, hw3⟩
            case measure => simp [intOf]; omega
        · have hjm' : j = l.length := by rw [← HM.out]; omega
          obtain ⟨w3, hc, h3, g3⟩ := hway.tab.cleared i (by rw [hway.len]; omega)
          obtain ⟨e1, e2⟩ := hway.all hij hjm'
          rw [hway.len, ← HM.out] at hc
          rw [e1] at h3
          have g3' := gtrans hway.gr g3
          have E2 := Lib.hid e2
          clear hjm' hway e1 e2 g3
          go_wp2_with fail
          go_ret
          exact ⟨by rw [← E2.out]; rfl, h3, g3'⟩

end Go.Proofs.Ytiegonnnokldkaa
