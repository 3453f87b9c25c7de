/-
  Contracts of package tlb: remove, Drop, DropAll, add, Put.
-/
import Derived.Test.YtiegonnnokldkaaTlb5
namespace Go.Proofs.Ytiegonnnokldkaa
open Go.RowKit
set_option linter.unusedVariables false

set_option maxRecDepth 100000 in
theorem rem_any (g c : Nat) (l : List Ln) (F : Value) (f : Ln → Bool) (w : World) (h : PT w g c l.length l) (ht : Tst w F f) :
    Calls Try.prog 28 #[.pointer (some ⟨g, 0, none⟩), F] w fun e w' => e = .returned (.int .i64 ((l.length : Int) - ((l.filter fun x => !f x).length : Int))) ∧ PT w' g c (l.filter fun x => !f x).length (l.filter fun x => !f x) ∧ w.grownBy w' (some g) := by
  have hlen := h.len
  have hfl := List.length_filter_le (fun x => !f x) l
  have H : Hid (PT w g c l.length l) := Lib.hid h
  have HT := Lib.hid ht
  clear h ht
  go_enter Try.func28, Try.ntmps28
  go_wp2_with fail
  refine (prow_any g c l.length l _ H.out (by omega)).mono ?_
  rintro e w1 ⟨rfl, q, rfl⟩
  go_wp2_with fail
  refine (delf_any g c l.length l F f _ (H.out.drewN q) (HT.out.below (bdrewN (Below.refl _ _) q))).mono ?_
  rintro e w2 ⟨rfl, h2, g2⟩
  have g2' : w.grownBy w2 (some g) := gtrans (gdrewN (grefl w _) q) g2
  clear g2
  generalize hL : l.filter (fun x => !f x) = L at *
  have HL := Lib.hid hL; clear hL
  have hc := h2.count
  have hf := h2.frozen 1
  have h3 := h2.count_ L.length
  clear h2
  go_wp2_with fail
  go_ret
  rw [HL.out]
  exact ⟨rfl, h3, gset g2' (.inl rfl) _⟩

theorem filter_lt (l : List Ln) (f : Ln → Bool) : decide ((0 : Int) < (l.length : Int) - ((l.filter fun x => !f x).length : Int)) = decide (0 ≤ idx f l) := by
  rcases idx_cases f l with ⟨he, hall⟩ | ⟨k, hk, he, hy, _⟩
  · have e : l.filter (fun x => !f x) = l := by rw [List.filter_eq_self]; intro x hx; simp [hall x hx]
    rw [e, he]; simp
  · have : (l.filter fun x => !f x).length < l.length := by
      rcases Nat.lt_or_ge (l.filter fun x => !f x).length l.length with h | h
      · exact h
      · have e := List.length_filter_eq_length_iff.1 (show (l.filter fun x => !f x).length = l.length from Nat.le_antisymm (List.length_filter_le _ _) h)
        have := e l[k] (List.getElem_mem hk)
        simp [hy] at this
    rw [he, decide_eq_true (by omega), decide_eq_true (by omega)]

set_option maxRecDepth 100000 in
theorem pdrop_any (g c : Nat) (l : List Ln) (d p : Int) (w : World) (h : PT w g c l.length l) :
    Calls Try.prog 13 #[.pointer (some ⟨g, 0, none⟩), .int .i64 d, .int .i64 p] w fun e w' => e = .returned (.bool (getB l d p)) ∧ PT w' g c (l.filter fun x => !isK d p x).length (l.filter fun x => !isK d p x) ∧ w.grownBy w' (some g) := by
  have H : Hid (PT w g c l.length l) := Lib.hid h
  have HF := Lib.hid (filter_lt l (isK d p))
  clear h
  go_enter Try.func13, Try.ntmps13
  go_wp2_with fail
  refine (of_tst d p _).mono ?_
  rintro e w1 ⟨F, rfl, ht, b1⟩
  go_wp2_with fail
  refine (rem_any g c l F _ _ (H.out.below b1 H.out.lt) ht).mono ?_
  rintro e w2 ⟨rfl, h2, g2⟩
  have g2' : w.grownBy w2 (some g) := gtrans (gof b1 _) g2
  clear g2 b1 ht
  generalize hn : (l.length : Int) - ((l.filter fun x => !isK d p x).length : Int) = n at *
  clear hn
  go_wp2_with fail
  go_ret
  refine ⟨?_, h2, g2'⟩
  rw [getB, ← HF.out]
  rfl

set_option maxRecDepth 100000 in
theorem pall_any (g c : Nat) (l : List Ln) (d : Int) (w : World) (h : PT w g c l.length l) :
    Calls Try.prog 15 #[.pointer (some ⟨g, 0, none⟩), .int .i64 d] w fun e w' => e = .returned (.int .i64 ((l.length : Int) - ((l.filter fun x => !isD d x).length : Int))) ∧ PT w' g c (l.filter fun x => !isD d x).length (l.filter fun x => !isD d x) ∧ w.grownBy w' (some g) := by
  have H : Hid (PT w g c l.length l) := Lib.hid h
  clear h
  go_enter Try.func15, Try.ntmps15
  go_wp2_with fail
  change Calls _ _ _ (w.alloc (.cells [Value.int .i64 d].toArray 3)) _
  have b1 : Below w.heap.size w (w.alloc (.cells [Value.int .i64 d].toArray 3)) := (Below.refl _ _).alloc (Nat.le_refl _) _
  refine (rem_any g c l _ (isD d) _ (H.out.below b1 H.out.lt) (.inr ⟨w.heap.size, d, rfl, rfl, Blk.new _ _ _⟩)).mono ?_
  rintro e w2 ⟨rfl, h2, g2⟩
  have g2' : w.grownBy w2 (some g) := gtrans (gof b1 _) g2
  clear g2 b1
  go_wp2_with fail
  go_ret
  exact ⟨rfl, h2, g2'⟩

/-- What 'add' leaves. -/
def addL (c : Nat) (l : List Ln) (x : Ln) : List Ln := if c < l.length + 1 then (l ++ [x]).tail else l ++ [x]

set_option maxRecDepth 100000 in
theorem add_any (g c : Nat) (l : List Ln) (x : Ln) (w : World) (h : PT w g c l.length l) (h1 : 1 ≤ c) (h2 : c ≤ 16) (h3 : l.length ≤ c) :
    Calls Try.prog 25 #[.pointer (some ⟨g, 0, none⟩), .agg #[.int .i64 x.d, .int .i64 x.p, .int .i64 x.f, .int .i64 x.m]] w fun e w' => e = .returned (.tuple #[]) ∧ PT w' g c (addL c l x).length (addL c l x) ∧ w.grownBy w' (some g) := by
  have hgl := h.lt
  have H : Hid (PT w g c l.length l) := Lib.hid h
  obtain ⟨n, hn⟩ : ∃ n, n = l.length := ⟨_, rfl⟩
  rw [← hn] at h3
  have h17 : (n : Int) < 17 := by omega
  have HN := Lib.hid hn; clear hn h
  go_enter Try.func25, Try.ntmps25
  have hv : Blk (w.alloc (.cells (ints (ln4 x)).toArray 51)) w.heap.size 51 (ints (ln4 x)) := Blk.new _ _ _
  have b1 : Below w.heap.size w (w.alloc (.cells (ints (ln4 x)).toArray 51)) := (Below.refl _ _).alloc (Nat.le_refl _) _
  go_wp2_with fail
  change Code.wp _ _ _ _ (w.alloc (.cells (ints (ln4 x)).toArray 51))
  generalize w.alloc (.cells (ints (ln4 x)).toArray 51) = wa at *
  generalize hh : w.heap.size = h at *
  have hwh : w.heap.size ≤ h := by omega
  have HH := Lib.hid hh; clear hh
  have hta := H.out.below b1 hgl
  have hca := hta.count
  rw [← HN.out] at hca
  have htd : PT wa.drew g c l.length l := hta
  have v0 := hv.cell 0
  have v1 := hv.cell 1
  have v2 := hv.cell 2
  have v3 := hv.cell 3
  simp only [ln4, ints, List.map_cons, List.getElem?_cons_zero, List.getElem?_cons_succ] at v0 v1 v2 v3
  have ht2 := PT.put4_end (show PT wa.drew g c l.length l from hta) (by have := HN.out; omega) x
  rw [← HN.out] at ht2
  have g2 : w.grownBy ((((wa.drew.setCell ⟨g, 2 + n * 4, none⟩ (.int .i64 x.d)).setCell ⟨g, 2 + n * 4 + 1, none⟩ (.int .i64 x.p)).setCell ⟨g, 2 + n * 4 + 2, none⟩ (.int .i64 x.f)).setCell ⟨g, 2 + n * 4 + 3, none⟩ (.int .i64 x.m)) (some g) :=
    gtrans (show w.grownBy wa.drew (some g) from gof (show Below w.heap.size w wa.drew by rw [HH.out]; exact b1.drew) _) (setCells_grown wa.drew g _ _ _ _ rfl rfl rfl rfl _ _ _ _)
  clear hta hv b1
  go_still_tail 9, (by kernel_rfl)
  change wpList _ _ _ _ _ wa.drew
  generalize wa.drew = wd at *
  obtain ⟨u0, r0⟩ := htd.room (by have := HN.out; omega) 0 (by omega)
  obtain ⟨u1, r1⟩ := htd.room (by have := HN.out; omega) 1 (by omega)
  obtain ⟨u2, r2⟩ := htd.room (by have := HN.out; omega) 2 (by omega)
  obtain ⟨u3, r3⟩ := htd.room (by have := HN.out; omega) 3 (by omega)
  rw [← HN.out] at r0 r1 r2 r3
  have f0 := htd.frozen (2 + n * 4)
  have f1 := htd.frozen (2 + n * 4 + 1)
  have f2 := htd.frozen (2 + n * 4 + 2)
  have f3 := htd.frozen (2 + n * 4 + 3)
  simp only [Nat.add_zero] at r0
  clear htd v0 v1 v2 v3 hca
  have f4 := ht2.frozen 1
  have hc4 := ht2.count
  have h5 := ht2.count_ (n + 1)
  have g5 := gset g2 (p := ⟨g, 1, none⟩) (.inl rfl) (.int .i64 ((n + 1 : Nat) : Int))
  rw [show ((n + 1 : Nat) : Int) = (n : Int) + 1 by omega] at h5 g5
  clear ht2 g2
  go_wp2_with fail
  clear r0 r1 r2 r3 f0 f1 f2 f3 f4 hc4
  generalize World.setCell _ (⟨g, 1, none⟩ : Addr) (.int .i64 ((n : Int) + 1)) = w5 at *
  have hc5 := h5.count
  rw [show ((n + 1 : Nat) : Int) = (n : Int) + 1 by omega] at hc5
  have hs5 := h5.size
  by_cases hcn : c < n + 1
  · have hd : decide (c < n + 1) = true := by simpa using hcn
    obtain ⟨y, l', hl'⟩ : ∃ y l', l ++ [x] = y :: l' := by
      cases h0 : l ++ [x] with
      | nil => simp at h0
      | cons y l' => exact ⟨y, l', rfl⟩
    have hll : l'.length = n := by
      have := congrArg List.length hl'
      simp only [List.length_append, List.length_cons, List.length_nil] at this
      have := HN.out; omega
    have HA : Hid (addL c l x = l') := Lib.hid (by unfold addL; rw [← HN.out, if_pos hcn, hl']; rfl)
    rw [hl'] at h5
    clear hl'
    go_wp2_with fail
    go_quiet (fail)
    replace h5 := h5.drewN nq
    replace g5 := gdrewN g5 nq
    clear hc5 hs5
    generalize w5.drewN nq = w6 at *
    go_wp2_with fail
    refine (prow_any g c (n + 1) _ _ h5 (by omega)).mono ?_
    rintro e w7 ⟨rfl, q7, rfl⟩
    replace h5 := h5.drewN q7
    replace g5 := gdrewN g5 q7
    generalize w6.drewN q7 = w7 at *
    have hdel := del_any g c (n + 1) y l' w7 h5 (by omega)
    rw [hll] at hdel
    go_wp2_with fail
    refine hdel.mono ?_
    clear hdel
    rintro e w8 ⟨rfl, h8, g8⟩
    have g9 := gtrans g5 g8
    have hf8 := h8.frozen 1
    have hc8 := h8.count
    have h9 := h8.count_ n
    have g10 := gset g9 (p := ⟨g, 1, none⟩) (.inl rfl) (.int .i64 (n : Int))
    clear h8 g8 h5 g5 g9
    go_wp2_with fail
    go_end0
    rw [HA.out, hll]
    exact ⟨rfl, h9, g10⟩
  · have hd : decide (c < n + 1) = false := by simpa using hcn
    have HA : Hid (addL c l x = l ++ [x]) := Lib.hid (by unfold addL; rw [← HN.out, if_neg hcn])
    go_wp2_with fail
    go_quiet (fail)
    go_wp2_with fail
    go_end0
    rw [HA.out, List.length_append, ← HN.out]
    exact ⟨rfl, h5.drewN nq, gdrewN g5 nq⟩

/-- What a Put leaves, and what it answers. -/
def putA (c : Nat) (l : List Ln) (x : Ln) : List Ln := if mayB x.d x.p x.f x.m then putL c l x else l
def putC (x : Ln) : Int := if mayB x.d x.p x.f x.m then 0 else 600

set_option maxRecDepth 100000 in
theorem pput_any (g c : Nat) (l : List Ln) (d p f m : Int) (w : World) (h : PT w g c l.length l) (h1 : 1 ≤ c) (h2 : c ≤ 16) (h3 : l.length ≤ c) :
    Calls Try.prog 11 #[.pointer (some ⟨g, 0, none⟩), .int .i64 d, .int .i64 p, .agg #[.int .i64 f, .int .i64 m]] w fun e w' => e = .returned (.int .i64 (putC ⟨d, p, f, m⟩)) ∧ PT w' g c (putA c l ⟨d, p, f, m⟩).length (putA c l ⟨d, p, f, m⟩) ∧ w.grownBy w' (some g) := by
  have hgl := h.lt
  have H : Hid (PT w g c l.length l) := Lib.hid h
  clear h
  cases hm : mayB d p f m with
  | false =>
    have HM := Lib.hid hm
    have HA : Hid (putA c l ⟨d, p, f, m⟩ = l) := Lib.hid (by simp [putA, hm])
    have HC : Hid (putC ⟨d, p, f, m⟩ = 600) := Lib.hid (by simp [putC, hm])
    clear hm
    go_enter Try.func11, Try.ntmps11
    go_wp2_with fail
    refine (may_any d p f m _).mono ?_
    rw [HM.out]
    rintro e w1 ⟨rfl, b1⟩
    have b1' : Below w.heap.size w w1 := Below.down ((Below.refl _ _).alloc (Nat.le_refl _) _) b1 (by simp)
    clear b1
    go_wp2_with fail
    go_ret
    rw [HA.out, HC.out]
    exact ⟨rfl, H.out.below b1' hgl, gof b1' _⟩
  | true =>
    have HM := Lib.hid hm
    have HA : Hid (putA c l ⟨d, p, f, m⟩ = putL c l ⟨d, p, f, m⟩) := Lib.hid (by simp [putA, hm])
    have HC : Hid (putC ⟨d, p, f, m⟩ = 0) := Lib.hid (by simp [putC, hm])
    clear hm
    go_enter Try.func11, Try.ntmps11
    go_wp2_with fail
    change Calls _ _ _ (w.alloc (.cells (ints [f, m]).toArray 33)) _
    have hv : Blk (w.alloc (.cells (ints [f, m]).toArray 33)) w.heap.size 33 (ints [f, m]) := Blk.new _ _ _
    have hwv : Below w.heap.size w (w.alloc (.cells (ints [f, m]).toArray 33)) := (Below.refl _ _).alloc (Nat.le_refl _) _
    generalize w.alloc (.cells (ints [f, m]).toArray 33) = wv at *
    generalize hh : w.heap.size = h at *
    have hwh : w.heap.size ≤ h := by omega
    have hhw : h ≤ w.heap.size := by omega
    have HH := Lib.hid hh; clear hh
    refine (may_any d p f m _).mono ?_
    rw [HM.out]
    rintro e w1 ⟨rfl, b1⟩
    replace hv := hv.below b1 hv.lt
    replace hwv := Below.down hwv b1 (by have := hwv.size; omega)
    clear b1
    go_wp2_with fail
    refine (prow_any g c l.length l _ (H.out.below hwv hgl) (by have := H.out.len; omega)).mono ?_
    rintro e w2 ⟨rfl, q, rfl⟩
    replace hv := hv.drewN q
    replace hwv := bdrewN hwv q
    generalize w1.drewN q = w2 at *
    go_wp2_with fail
    refine (of_tst d p _).mono ?_
    rintro e w3 ⟨F, rfl, ht, b3⟩
    replace hv := hv.below b3 hv.lt
    replace hwv := Below.down hwv b3 (by have := hwv.size; omega)
    clear b3
    go_wp2_with fail
    refine (ifn_any g c l.length l F _ _ (H.out.below hwv hgl) ht).mono ?_
    rintro e w4 ⟨rfl, b4⟩
    replace hv := hv.below b4 hv.lt
    replace hwv := Below.down hwv b4 (by have := hwv.size; omega)
    clear b4 ht
    have hpt := H.out.below hwv hgl
    have g4 := gof (show Below w.heap.size w w4 by rw [HH.out]; exact hwv) (some g)
    have v0 := hv.cell 0
    have v1 := hv.cell 1
    simp only [ints, List.map_cons, List.getElem?_cons_zero, List.getElem?_cons_succ] at v0 v1
    clear hv hwv
    rcases idx_cases (isK d p) l with ⟨he, _⟩ | ⟨k, hk, he, hy, _⟩
    · rw [he]
      have HL : Hid (putL c l ⟨d, p, f, m⟩ = addL c l ⟨d, p, f, m⟩) := Lib.hid (by unfold putL addL; rw [he, if_neg (by omega)])
      clear he
      go_wp2_with fail
      refine (add_any g c l ⟨d, p, f, m⟩ w4 hpt h1 h2 h3).mono ?_
      rintro e w5 ⟨rfl, h5, g5⟩
      have g6 := gtrans g4 g5
      clear g4 g5 hpt v0 v1
      go_wp2_with fail
      go_ret
      rw [HA.out, HC.out, HL.out]
      exact ⟨rfl, h5, g6⟩
    · rw [he]
      have hyy := (isK_iff _ _ _).1 hy
      have HL : Hid (putL c l ⟨d, p, f, m⟩ = l.set k ⟨l[k].d, l[k].p, f, m⟩) := Lib.hid (by unfold putL; rw [he, if_pos (by omega), hyy.1, hyy.2]; rfl)
      clear he hyy hy
      obtain ⟨c0, c1, c2, c3⟩ := hpt.at_ k hk
      have f2 := hpt.frozen (2 + k * 4 + 2)
      have f3 := hpt.frozen (2 + k * 4 + 3)
      have h5 := hpt.put2 k hk f m
      have g5 := gset (gset g4 (p := ⟨g, 2 + k * 4 + 2, none⟩) (.inl rfl) (.int .i64 f)) (p := ⟨g, 2 + k * 4 + 3, none⟩) (.inl rfl) (.int .i64 m)
      have hdk : decide ((k : Int) < 0) = false := by simp
      clear c0 c1 hpt g4
      go_wp2_with fail
      go_ret
      rw [HA.out, HC.out, HL.out, List.length_set]
      exact ⟨rfl, h5, g5⟩

end Go.Proofs.Ytiegonnnokldkaa
