/-
  Contracts of config's give, ownersOf, framesUnlike.
-/
import Derived.Test.YtamhnnkmjhapmaaCf2
namespace Go.Proofs.Ytamhnnkmjhapmaa
open Go.RowKit
set_option linter.unusedVariables false
set_option linter.unusedSimpArgs false
set_option maxRecDepth 100000

/-- A table told by a function. -/
def tabL (F : Nat) (T : Nat → Int) : List Int := (List.range F).map T
theorem tabL_len (F : Nat) (T : Nat → Int) : (tabL F T).length = F := by simp [tabL]
theorem tabL_at (F : Nat) (T : Nat → Int) (k : Nat) (h : k < F) : (tabL F T).getD k 0 = T k := by simp [tabL, List.getD, h]
theorem tabL_free (F : Nat) : tabL F freeT = free F := by
  unfold tabL freeT free
  rw [List.map_const', List.length_range]
theorem tabL_set (F : Nat) (T : Nat → Int) (k : Nat) (o : Int) : (tabL F T).set k o = tabL F (updT T k o) := by
  apply List.ext_getElem?
  intro i
  rw [List.getElem?_set]
  by_cases h : i < F
  · have e : ∀ T : Nat → Int, (tabL F T)[i]? = some (T i) := fun T => by simp [tabL, h]
    rw [e, e, tabL_len]
    unfold updT
    by_cases hk : k = i
    · subst hk; simp [h]
    · rw [if_neg hk, if_neg (fun e => hk e.symm)]
  · rw [List.getElem?_eq_none (by rw [tabL_len]; omega), List.getElem?_eq_none (by rw [tabL_len]; omega), tabL_len]
    by_cases hk : k = i
    · subst hk; simp [h]
    · rw [if_neg hk]
theorem tabL_setL (F : Nat) (T : Nat → Int) (x o : Int) (h0 : 0 ≤ x) (h1 : x < F) (h2 : -2 ≤ o) (h3 : o ≤ 3) : setL (tabL F T) x o = tabL F (updT T x.toNat o) ∧ setC (tabL F T).length x o = 0 := by
  have hs : setB (tabL F T).length x o = true := by
    unfold setB; rw [tabL_len]; exact decide_eq_true ⟨h0, h1, h2, h3⟩
  unfold setL setC
  rw [hs]
  exact ⟨by rw [if_pos rfl, tabL_set], rfl⟩
theorem tabL_of (F : Nat) (T : Nat → Int) (x : Int) : (ofC (tabL F T).length x = 200 ∧ fgB F T x = false ∧ ¬ (0 ≤ x ∧ x < F)) ∨ (ofC (tabL F T).length x = 0 ∧ ofN (tabL F T) x = T x.toNat ∧ 0 ≤ x ∧ x < F ∧ fgB F T x = decide (T x.toNat = -1)) := by
  by_cases h : 0 ≤ x ∧ x < F
  · right
    have hb : ofB (tabL F T).length x = true := by unfold ofB; rw [tabL_len]; exact decide_eq_true h
    refine ⟨by unfold ofC; rw [hb]; rfl, ?_, h.1, h.2, by unfold fgB; rw [decide_eq_true h]; rfl⟩
    unfold ofN; rw [hb, if_pos rfl, tabL_at _ _ _ (by omega)]
  · left
    have hb : ofB (tabL F T).length x = false := by unfold ofB; rw [tabL_len]; exact decide_eq_false h
    exact ⟨by unfold ofC; rw [hb]; rfl, by unfold fgB; rw [decide_eq_false h]; rfl, h⟩

/-- One frame given: g the table, y0 and y1 what the function holds. -/
theorem give1_any (x o : Int) (F g y0 y1 : Nat) (T : Nat → Int) (w : World) (hT : Tab w g (tabL F T)) (h0 : Blk w y0 87 [.pointer (some ⟨g, 0, none⟩)]) (h1 : Blk w y1 3 [.int .i64 o]) (ho : -2 ≤ o ∧ o ≤ 3) :
    Calls Try.prog 92 #[.int .i64 x, .pointer (some ⟨y0, 0, none⟩), .pointer (some ⟨y1, 0, none⟩)] w fun e w' => e = .returned (.bool (fgB F T x)) ∧ (∃ T', Tab w' g (tabL F T') ∧ (fgB F T x = true → T' = updT T x.toNat o)) ∧ w.grownBy w' (some g) := by
  have k0 := h0.cell 0
  have k1 := h1.cell 0
  simp only [List.getElem?_cons_zero] at k0 k1
  have hO := pof_any g (tabL F T) x w hT
  have hS := pset_any g (tabL F T) x o w hT
  have HT := Lib.hid hT
  clear h0 h1
  rcases tabL_of F T x with ⟨e1, e2, e3⟩ | ⟨e1, e2, e3, e4, e5⟩
  · rw [e2]
    rw [e1] at hO
    generalize ofN (tabL F T) x = N at *
    have HO := Lib.hid hO
    clear hO hS hT e1 e2 e3
    go_enter Try.func92, Try.ntmps92
    go_wp2_with fail
    refine HO.out.mono ?_
    rintro e w1 ⟨rfl, rfl⟩
    go_wp2_with fail
    go_ret
    exact ⟨rfl, ⟨T, HT.out, fun h => by cases h⟩, grefl _ _⟩
  · rw [e1, e2] at hO
    rw [e5]
    obtain ⟨s1, s2⟩ := tabL_setL F T x o e3 e4 ho.1 ho.2
    rw [s1, s2] at hS
    have HU : Hid (∀ T' : Nat → Int, T' = updT T x.toNat o → T' = updT T x.toNat o) := Lib.hid fun _ h => h
    generalize updT T x.toNat o = U at *
    generalize T x.toNat = N at *
    have HO := Lib.hid hO; have HS := Lib.hid hS
    clear hO hS hT e1 e2 e3 e4 e5 s1 s2 ho
    by_cases hN : N = -1
    · subst hN
      go_enter Try.func92, Try.ntmps92
      go_wp2_with fail
      refine HO.out.mono ?_
      rintro e w1 ⟨rfl, rfl⟩
      go_wp2_with fail
      refine HS.out.mono ?_
      rintro e w2 ⟨rfl, ht, hg⟩
      go_wp2_with fail
      go_ret
      exact ⟨rfl, ⟨U, ht, fun _ => rfl⟩, hg⟩
    · have hN2 : (N == -1) = false := by simpa using hN
      have hR : decide (N = -1) = false := decide_eq_false hN
      have HR := Lib.hid hR
      clear hR hN
      go_enter Try.func92, Try.ntmps92
      go_wp2_with fail
      refine HO.out.mono ?_
      rintro e w1 ⟨rfl, rfl⟩
      go_wp2_with fail
      go_ret
      exact ⟨by rw [HR.out]; rfl, ⟨T, HT.out, fun h => by rw [HR.out] at h; cases h⟩, grefl _ _⟩

/-- What giving a row keeps: W0 the world in which the row stood. -/
def GvI (W0 : World) (F g y0 y1 : Nat) (T : Nat → Int) (o : Int) (l : List Int) (i : Nat) (W : World) : Prop :=
  (∃ T', Tab W g (tabL F T') ∧ ((∀ j, j < i → fgB F (giT o T (l.take j)) (l.getD j 0) = true) → T' = giT o T (l.take i))) ∧ Below W0.heap.size W0 W ∧ Blk W y0 87 [.pointer (some ⟨g, 0, none⟩)] ∧ Blk W y1 3 [.int .i64 o]

theorem Fo.bel {W0 w w' : World} {g : Nat} (h : Fo (· = g) w w') (hb : Below W0.heap.size W0 w) (hg : W0.heap.size ≤ g) : Below W0.heap.size W0 w' := h.below hb hb.size (fun i e => by omega)

theorem give_any (v : Value) (l : List Int) (o : Int) (F g : Nat) (T : Nat → Int) (W0 w : World) (hs : Sl W0 v l.length 1 (ints l)) (hn : l.length ≤ maxLen) (hb : Below W0.heap.size W0 w) (hg : W0.heap.size ≤ g) (hT : Tab w g (tabL F T)) (ho : -2 ≤ o ∧ o ≤ 3) :
    Calls Try.prog 81 #[.pointer (some ⟨g, 0, none⟩), .int .i64 o, v] w fun e w' => e = .returned (.bool (giB F o T l)) ∧ (∃ T', Tab w' g (tabL F T') ∧ (giB F o T l = true → T' = giT o T l)) ∧ Fo (· = g) w w' := by
  obtain ⟨A, cap, rfl, _, _, hA⟩ := hs
  have hglt := hT.lt
  have b1 : Below w.heap.size w (w.alloc (.cells #[.pointer (some ⟨g, 0, none⟩)] 87)) := (Below.refl _ _).alloc (Nat.le_refl _) _
  have b2 : Below w.heap.size w ((w.alloc (.cells #[.pointer (some ⟨g, 0, none⟩)] 87)).alloc (.cells #[.int .i64 o] 3)) := b1.alloc b1.size _
  have k0 : Blk ((w.alloc (.cells #[.pointer (some ⟨g, 0, none⟩)] 87)).alloc (.cells #[.int .i64 o] 3)) w.heap.size 87 [.pointer (some ⟨g, 0, none⟩)] := (Blk.new w _ [.pointer (some ⟨g, 0, none⟩)]).alloc _
  have k1 : Blk ((w.alloc (.cells #[.pointer (some ⟨g, 0, none⟩)] 87)).alloc (.cells #[.int .i64 o] 3)) (w.heap.size + 1) 3 [.int .i64 o] := by
    have := Blk.new (w.alloc (.cells #[.pointer (some ⟨g, 0, none⟩)] 87)) 3 [.int .i64 o]
    simpa using this
  have hsz : ((w.alloc (.cells #[.pointer (some ⟨g, 0, none⟩)] 87)).alloc (.cells #[.int .i64 o] 3)).heap.size = w.heap.size + 1 + 1 := by simp
  obtain ⟨b, oo, hbo⟩ : ∃ b oo, 0 < l.length → A = some ⟨b, oo, none⟩ ∧ b < W0.heap.size ∧ ∀ j u, (ints l)[j]? = some u → W0.cell? ⟨b, oo + j, none⟩ = some u := by
    by_cases h0 : 0 < l.length
    · obtain ⟨b, oo, h1, h2, h3⟩ := hA h0
      exact ⟨b, oo, fun _ => ⟨h1, h2, h3⟩⟩
    · exact ⟨0, 0, fun h => absurd h h0⟩
  have hE := each_Int A b oo l.length cap w.heap.size (w.heap.size + 1) (fun i => .int .i64 (l.getD i 0)) (fun i => fgB F (giT o T (l.take i)) (l.getD i 0)) (· = g) (GvI W0 F g w.heap.size (w.heap.size + 1) T o l)
    ((w.alloc (.cells #[.pointer (some ⟨g, 0, none⟩)] 87)).alloc (.cells #[.int .i64 o] 3)) hn (fun h0 => (hbo h0).1) (fun k hk => by rw [hk]; omega)
    (fun i W W' ⟨⟨T', h1, h2⟩, h3, h4, h5⟩ hW => ⟨⟨T', h1.below hW h1.lt, h2⟩, Below.down h3 hW h3.size, h4.below hW h4.lt, h5.below hW h5.lt⟩)
    (fun i W hi ⟨_, h3, _⟩ => by
      obtain ⟨_, h2, h4⟩ := hbo (by omega)
      exact (h3.cell (p := ⟨b, oo + i, none⟩) h2).trans (h4 _ _ (ints_get l i hi)))
    (fun i W hi hj ⟨⟨T', h1, h2⟩, h3, h4, h5⟩ => by
      rw [h2 hj] at h1
      refine (give1_any (l.getD i 0) o F g _ _ _ W h1 h4 h5 ho).mono ?_
      rintro e w' ⟨rfl, ⟨T2, q1, q2⟩, q3⟩
      have hf : Fo (· = g) W w' := (Fo.refl _ _).grown q3 (fun x hx => .inl (by injection hx with hx; exact hx.symm))
      refine ⟨rfl, ⟨⟨T2, q1, fun hall => ?_⟩, hf.bel h3 hg, hf.blk h4 (fun e => by omega), hf.blk h5 (fun e => by omega)⟩, hf⟩
      rw [q2 (hall i (by omega)), giT_take o l T i hi])
    ⟨⟨T, hT.below b2 hglt, fun _ => rfl⟩, Below.down hb b2 hb.size, k0, k1⟩
  rw [giB_go F o l T] at hE
  have HE := Lib.hid hE
  have HB := Lib.hid b2
  have HI : Hid (∀ w', Upto l.length (GvI W0 F g w.heap.size (w.heap.size + 1) T o l) w' (giB F o T l) → ∃ T', Tab w' g (tabL F T') ∧ (giB F o T l = true → T' = giT o T l)) := Lib.hid (by
    rintro w' ⟨k, hk, ⟨⟨T', h1, h2⟩, -⟩, hkn⟩
    refine ⟨T', h1, fun hg => ?_⟩
    have hkl := hkn hg
    rw [← giB_go F o l T, range_all_iff] at hg
    rw [h2 (fun j hj => hg j (by omega)), hkl, List.take_length])
  clear hE b1 b2 k0 k1 hsz hbo hT hb hA
  generalize giB F o T l = R at *
  go_enter Try.func81, Try.ntmps81
  go_wp2_with fail
  refine HE.out.mono ?_
  rintro e w1 ⟨rfl, hu, hf⟩
  have HU := Lib.hid (HI.out _ hu)
  have HF := Lib.hid ((Fo.of HB.out (· = g)).trans_new hf (fun i hi => .inl hi))
  clear hu hf
  go_wp2_with fail
  go_ret
  exact ⟨rfl, HU.out, HF.out⟩

end Go.Proofs.Ytamhnnkmjhapmaa
