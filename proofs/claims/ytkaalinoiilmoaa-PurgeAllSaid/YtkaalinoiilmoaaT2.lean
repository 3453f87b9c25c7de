/-
  What the proofs lean on: contracts of the program's functions, plain facts.
-/
import Derived.Test.YtkaalinoiilmoaaT1
import Derived.Test.YtkaalinoiilmoaaChecked
import Derived.Deep.RegionHeld3
import Derived.BigRegion
import Derived.StillTailTactics
namespace Go.Proofs.Ytkaalinoiilmoaa
open Go.RowKit
set_option linter.unusedVariables false
set_option linter.unusedSimpArgs false
set_option maxRecDepth 100000
theorem Fo.nos {w w' : World} (h : Fo nos w w') : Below w.heap.size w w' := h.below (Below.refl _ _) (Nat.le_refl _) (fun _ h => h.elim)
theorem nos_lt {w : World} : ∀ k, nos k → k < w.heap.size := fun _ h => h.elim
section
variable {w : World} {c : Cf} {vp vd vw vg : Value}
theorem partsmay_any (h : CfAt w vp vd vw vg c) : Calls Try.prog 34 #[.agg #[.int .i64 c.fr, vp, vd, .int .i64 c.mj, vw, vg, .int .i64 c.se, .int .i64 c.qu, .int .i64 c.qt]] w fun e w' => e = .returned (.bool (psB c)) ∧ Below w.heap.size w w' := by
  obtain ⟨hb, hB⟩ := cf_box w c vp vd vw vg
  obtain ⟨-, k1, -⟩ := cf_at hb
  have h1 := h.below hB
  have hz := h.pz.1
  obtain ⟨A, cap, b, o, sv, rfl, hA, hr⟩ := h1.ps.rows
  have hw1 : w.heap.size + 1 = (w.alloc (.cells #[.int .i64 c.fr, .slice A c.ps.length cap, vd, .int .i64 c.mj, vw, vg, .int .i64 c.se, .int .i64 c.qu, .int .i64 c.qt] 27)).heap.size := by simp
  have HB := Lib.hid hB
  have HE : Hid (Calls Try.prog 54 #[.slice A c.ps.length cap, .func (.func 55) #[] #[]] _ _) := Lib.hid (each_Part A b o c.ps.length cap (fun i => .int .i64 (c.ps.getD i paD).lv) (fun i => .int .i64 (c.ps.getD i paD).ct) sv (fun i => .int .i64 (c.ps.getD i paD).fi) (fun i => .int .i64 (c.ps.getD i paD).co)
    (fun i => paB (c.ps.getD i paD)) nos (fun _ W => Below (w.heap.size + 1) (w.alloc (.cells #[.int .i64 c.fr, .slice A c.ps.length cap, vd, .int .i64 c.mj, vw, vg, .int .i64 c.se, .int .i64 c.qu, .int .i64 c.qt] 27)) W) (w.alloc (.cells #[.int .i64 c.fr, .slice A c.ps.length cap, vd, .int .i64 c.mj, vw, vg, .int .i64 c.se, .int .i64 c.qu, .int .i64 c.qt] 27)) (by unfold maxLen; omega) (fun h0 => (hA h0).1) nos_lt
    (fun i W W' hI hW => Below.down hI hW (by have := hI.size; omega))
    (fun i W hi hI => by
      have hlt := (hA (by omega)).2
      have g := fun x => hI.cell (p := ⟨b, x, none⟩) (show b < w.heap.size + 1 by omega)
      obtain ⟨⟨q0, q1, q2, q3, q4⟩, -⟩ := hr i hi
      exact ⟨(g _).trans q0, (g _).trans q1, (g _).trans q2, (g _).trans q3, (g _).trans q4⟩)
    (fun i W hi _ hI => by
      obtain ⟨-, A2, c2, e2, -⟩ := hr i hi
      rw [e2]
      refine (pm1_any (c.ps.getD i paD) A2 _ c2 rfl W).mono ?_
      rintro e w' ⟨rfl, hb⟩
      exact ⟨rfl, Below.down hI hb (by have := hI.size; omega), Fo.of hb _⟩)
    (by rw [hw1]; exact Below.refl _ _))
  rw [all_range c.ps paD paB] at HE
  have HX : Hid (psB c = (btw 1 4 c.ps.length && c.ps.all paB)) := Lib.hid rfl
  clear h h1 hb hB hA hr hw1
  generalize c.ps.all paB = R at *
  generalize psB c = Q at *
  have hs : w.heap.size ≤ w.heap.size + 1 := by omega
  cases hc : btw 1 4 c.ps.length with
  | false =>
    obtain rfl : Q = false := by rw [HX.out, hc]; rfl
    have HF := Lib.hid hc
    clear hc HE
    go_enter Try.func34, Try.ntmps34
    go_wp2_with fail
    refine (isfrom_any _ _ _ _).mono ?_
    rintro e w1 ⟨rfl, rfl⟩
    rw [HF.out]
    go_wp2_with fail
    go_ret
    exact ⟨rfl, HB.out⟩
  | true =>
    obtain rfl : Q = R := by rw [HX.out, hc]; rfl
    have HF := Lib.hid hc
    clear hc
    go_enter Try.func34, Try.ntmps34
    go_wp2_with fail
    refine (isfrom_any _ _ _ _).mono ?_
    rintro e w1 ⟨rfl, rfl⟩
    rw [HF.out]
    go_wp2_with fail
    refine HE.out.mono ?_
    rintro e w2 ⟨rfl, -, hf⟩
    have hb2 := Below.down HB.out hf.nos HB.out.size
    clear hf
    go_wp2_with fail
    go_ret
    exact ⟨rfl, hb2⟩
theorem dm1_any (x : De) (A2 : Option Addr) (n2 c2 g : Nat) (hn : n2 = x.po.length) (hg : Blk w g 27 (cfc c vp vd vw vg)) (h : CfAt w vp vd vw vg c) :
    Calls Try.prog 58 #[.agg #[.int .i64 x.pt, .slice A2 n2 c2], .pointer (some ⟨g, 0, none⟩)] w fun e w' => e = .returned (.bool (dvB_Cf0 c.ps.length x)) ∧ Below w.heap.size w w' := by
  have hb : Blk (w.alloc (.cells #[.int .i64 x.pt, .slice A2 n2 c2] 64)) w.heap.size 64 [.int .i64 x.pt, .slice A2 n2 c2] := Blk.new _ _ _
  have hB : Below w.heap.size w (w.alloc (.cells #[.int .i64 x.pt, .slice A2 n2 c2] 64)) := (Below.refl _ _).alloc (Nat.le_refl _) _
  have hg1 := hg.alloc (.cells #[.int .i64 x.pt, .slice A2 n2 c2] 64)
  have hP := haspart_any (h.below hB) x.pt
  obtain ⟨f0, f1, f2, f3, f4, f5, f6, f7, f8⟩ := cf_at hg1
  have k0 := hb.cell 0
  have k1 := hb.cell 1
  simp only [List.getElem?_cons_zero, List.getElem?_cons_succ] at k0 k1
  have HX : Hid (dvB_Cf0 c.ps.length x = (inP c.ps.length x.pt && btw 2 5 (n2 : Int))) := Lib.hid (by rw [hn]; rfl)
  have HP := Lib.hid hP; have HB := Lib.hid hB
  clear hP hb hB hg hg1 h hn
  generalize dvB_Cf0 c.ps.length x = Q at *
  cases hc : inP c.ps.length x.pt with
  | false =>
    obtain rfl : Q = false := by rw [HX.out, hc]; rfl
    rw [hc] at HP
    clear hc HX
    go_enter Try.func58, Try.ntmps58
    go_wp2_with fail
    refine HP.out.mono ?_
    rintro e w1 ⟨rfl, b1⟩
    go_wp2_with fail
    go_ret
    exact ⟨rfl, Below.down HB.out b1 HB.out.size⟩
  | true =>
    obtain rfl : Q = btw 2 5 (n2 : Int) := by rw [HX.out, hc]; rfl
    rw [hc] at HP
    clear hc HX
    go_enter Try.func58, Try.ntmps58
    go_wp2_with fail
    refine HP.out.mono ?_
    rintro e w1 ⟨rfl, b1⟩
    have g1 := (b1.cell (p := ⟨w.heap.size, 1, none⟩) (by simp)).trans k1
    go_wp2_with fail
    refine (isfrom_any _ _ _ _).mono ?_
    rintro e w2 ⟨rfl, rfl⟩
    go_wp2_with fail
    go_ret
    exact ⟨rfl, Below.down HB.out b1 HB.out.size⟩
theorem devicesmay_any (h : CfAt w vp vd vw vg c) : Calls Try.prog 35 #[.agg #[.int .i64 c.fr, vp, vd, .int .i64 c.mj, vw, vg, .int .i64 c.se, .int .i64 c.qu, .int .i64 c.qt]] w fun e w' => e = .returned (.bool (dsB c)) ∧ Below w.heap.size w w' := by
  obtain ⟨hb, hB⟩ := cf_box w c vp vd vw vg
  obtain ⟨-, -, k2, -⟩ := cf_at hb
  have h1 := h.below hB
  have hz := h.dz.1
  obtain ⟨A, cap, b, o, sv, rfl, hA, hr⟩ := h1.ds.rows
  have hw1 : w.heap.size + 1 = (w.alloc (.cells #[.int .i64 c.fr, vp, .slice A c.ds.length cap, .int .i64 c.mj, vw, vg, .int .i64 c.se, .int .i64 c.qu, .int .i64 c.qt] 27)).heap.size := by simp
  have HB := Lib.hid hB
  have HE := Lib.hid (each_Dev A b o c.ds.length cap w.heap.size (fun i => .int .i64 (c.ds.getD i deD).pt) sv
    (fun i => dvB_Cf0 c.ps.length (c.ds.getD i deD)) nos (fun _ W => Below (w.heap.size + 1) (w.alloc (.cells #[.int .i64 c.fr, vp, .slice A c.ds.length cap, .int .i64 c.mj, vw, vg, .int .i64 c.se, .int .i64 c.qu, .int .i64 c.qt] 27)) W) (w.alloc (.cells #[.int .i64 c.fr, vp, .slice A c.ds.length cap, .int .i64 c.mj, vw, vg, .int .i64 c.se, .int .i64 c.qu, .int .i64 c.qt] 27)) (by unfold maxLen; omega) (fun h0 => (hA h0).1) nos_lt
    (fun i W W' hI hW => Below.down hI hW (by have := hI.size; omega))
    (fun i W hi hI => by
      have hlt := (hA (by omega)).2
      have g := fun x => hI.cell (p := ⟨b, x, none⟩) (show b < w.heap.size + 1 by omega)
      obtain ⟨⟨q0, q1⟩, -⟩ := hr i hi
      exact ⟨(g _).trans q0, (g _).trans q1⟩)
    (fun i W hi _ hI => by
      obtain ⟨-, A2, c2, e2, -⟩ := hr i hi
      rw [e2]
      refine (dm1_any (c.ds.getD i deD) A2 _ c2 w.heap.size rfl (hb.below hI (by omega)) (h1.below (by rw [← hw1]; exact hI))).mono ?_
      rintro e w' ⟨rfl, hb⟩
      exact ⟨rfl, Below.down hI hb (by have := hI.size; omega), Fo.of hb _⟩)
    (by rw [hw1]; exact Below.refl _ _))
  rw [all_range c.ds deD (dvB_Cf0 c.ps.length)] at HE
  have HX : Hid (dsB c = (btw 1 4 c.ds.length && c.ds.all (dvB_Cf0 c.ps.length))) := Lib.hid rfl
  clear h h1 hb hB hA hr hw1
  generalize c.ds.all (dvB_Cf0 c.ps.length) = R at *
  generalize dsB c = Q at *
  cases hc : btw 1 4 c.ds.length with
  | false =>
    obtain rfl : Q = false := by rw [HX.out, hc]; rfl
    have HF := Lib.hid hc
    clear hc HE
    go_enter Try.func35, Try.ntmps35
    go_wp2_with fail
    refine (isfrom_any _ _ _ _).mono ?_
    rintro e w1 ⟨rfl, rfl⟩
    rw [HF.out]
    go_wp2_with fail
    go_ret
    exact ⟨rfl, HB.out⟩
  | true =>
    obtain rfl : Q = R := by rw [HX.out, hc]; rfl
    have HF := Lib.hid hc
    clear hc
    go_enter Try.func35, Try.ntmps35
    go_wp2_with fail
    refine (isfrom_any _ _ _ _).mono ?_
    rintro e w1 ⟨rfl, rfl⟩
    rw [HF.out]
    go_wp2_with fail
    refine HE.out.mono ?_
    rintro e w2 ⟨rfl, -, hf⟩
    have hb2 := Below.down HB.out hf.nos HB.out.size
    clear hf
    go_wp2_with fail
    go_ret
    exact ⟨rfl, hb2⟩
end
end Go.Proofs.Ytkaalinoiilmoaa
namespace Go.Proofs.Ytkaalinoiilmoaa
open Go.RowKit
set_option linter.unusedVariables false
set_option linter.unusedSimpArgs false
set_option maxRecDepth 100000
def tabL (F : Nat) (T : Nat → Int) : List Int := (List.range F).map T
theorem tabL_len (F : Nat) (T : Nat → Int) : (tabL F T).length = F := by simp [tabL]
theorem tabL_at (F : Nat) (T : Nat → Int) (k : Nat) (h : k < F) : (tabL F T).getD k 0 = T k := by simp [tabL, List.getD, h]
theorem tabL_free (F : Nat) : tabL F freeT = free F := by
  unfold tabL freeT free
  rw [List.map_const', List.length_range]
theorem tabL_set (F : Nat) (T : Nat → Int) (k : Nat) (o : Int) : (tabL F T).set k o = tabL F (updT T k o) := by
  apply List.ext_getElem?
  intro i
  rw [List.getElem?_set]
  by_cases h : i < F
  · have e : ∀ T : Nat → Int, (tabL F T)[i]? = some (T i) := fun T => by simp [tabL, h]
    rw [e, e, tabL_len]
    unfold updT
    by_cases hk : k = i
    · subst hk; simp [h]
    · rw [if_neg hk, if_neg (fun e => hk e.symm)]
  · rw [List.getElem?_eq_none (by rw [tabL_len]; omega), List.getElem?_eq_none (by rw [tabL_len]; omega), tabL_len]
    by_cases hk : k = i
    · subst hk; simp [h]
    · rw [if_neg hk]
theorem tabL_setL (F : Nat) (T : Nat → Int) (x o : Int) (h0 : 0 ≤ x) (h1 : x < F) (h2 : -2 ≤ o) (h3 : o ≤ 3) : setL (tabL F T) x o = tabL F (updT T x.toNat o) ∧ setC (tabL F T).length x o = 0 := by
  have hs : setB (tabL F T).length x o = true := by
    unfold setB; rw [tabL_len]; exact decide_eq_true ⟨h0, h1, h2, h3⟩
  unfold setL setC
  rw [hs]
  exact ⟨by rw [if_pos rfl, tabL_set], rfl⟩
theorem tabL_of (F : Nat) (T : Nat → Int) (x : Int) : (ofC (tabL F T).length x = 200 ∧ fgB F T x = false ∧ ¬ (0 ≤ x ∧ x < F)) ∨ (ofC (tabL F T).length x = 0 ∧ ofN (tabL F T) x = T x.toNat ∧ 0 ≤ x ∧ x < F ∧ fgB F T x = decide (T x.toNat = -1)) := by
  by_cases h : 0 ≤ x ∧ x < F
  · right
    have hb : ofB (tabL F T).length x = true := by unfold ofB; rw [tabL_len]; exact decide_eq_true h
    refine ⟨by unfold ofC; rw [hb]; rfl, ?_, h.1, h.2, by unfold fgB; rw [decide_eq_true h]; rfl⟩
    unfold ofN; rw [hb, if_pos rfl, tabL_at _ _ _ (by omega)]
  · left
    have hb : ofB (tabL F T).length x = false := by unfold ofB; rw [tabL_len]; exact decide_eq_false h
    exact ⟨by unfold ofC; rw [hb]; rfl, by unfold fgB; rw [decide_eq_false h]; rfl, h⟩
theorem give1_any (x o : Int) (F g y0 y1 : Nat) (T : Nat → Int) (w : World) (hT : Tab w g (tabL F T)) (h0 : Blk w y0 101 [.pointer (some ⟨g, 0, none⟩)]) (h1 : Blk w y1 3 [.int .i64 o]) (ho : -2 ≤ o ∧ o ≤ 3) :
    Calls Try.prog 88 #[.int .i64 x, .pointer (some ⟨y0, 0, none⟩), .pointer (some ⟨y1, 0, none⟩)] w fun e w' => e = .returned (.bool (fgB F T x)) ∧ (∃ T', Tab w' g (tabL F T') ∧ (fgB F T x = true → T' = updT T x.toNat o)) ∧ w.grownBy w' (some g) := by
  have k0 := h0.cell 0
  have k1 := h1.cell 0
  simp only [List.getElem?_cons_zero] at k0 k1
  have hO := pof_any g (tabL F T) x w hT
  have hS := pset_any g (tabL F T) x o w hT
  have HT := Lib.hid hT
  clear h0 h1
  rcases tabL_of F T x with ⟨e1, e2, e3⟩ | ⟨e1, e2, e3, e4, e5⟩
  · rw [e2]
    rw [e1] at hO
    generalize ofN (tabL F T) x = N at *
    have HO := Lib.hid hO
    clear hO hS hT e1 e2 e3
    go_enter Try.func88, Try.ntmps88
    go_wp2_with fail
    refine HO.out.mono ?_
    rintro e w1 ⟨rfl, rfl⟩
    go_wp2_with fail
    go_ret
    exact ⟨rfl, ⟨T, HT.out, fun h => by cases h⟩, grefl _ _⟩
  · rw [e1, e2] at hO
    rw [e5]
    obtain ⟨s1, s2⟩ := tabL_setL F T x o e3 e4 ho.1 ho.2
    rw [s1, s2] at hS
    have HU : Hid (∀ T' : Nat → Int, T' = updT T x.toNat o → T' = updT T x.toNat o) := Lib.hid fun _ h => h
    generalize updT T x.toNat o = U at *
    generalize T x.toNat = N at *
    have HO := Lib.hid hO; have HS := Lib.hid hS
    clear hO hS hT e1 e2 e3 e4 e5 s1 s2 ho
    by_cases hN : N = -1
    · subst hN
      go_enter Try.func88, Try.ntmps88
      go_wp2_with fail
      refine HO.out.mono ?_
      rintro e w1 ⟨rfl, rfl⟩
      go_wp2_with fail
      refine HS.out.mono ?_
      rintro e w2 ⟨rfl, ht, hg⟩
      go_wp2_with fail
      go_ret
      exact ⟨rfl, ⟨U, ht, fun _ => rfl⟩, hg⟩
    · have hN2 : (N == -1) = false := by simpa using hN
      have hR : decide (N = -1) = false := decide_eq_false hN
      have HR := Lib.hid hR
      clear hR hN
      go_enter Try.func88, Try.ntmps88
      go_wp2_with fail
      refine HO.out.mono ?_
      rintro e w1 ⟨rfl, rfl⟩
      go_wp2_with fail
      go_ret
      exact ⟨by rw [HR.out]; rfl, ⟨T, HT.out, fun h => by rw [HR.out] at h; cases h⟩, grefl _ _⟩
def GvI (W0 : World) (F g y0 y1 : Nat) (T : Nat → Int) (o : Int) (l : List Int) (i : Nat) (W : World) : Prop :=
  (∃ T', Tab W g (tabL F T') ∧ ((∀ j, j < i → fgB F (giT o T (l.take j)) (l.getD j 0) = true) → T' = giT o T (l.take i))) ∧ Below W0.heap.size W0 W ∧ Blk W y0 101 [.pointer (some ⟨g, 0, none⟩)] ∧ Blk W y1 3 [.int .i64 o]
theorem Fo.bel {W0 w w' : World} {g : Nat} (h : Fo (· = g) w w') (hb : Below W0.heap.size W0 w) (hg : W0.heap.size ≤ g) : Below W0.heap.size W0 w' := h.below hb hb.size (fun i e => by omega)
theorem give_any (v : Value) (l : List Int) (o : Int) (F g : Nat) (T : Nat → Int) (W0 w : World) (hs : Sl W0 v l.length 1 (ints l)) (hn : l.length ≤ maxLen) (hb : Below W0.heap.size W0 w) (hg : W0.heap.size ≤ g) (hT : Tab w g (tabL F T)) (ho : -2 ≤ o ∧ o ≤ 3) :
    Calls Try.prog 76 #[.pointer (some ⟨g, 0, none⟩), .int .i64 o, v] w fun e w' => e = .returned (.bool (giB F o T l)) ∧ (∃ T', Tab w' g (tabL F T') ∧ (giB F o T l = true → T' = giT o T l)) ∧ Fo (· = g) w w' := by
  obtain ⟨A, cap, rfl, _, _, hA⟩ := hs
  have hglt := hT.lt
  have b1 : Below w.heap.size w (w.alloc (.cells #[.pointer (some ⟨g, 0, none⟩)] 101)) := (Below.refl _ _).alloc (Nat.le_refl _) _
  have b2 : Below w.heap.size w ((w.alloc (.cells #[.pointer (some ⟨g, 0, none⟩)] 101)).alloc (.cells #[.int .i64 o] 3)) := b1.alloc b1.size _
  have k0 : Blk ((w.alloc (.cells #[.pointer (some ⟨g, 0, none⟩)] 101)).alloc (.cells #[.int .i64 o] 3)) w.heap.size 101 [.pointer (some ⟨g, 0, none⟩)] := (Blk.new w _ [.pointer (some ⟨g, 0, none⟩)]).alloc _
  have k1 : Blk ((w.alloc (.cells #[.pointer (some ⟨g, 0, none⟩)] 101)).alloc (.cells #[.int .i64 o] 3)) (w.heap.size + 1) 3 [.int .i64 o] := by
    have := Blk.new (w.alloc (.cells #[.pointer (some ⟨g, 0, none⟩)] 101)) 3 [.int .i64 o]
    simpa using this
  have hsz : ((w.alloc (.cells #[.pointer (some ⟨g, 0, none⟩)] 101)).alloc (.cells #[.int .i64 o] 3)).heap.size = w.heap.size + 1 + 1 := by simp
  obtain ⟨b, oo, hbo⟩ : ∃ b oo, 0 < l.length → A = some ⟨b, oo, none⟩ ∧ b < W0.heap.size ∧ ∀ j u, (ints l)[j]? = some u → W0.cell? ⟨b, oo + j, none⟩ = some u := by
    by_cases h0 : 0 < l.length
    · obtain ⟨b, oo, h1, h2, h3⟩ := hA h0
      exact ⟨b, oo, fun _ => ⟨h1, h2, h3⟩⟩
    · exact ⟨0, 0, fun h => absurd h h0⟩
  have hE := each_Int A b oo l.length cap w.heap.size (w.heap.size + 1) (fun i => .int .i64 (l.getD i 0)) (fun i => fgB F (giT o T (l.take i)) (l.getD i 0)) (· = g) (GvI W0 F g w.heap.size (w.heap.size + 1) T o l)
    ((w.alloc (.cells #[.pointer (some ⟨g, 0, none⟩)] 101)).alloc (.cells #[.int .i64 o] 3)) hn (fun h0 => (hbo h0).1) (fun k hk => by rw [hk]; omega)
    (fun i W W' ⟨⟨T', h1, h2⟩, h3, h4, h5⟩ hW => ⟨⟨T', h1.below hW h1.lt, h2⟩, Below.down h3 hW h3.size, h4.below hW h4.lt, h5.below hW h5.lt⟩)
    (fun i W hi ⟨_, h3, _⟩ => by
      obtain ⟨_, h2, h4⟩ := hbo (by omega)
      exact (h3.cell (p := ⟨b, oo + i, none⟩) h2).trans (h4 _ _ (ints_get l i hi)))
    (fun i W hi hj ⟨⟨T', h1, h2⟩, h3, h4, h5⟩ => by
      rw [h2 hj] at h1
      refine (give1_any (l.getD i 0) o F g _ _ _ W h1 h4 h5 ho).mono ?_
      rintro e w' ⟨rfl, ⟨T2, q1, q2⟩, q3⟩
      have hf : Fo (· = g) W w' := (Fo.refl _ _).grown q3 (fun x hx => .inl (by injection hx with hx; exact hx.symm))
      refine ⟨rfl, ⟨⟨T2, q1, fun hall => ?_⟩, hf.bel h3 hg, hf.blk h4 (fun e => by omega), hf.blk h5 (fun e => by omega)⟩, hf⟩
      rw [q2 (hall i (by omega)), giT_take o l T i hi])
    ⟨⟨T, hT.below b2 hglt, fun _ => rfl⟩, Below.down hb b2 hb.size, k0, k1⟩
  rw [giB_go F o l T] at hE
  have HE := Lib.hid hE
  have HB := Lib.hid b2
  have HI : Hid (∀ w', Upto l.length (GvI W0 F g w.heap.size (w.heap.size + 1) T o l) w' (giB F o T l) → ∃ T', Tab w' g (tabL F T') ∧ (giB F o T l = true → T' = giT o T l)) := Lib.hid (by
    rintro w' ⟨k, hk, ⟨⟨T', h1, h2⟩, -⟩, hkn⟩
    refine ⟨T', h1, fun hg => ?_⟩
    have hkl := hkn hg
    rw [← giB_go F o l T, range_all_iff] at hg
    rw [h2 (fun j hj => hg j (by omega)), hkl, List.take_length])
  clear hE b1 b2 k0 k1 hsz hbo hT hb hA
  generalize giB F o T l = R at *
  go_enter Try.func76, Try.ntmps76
  go_wp2_with fail
  refine HE.out.mono ?_
  rintro e w1 ⟨rfl, hu, hf⟩
  have HU := Lib.hid (HI.out _ hu)
  have HF := Lib.hid ((Fo.of HB.out (· = g)).trans_new hf (fun i hi => .inl hi))
  clear hu hf
  go_wp2_with fail
  go_ret
  exact ⟨rfl, HU.out, HF.out⟩
end Go.Proofs.Ytkaalinoiilmoaa
namespace Go.Proofs.Ytkaalinoiilmoaa
open Go.RowKit
set_option linter.unusedVariables false
set_option linter.unusedSimpArgs false
set_option maxRecDepth 100000
def OwnsOf (c : Cf) (w : World) (e : Ending) (w' : World) : Prop :=
  Below w.heap.size w w' ∧ (unB c = true ∧ (∃ g, e = .returned (.pointer (some ⟨g, 0, none⟩)) ∧ w.heap.size ≤ g ∧ Tab w' g (tabL c.fr.toNat (ownM c))) ∨ unB c = false ∧ e = .returned (.pointer none))
def OwA (c : Cf) (w1 : World) (g k : Nat) (W : World) : Prop :=
  Tab W g (tabL c.fr.toNat (gpT 0 freeT (c.ps.take k))) ∧ Below w1.heap.size w1 W ∧ gpB c.fr 0 freeT c.ps = gpB c.fr k (gpT 0 freeT (c.ps.take k)) (c.ps.drop k)
def OwB (c : Cf) (w1 : World) (g k : Nat) (W : World) : Prop :=
  Tab W g (tabL c.fr.toNat (gdT (gpT 0 freeT c.ps) (c.ds.take k))) ∧ Below w1.heap.size w1 W ∧ gpB c.fr 0 freeT c.ps = true ∧ gdB c.fr (gpT 0 freeT c.ps) c.ds = gdB c.fr (gdT (gpT 0 freeT c.ps) (c.ds.take k)) (c.ds.drop k)
section
variable {w : World} {c : Cf} {vp vd vw vg : Value}
set_option maxHeartbeats 2000000 in
theorem owners_any (h : CfAt w vp vd vw vg c) (hF : 1 ≤ c.fr ∧ c.fr ≤ 64) (hp4 : c.ps.length ≤ 4) : Calls Try.prog 60 #[.agg #[.int .i64 c.fr, vp, vd, .int .i64 c.mj, vw, vg, .int .i64 c.se, .int .i64 c.qu, .int .i64 c.qt]] w (OwnsOf c w) := by
  obtain ⟨F, hFe⟩ : ∃ F : Nat, c.fr = F := ⟨c.fr.toNat, by omega⟩
  obtain ⟨hb, hB⟩ := cf_box w c vp vd vw vg
  have h1 := h.below hB
  have hFn : c.fr.toNat = F := by omega
  rw [hFe] at hb hB h1 hF
  obtain ⟨A, cap, b, o, sv, rfl, hA, hr⟩ := h1.ps.rows
  obtain ⟨A', cap', b', o', sv', rfl, hA', hr'⟩ := h1.ds.rows
  have hz := h.pz; have hz' := h.dz
  have HZ := Lib.hid hz.2; have HZ' := Lib.hid hz'.2
  have hz1 := hz.1; have hz1' := hz'.1
  obtain ⟨k0, k1, k2, -⟩ := cf_at hb
  have HB := Lib.hid hB; have HK := Lib.hid hb
  have HNW := Lib.hid (fun (W : World) => onew_yes F W (by omega) (by omega))
  have hsz : (w.alloc (.cells #[.int .i64 F, .slice A c.ps.length cap, .slice A' c.ds.length cap', .int .i64 c.mj, vw, vg, .int .i64 c.se, .int .i64 c.qu, .int .i64 c.qt] 27)).heap.size = w.heap.size + 1 := by simp
  have HA := Lib.hid hA; have HA' := Lib.hid hA'; have HR := Lib.hid hr; have HR' := Lib.hid hr'
  have HFe := Lib.hid hFe; have HFn := Lib.hid hFn
  obtain ⟨hF1, hF2⟩ := hF
  rw [hFe] at k0 ⊢
  clear h h1 hb hB hA hr hA' hr' hz hz' hFe hFn
  generalize hn : c.ps.length = n at *
  generalize hn' : c.ds.length = n' at *
  have HN := Lib.hid hn; have HN' := Lib.hid hn'
  clear hn hn'
  go_enter Try.func60, Try.ntmps60
  go_wp2_with fail
  generalize w.alloc (.cells #[.int .i64 (F : Int), .slice A n cap, .slice A' n' cap', .int .i64 c.mj, vw, vg, .int .i64 c.se, .int .i64 c.qu, .int .i64 c.qt] 27) = w1 at *
  have hsy : w.heap.size ≤ w1.heap.size := by omega
  refine (HNW.out w1).mono ?_
  rintro e w2 ⟨rfl, ht, hb2⟩
  have q1 := (hb2.cell (p := ⟨w.heap.size, 1, none⟩) (show w.heap.size < w1.heap.size by omega)).trans k1
  have q2 := (hb2.cell (p := ⟨w.heap.size, 2, none⟩) (show w.heap.size < w1.heap.size by omega)).trans k2
  have HT0 : Hid (OwA c w1 w1.heap.size 0 w2) := Lib.hid ⟨by rw [HFn.out, List.take_zero]; show Tab w2 _ (tabL F freeT); rw [tabL_free]; exact ht, hb2, by rw [List.take_zero, List.drop_zero]; rfl⟩
  have hlt1 : w.heap.size < w1.heap.size := by omega
  clear ht hb2 HNW
  generalize hge : w1.heap.size = g at *
  have HGE := Lib.hid hge
  clear hge hsz
  go_wp2_with fail
  clear q1 q2 k0
  go_loopw [18] (fun i wr => ∃ k : Nat, k ≤ n ∧ i = .int .i64 k ∧ Hid (OwA c w1 g k wr)) (fun i _ => n - (intOf i).toNat)
  case atStart => exact ⟨0, by omega, rfl, HT0⟩
  case round =>
    obtain ⟨k, hk, rfl, H⟩ := hrel
    obtain ⟨hT, hbel, hgp⟩ := H.out
    by_cases hlt : k < n
    · obtain ⟨rfl, hbw⟩ := HA.out (by omega)
      obtain ⟨⟨r0, r1, r2, r3, r4⟩, hsl⟩ := HR.out k hlt
      have gc := fun x => hbel.cell (p := ⟨b, x, none⟩) (show b < w1.heap.size by have := HGE.out; omega)
      rw [← gc] at r0 r1 r2 r3 r4
      have HSL := Lib.hid hsl
      obtain ⟨A2, c2, e2, -⟩ := hsl
      rw [e2] at r2 HSL
      have hfl : (c.ps.getD k paD).fr.length ≤ maxLen := by have := HZ.out k; unfold maxLen; omega
      have hst := gpB_at c.fr c.ps 0 freeT k (by rw [HN.out]; exact hlt)
      rw [Int.zero_add, Int.zero_add, ← hgp] at hst
      have htk := gpT_take c.ps 0 freeT k (by rw [HN.out]; exact hlt)
      rw [Int.zero_add] at htk
      rw [HFe.out] at hst
      have hws := hbel.size
      have HCL := Lib.hid (fun (W : World) (hW : Below w1.heap.size w1 W) (hT : Tab W g (tabL F (gpT 0 freeT (c.ps.take k)))) => give_any (.slice A2 (c.ps.getD k paD).fr.length c2) (c.ps.getD k paD).fr k F g (gpT 0 freeT (c.ps.take k)) w1 W HSL.out hfl hW (by have := HGE.out; omega) hT (by omega))
      have hFT : ∀ {W : World}, Tab W g (tabL c.fr.toNat (gpT 0 freeT (c.ps.take k))) → Tab W g (tabL F (gpT 0 freeT (c.ps.take k))) := fun h => by rw [← HFn.out]; exact h
      have HST := Lib.hid hst; have HTK := Lib.hid htk; have HBL := Lib.hid hbel; have HTB := Lib.hid (fun (W : World) (hW : Below wr.heap.size wr W) => hFT (hT.below hW hT.lt))
      clear hFT hst htk hbel hT hgp e2 gc hfl
      generalize (c.ps.getD k paD).fr.length = m at *
      go_wp2_with fail
      refine (HCL.out _ (HBL.out.alloc hws _) (HTB.out _ ((Below.refl _ _).alloc (Nat.le_refl _) _))).mono ?_
      rintro e w3 ⟨rfl, ⟨T', q1, q2⟩, hf⟩
      have hb3 : Below w1.heap.size w1 w3 := hf.bel (HBL.out.alloc hws _) (by have := HGE.out; omega)
      have HB3 := Lib.hid hb3; have HQ1 := Lib.hid q1; have HQ2 := Lib.hid q2
      have HGB : Hid (∃ R, giB (F : Int) (k : Int) (gpT 0 freeT (c.ps.take k)) (c.ps.getD k paD).fr = R) := Lib.hid ⟨_, rfl⟩
      obtain ⟨R, hR⟩ := HGB.out
      rw [hR] at HST HQ2 ⊢
      clear hb3 q1 q2 hf HGB hR r0 r1 r2 r3 r4 HCL
      cases R with
      | false =>
        have HUN : Hid (unB c = false) := Lib.hid (by unfold unB; rw [HFe.out, HST.out]; rfl)
        go_wp2_with fail
        go_ret
        exact ⟨Below.down HB.out HB3.out (by have := HGE.out; omega), .inr ⟨HUN.out, rfl⟩⟩
      | true =>
        have HN1 : Hid (OwA c w1 g (k + 1) w3) := Lib.hid ⟨by rw [HTK.out, HFn.out, ← HQ2.out rfl]; exact HQ1.out, HB3.out, by rw [HFe.out, HST.out, Bool.true_and]⟩
        go_wp2_with fail
        go_roundw
        case rel => exact ⟨k + 1, by omega, by go_num, HN1⟩
        case measure => simp [intOf]; omega
    · obtain rfl : k = n := by omega
      have hgt : gpB c.fr 0 freeT c.ps = true := by rw [hgp, List.drop_eq_nil_of_le (by rw [HN.out]; exact Nat.le_refl _)]; rfl
      rw [show c.ps.take k = c.ps by rw [← HN.out, List.take_length]] at hT
      have HB0 : Hid (OwB c w1 g 0 wr) := Lib.hid ⟨by rw [List.take_zero]; exact hT, hbel, hgt, by rw [List.take_zero, List.drop_zero]; rfl⟩
      have q2 := (hbel.cell (p := ⟨w.heap.size, 2, none⟩) (show w.heap.size < w1.heap.size by have := HGE.out; omega)).trans k2
      clear hT hbel hgp hgt
      go_wp2_with fail
      clear q2
      go_loopw [33] (fun i wr => ∃ k : Nat, k ≤ n' ∧ i = .int .i64 k ∧ Hid (OwB c w1 g k wr)) (fun i _ => n' - (intOf i).toNat)
      case atStart => exact ⟨0, by omega, rfl, HB0⟩
      case round =>
        obtain ⟨j, hj, rfl, H2⟩ := hrel
        obtain ⟨hT, hbel, hgp, hgd⟩ := H2.out
        by_cases hlt : j < n'
        · obtain ⟨rfl, hbw⟩ := HA'.out (by omega)
          obtain ⟨⟨r0, r1⟩, hsl⟩ := HR'.out j hlt
          have gc := fun x => hbel.cell (p := ⟨b', x, none⟩) (show b' < w1.heap.size by have := HGE.out; omega)
          rw [← gc] at r0 r1
          have HSL := Lib.hid hsl
          obtain ⟨A2, c2, e2, -⟩ := hsl
          rw [e2] at r1 HSL
          have hfl : (c.ds.getD j deD).po.length ≤ maxLen := by have := HZ'.out j; unfold maxLen; omega
          have hst := gdB_at c.fr c.ds (gpT 0 freeT c.ps) j (by rw [HN'.out]; exact hlt)
          rw [← hgd] at hst
          have htk := gdT_take c.ds (gpT 0 freeT c.ps) j (by rw [HN'.out]; exact hlt)
          rw [HFe.out] at hst
          have hws := hbel.size
          have HCL := Lib.hid (fun (W : World) (hW : Below w1.heap.size w1 W) (hT : Tab W g (tabL F (gdT (gpT 0 freeT c.ps) (c.ds.take j)))) => give_any (.slice A2 (c.ds.getD j deD).po.length c2) (c.ds.getD j deD).po (-2) F g (gdT (gpT 0 freeT c.ps) (c.ds.take j)) w1 W HSL.out hfl hW (by have := HGE.out; omega) hT (by omega))
          have hFT : ∀ {W : World}, Tab W g (tabL c.fr.toNat (gdT (gpT 0 freeT c.ps) (c.ds.take j))) → Tab W g (tabL F (gdT (gpT 0 freeT c.ps) (c.ds.take j))) := fun h => by rw [← HFn.out]; exact h
          have HST := Lib.hid hst; have HTK := Lib.hid htk; have HBL := Lib.hid hbel; have HTB := Lib.hid (fun (W : World) (hW : Below wr.heap.size wr W) => hFT (hT.below hW hT.lt)); have HGP := Lib.hid hgp
          clear hFT hst htk hbel hT hgd e2 gc hfl hgp
          generalize (c.ds.getD j deD).po.length = m at *
          go_wp2_with fail
          refine (HCL.out _ (HBL.out.alloc hws _) (HTB.out _ ((Below.refl _ _).alloc (Nat.le_refl _) _))).mono ?_
          rintro e w3 ⟨rfl, ⟨T', q1, q2⟩, hf⟩
          have hb3 : Below w1.heap.size w1 w3 := hf.bel (HBL.out.alloc hws _) (by have := HGE.out; omega)
          have HB3 := Lib.hid hb3; have HQ1 := Lib.hid q1; have HQ2 := Lib.hid q2
          have HGB : Hid (∃ R, giB (F : Int) (-2) (gdT (gpT 0 freeT c.ps) (c.ds.take j)) (c.ds.getD j deD).po = R) := Lib.hid ⟨_, rfl⟩
          obtain ⟨R, hR⟩ := HGB.out
          rw [hR] at HST HQ2 ⊢
          clear hb3 q1 q2 hf HGB hR r0 r1 HCL
          cases R with
          | false =>
            have HUN : Hid (unB c = false) := Lib.hid (by unfold unB; rw [HFe.out, HST.out]; simp)
            go_wp2_with fail
            go_ret
            exact ⟨Below.down HB.out HB3.out (by have := HGE.out; omega), .inr ⟨HUN.out, rfl⟩⟩
          | true =>
            have HN1 : Hid (OwB c w1 g (j + 1) w3) := Lib.hid ⟨by rw [HTK.out, HFn.out, ← HQ2.out rfl]; exact HQ1.out, HB3.out, HGP.out, by rw [HFe.out, HST.out, Bool.true_and]⟩
            go_wp2_with fail
            go_roundw
            case rel => exact ⟨j + 1, by omega, by go_num, HN1⟩
            case measure => simp [intOf]; omega
        · obtain rfl : j = n' := by omega
          have HGT : Hid (unB c = true) := Lib.hid (by unfold unB; rw [hgp, hgd, List.drop_eq_nil_of_le (by rw [HN'.out]; exact Nat.le_refl _)]; rfl)
          rw [show c.ds.take j = c.ds by rw [← HN'.out, List.take_length]] at hT
          have HTB := Lib.hid hT; have HBL := Lib.hid hbel
          clear hT hbel hgp hgd
          go_wp2_with fail
          go_ret
          exact ⟨Below.down HB.out HBL.out (by have := HGE.out; omega), .inl ⟨HGT.out, _, rfl, by omega, HTB.out⟩⟩
theorem unlike_any (h : CfAt w vp vd vw vg c) (hF : 1 ≤ c.fr ∧ c.fr ≤ 64) (hp4 : c.ps.length ≤ 4) : Calls Try.prog 36 #[.agg #[.int .i64 c.fr, vp, vd, .int .i64 c.mj, vw, vg, .int .i64 c.se, .int .i64 c.qu, .int .i64 c.qt]] w fun e w' => e = .returned (.bool (unB c)) ∧ Below w.heap.size w w' := by
  obtain ⟨hb, hB⟩ := cf_box w c vp vd vw vg
  have HC := Lib.hid (owners_any (h.below hB) hF hp4)
  obtain ⟨k0, k1, k2, k3, k4, k5, k6, k7, k8⟩ := cf_at hb
  have HB := Lib.hid hB
  obtain ⟨Q, hQ⟩ : ∃ Q, unB c = Q := ⟨_, rfl⟩
  rw [hQ]
  have HQ := Lib.hid hQ
  clear hb hB h hF hp4 hQ
  go_enter Try.func36, Try.ntmps36
  go_wp2_with fail
  refine HC.out.mono ?_
  rintro e w1 ⟨b1, ⟨hu, g, rfl, -, -⟩ | ⟨hu, rfl⟩⟩
  · have e : Q = true := by rw [← HQ.out, hu]
    subst e
    clear hu
    go_wp2_with fail
    go_ret
    exact ⟨rfl, Below.down HB.out b1 HB.out.size⟩
  · have e : Q = false := by rw [← HQ.out, hu]
    subst e
    clear hu
    go_wp2_with fail
    go_ret
    exact ⟨rfl, Below.down HB.out b1 HB.out.size⟩
end
end Go.Proofs.Ytkaalinoiilmoaa
namespace Go.Proofs.Ytkaalinoiilmoaa
open Go.RowKit
set_option linter.unusedVariables false
set_option linter.unusedSimpArgs false
set_option maxRecDepth 100000
set_option maxHeartbeats 1000000 in
theorem if_Win (A : Option Addr) (b o n cap : Nat) (a0 : Nat) (c0 c1 c2 c3 : Nat → Value) (p : Nat → Bool) (S : Nat → Prop) (I : Nat → World → Prop) (w : World) (hn : n ≤ maxLen) (hA : 0 < n → A = some ⟨b, o, none⟩)
    (hr : ∀ i W, i < n → I i W → W.cell? ⟨b, o + i * 4, none⟩ = some (c0 i) ∧ W.cell? ⟨b, o + i * 4 + 1, none⟩ = some (c1 i) ∧ W.cell? ⟨b, o + i * 4 + 2, none⟩ = some (c2 i) ∧ W.cell? ⟨b, o + i * 4 + 3, none⟩ = some (c3 i))
    (hG : ∀ i W, i < n → (∀ j, j < i → p j = false) → I i W → Calls Try.prog 63 #[(.agg #[c0 i, c1 i, c2 i, c3 i]), .pointer (some ⟨a0, 0, none⟩)] W fun e w' => e = .returned (.bool (p i)) ∧ I (i + 1) w' ∧ Fo S W w') (h0 : I 0 w) :
    Calls Try.prog 79 #[.slice A n cap, .func (.func 63) #[] #[.pointer (some ⟨a0, 0, none⟩)]] w fun e w' => ∃ r : Int, e = .returned (.int .i64 r) ∧ decide (r ≥ 0) = (List.range n).any p ∧ (∃ k, k ≤ n ∧ I k w' ∧ (r < 0 → k = n)) ∧ Fo S w w' := by
  have HA := Lib.hid hA; have HR := Lib.hid hr; have HG := Lib.hid hG; have H0 := Lib.hid h0
  unfold maxLen at hn
  clear hA hr hG h0
  go_enter Try.func79, Try.ntmps79
  go_wp2_with fail
  go_loopw [8] (fun i wr => ∃ k : Nat, k ≤ n ∧ i = .int .i64 k ∧ Hid ((∀ j, j < k → p j = false) ∧ I k wr ∧ Fo S w wr)) (fun i _ => n - (intOf i).toNat)
  case atStart => exact ⟨0, by omega, rfl, Lib.hid ⟨fun j hj => by omega, H0.out, Fo.refl _ _⟩⟩
  case round =>
    obtain ⟨k, hk, rfl, HX⟩ := hrel
    by_cases hlt : k < n
    · obtain rfl := HA.out (by omega)
      obtain ⟨x0, x1, x2, x3⟩ := HR.out k wr hlt HX.out.2.1
      have HC := Lib.hid (HG.out k wr hlt HX.out.1 HX.out.2.1)
      generalize c0 k = e0 at * ; generalize c1 k = e1 at * ; generalize c2 k = e2 at * ; generalize c3 k = e3 at *
      go_wp2_with fail
      refine HC.out.mono ?_
      rintro e w1 ⟨rfl, hi, hf⟩
      have HI := Lib.hid hi
      have HF := Lib.hid (HX.out.2.2.trans hf)
      clear x0 x1 x2 x3 hi hf
      cases hp : p k with
      | true =>
        have HP := Lib.hid hp
        clear hp
        go_wp2_with fail
        go_ret
        exact ⟨_, rfl, (by rw [range_any_yes hlt HP.out]; exact decide_eq_true (by omega)), ⟨k + 1, by omega, HI.out, fun h => by omega⟩, HF.out⟩
      | false =>
        have HP := Lib.hid hp
        clear hp
        go_wp2_with fail
        go_roundw
        case rel => exact ⟨k + 1, by omega, by go_num, Lib.hid ⟨fun j hj => by
          by_cases e : j = k
          · rw [e]; exact HP.out
          · exact HX.out.1 j (by omega), HI.out, HF.out⟩⟩
        case measure => simp [intOf]; omega
    · obtain rfl : k = n := by omega
      go_wp2_with fail
      go_ret
      exact ⟨_, rfl, (by rw [range_any_no HX.out.1]; rfl), ⟨k, by omega, HX.out.2.1, fun _ => rfl⟩, HX.out.2.2⟩
theorem cf_Win (A : Option Addr) (b o n cap : Nat) (a0 : Nat) (c0 c1 c2 c3 : Nat → Value) (p : Nat → Bool) (S : Nat → Prop) (I : Nat → World → Prop) (w : World) (hn : n ≤ maxLen) (hA : 0 < n → A = some ⟨b, o, none⟩)
    (hr : ∀ i W, i < n → I i W → W.cell? ⟨b, o + i * 4, none⟩ = some (c0 i) ∧ W.cell? ⟨b, o + i * 4 + 1, none⟩ = some (c1 i) ∧ W.cell? ⟨b, o + i * 4 + 2, none⟩ = some (c2 i) ∧ W.cell? ⟨b, o + i * 4 + 3, none⟩ = some (c3 i))
    (hG : ∀ i W, i < n → (∀ j, j < i → p j = false) → I i W → Calls Try.prog 63 #[(.agg #[c0 i, c1 i, c2 i, c3 i]), .pointer (some ⟨a0, 0, none⟩)] W fun e w' => e = .returned (.bool (p i)) ∧ I (i + 1) w' ∧ Fo S W w') (h0 : I 0 w) :
    Calls Try.prog 62 #[.slice A n cap, .func (.func 63) #[] #[.pointer (some ⟨a0, 0, none⟩)]] w fun e w' => e = .returned (.bool ((List.range n).any p)) ∧ Upto n I w' (!(List.range n).any p) ∧ Fo S w w' := by
  have HC := Lib.hid (if_Win A b o n cap a0 c0 c1 c2 c3 p S I w hn hA hr hG h0)
  clear hA hr hG h0
  generalize (List.range n).any p = R at *
  go_enter Try.func62, Try.ntmps62
  go_wp2_with fail
  refine HC.out.mono ?_
  rintro e w1 ⟨r, rfl, hr, hi, hf⟩
  have HI := Lib.hid hi; have HF := Lib.hid hf
  clear hi hf
  cases R
  all_goals
    go_wp2_with fail
    go_ret
  · refine ⟨rfl, ?_, HF.out⟩
    obtain ⟨k, hk, h1, h2⟩ := HI.out
    exact ⟨k, hk, h1, fun _ => h2 (by have := of_decide_eq_false hr; omega)⟩
  · refine ⟨rfl, ?_, HF.out⟩
    obtain ⟨k, hk, h1, h2⟩ := HI.out
    exact ⟨k, hk, h1, fun h => by cases h⟩
end Go.Proofs.Ytkaalinoiilmoaa
namespace Go.Proofs.Ytkaalinoiilmoaa
open Go.RowKit
set_option linter.unusedVariables false
set_option linter.unusedSimpArgs false
set_option maxRecDepth 100000
def wD : Win := ⟨0, 0, 0, 0⟩
theorem Ws.rows {w : World} {v : Value} {n : Nat} {l : List Win} (h : Ws w v n l) : ∃ (A : Option Addr) (cap b o : Nat), v = .slice A n cap ∧ (0 < n → A = some ⟨b, o, none⟩ ∧ b < w.heap.size) ∧
    ∀ i, i < n → w.cell? ⟨b, o + i * 4, none⟩ = some (.int .i64 (l.getD i wD).p) ∧ w.cell? ⟨b, o + i * 4 + 1, none⟩ = some (.int .i64 (l.getD i wD).s) ∧ w.cell? ⟨b, o + i * 4 + 2, none⟩ = some (.int .i64 (l.getD i wD).l) ∧ w.cell? ⟨b, o + i * 4 + 3, none⟩ = some (.int .i64 (l.getD i wD).d) := by
  obtain ⟨A, cap, rfl⟩ := h.form
  by_cases h0 : 0 < n
  · have hl := h.len
    obtain ⟨b, o, rfl, hb, _⟩ := wd_at h.sl hl 0 (by omega)
    refine ⟨_, cap, b, o, rfl, fun _ => ⟨rfl, hb⟩, fun i hi => ?_⟩
    obtain ⟨b', o', e, _, q⟩ := wd_at h.sl hl i (by omega)
    simp only [Option.some.injEq, Addr.mk.injEq, and_true] at e
    obtain ⟨rfl, rfl⟩ := e
    have hg : l.getD i wD = l[i] := by simp [List.getD, List.getElem?_eq_getElem (show i < l.length by omega)]
    rw [hg]
    exact q
  · exact ⟨A, cap, 0, 0, rfl, fun h => absurd h h0, fun i hi => absurd hi (by omega)⟩
theorem wm1_any (x : Win) (k : Int) (y : Nat) (w : World) (hy : Blk w y 3 [.int .i64 k]) :
    Calls Try.prog 63 #[.agg #[.int .i64 x.p, .int .i64 x.s, .int .i64 x.l, .int .i64 x.d], .pointer (some ⟨y, 0, none⟩)] w fun e w' => e = .returned (.bool (decide (x.p = k))) ∧ Below w.heap.size w w' := by
  have hy1 := hy.alloc (.cells #[.int .i64 x.p, .int .i64 x.s, .int .i64 x.l, .int .i64 x.d] 66)
  have k0 := hy1.cell 0
  simp only [List.getElem?_cons_zero] at k0
  obtain ⟨xp, xs, xl, xd⟩ := x
  simp only at *
  have hlt := hy.lt
  clear hy hy1
  by_cases e : xp = k
  · subst e
    go_enter Try.func63, Try.ntmps63
    go_wp2
    go_ret
    exact ⟨by simp, (Below.refl _ _).alloc (Nat.le_refl _) _⟩
  · have e2 : (xp == k) = false := by simpa using e
    have HR := Lib.hid (decide_eq_false e)
    clear e
    go_enter Try.func63, Try.ntmps63
    go_wp2
    go_ret
    exact ⟨by rw [HR.out]; rfl, (Below.refl _ _).alloc (Nat.le_refl _) _⟩
section
variable {w : World} {c : Cf} {vp vd vw vg : Value}
set_option maxHeartbeats 2000000 in
theorem windowsmay_any (h : CfAt w vp vd vw vg c) : Calls Try.prog 37 #[.agg #[.int .i64 c.fr, vp, vd, .int .i64 c.mj, vw, vg, .int .i64 c.se, .int .i64 c.qu, .int .i64 c.qt]] w fun e w' => e = .returned (.bool (wsB c)) ∧ Below w.heap.size w w' := by
  obtain ⟨hb, hB⟩ := cf_box w c vp vd vw vg
  have h1 := h.below hB
  obtain ⟨A, cap, rfl, _⟩ := h.ps
  obtain ⟨A', cap', b, o, rfl, hA, hr⟩ := h1.ws.rows
  have hz := h.pz.1
  have hnm : c.ws.length ≤ maxLen := h.ws.big
  obtain ⟨-, k1, -, k3, k4, -⟩ := cf_at hb
  have hsz : (w.alloc (.cells #[.int .i64 c.fr, .slice A c.ps.length cap, vd, .int .i64 c.mj, .slice A' c.ws.length cap', vg, .int .i64 c.se, .int .i64 c.qu, .int .i64 c.qt] 27)).heap.size = w.heap.size + 1 := by simp
  have HX : Hid (wsB c = (mayW c.ws c.mj c.ps.length && (List.range c.ps.length).all (fun i => hasW c.ws i))) := Lib.hid rfl
  have HM := Lib.hid (may_ws h1.ws c.mj c.ps.length _ rfl)
  have HB := Lib.hid hB; have HA := Lib.hid hA; have HR := Lib.hid hr
  clear h h1 hb hB hA hr
  generalize c.ps.length = n at *
  generalize hwl : c.ws.length = m at *
  have HWL := Lib.hid hwl
  generalize wsB c = Q at *
  generalize c.mj = mj at *
  generalize hM : mayW c.ws mj n = M at *
  clear hM hwl
  go_enter Try.func37, Try.ntmps37
  go_wp2_with fail
  generalize w.alloc (.cells #[.int .i64 c.fr, .slice A n cap, vd, .int .i64 mj, .slice A' m cap', vg, .int .i64 c.se, .int .i64 c.qu, .int .i64 c.qt] 27) = w1 at *
  have hlt1 : w.heap.size < w1.heap.size := by omega
  clear hsz
  refine HM.out.mono ?_
  rintro e w2 ⟨rfl, hb2⟩
  cases M with
  | false =>
    have e : Q = false := by rw [HX.out]; rfl
    subst e
    go_wp2_with fail
    go_ret
    exact ⟨rfl, Below.down HB.out hb2 (by omega)⟩
  | true =>
    have hQ : Q = (List.range n).all (fun i => hasW c.ws i) := by rw [HX.out]; rfl
    have HQ := Lib.hid hQ
    have q1 := (hb2.cell (p := ⟨w.heap.size, 1, none⟩) hlt1).trans k1
    have HB2 := Lib.hid hb2
    have HK4 := Lib.hid k4
    clear hQ HX hb2 HM k1 k3 k4
    go_wp2_with fail
    clear q1
    go_loopw [16] (fun i wr => ∃ k : Nat, k ≤ n ∧ i = .int .i64 k ∧ Hid ((∀ j, j < k → hasW c.ws j = true) ∧ Below w1.heap.size w1 wr)) (fun i _ => n - (intOf i).toNat)
    case atStart => exact ⟨0, by omega, rfl, Lib.hid ⟨fun j hj => by omega, HB2.out⟩⟩
    case round =>
      obtain ⟨k, hk, rfl, H⟩ := hrel
      by_cases hlt : k < n
      · obtain ⟨hall, hbel⟩ := H.out
        have hws := hbel.size
        have hb3 : Below w1.heap.size w1 (wr.alloc (.cells #[.int .i64 (k : Int)] 3)) := hbel.alloc hws _
        have hk3 : Blk (wr.alloc (.cells #[.int .i64 (k : Int)] 3)) wr.heap.size 3 [.int .i64 (k : Int)] := Blk.new _ _ _
        have q4 := (hb3.cell (p := ⟨w.heap.size, 4, none⟩) hlt1).trans HK4.out
        have hE := cf_Win A' b o m cap' wr.heap.size (fun i => .int .i64 (c.ws.getD i wD).p) (fun i => .int .i64 (c.ws.getD i wD).s) (fun i => .int .i64 (c.ws.getD i wD).l) (fun i => .int .i64 (c.ws.getD i wD).d) (fun i => decide ((c.ws.getD i wD).p = (k : Int))) nos
          (fun _ W => Below w1.heap.size w1 W ∧ Blk W wr.heap.size 3 [.int .i64 (k : Int)]) (wr.alloc (.cells #[.int .i64 (k : Int)] 3)) hnm (fun h0 => (HA.out h0).1)
          (fun i W hi hI => by
            have hlt := (HA.out (by omega)).2
            have g := fun x => hI.1.cell (p := ⟨b, x, none⟩) hlt
            obtain ⟨q0, q1, q2, q3⟩ := HR.out i hi
            exact ⟨(g _).trans q0, (g _).trans q1, (g _).trans q2, (g _).trans q3⟩)
          (fun i W hi _ hI => by
            refine (wm1_any (c.ws.getD i wD) k wr.heap.size W hI.2).mono ?_
            rintro e w' ⟨rfl, hb⟩
            exact ⟨rfl, ⟨Below.down hI.1 hb hI.1.size, hI.2.below hb hI.2.lt⟩, Fo.of hb _⟩)
          ⟨hb3, hk3⟩
        have e9 : (List.range m).any (fun i => decide ((c.ws.getD i wD).p = (k : Int))) = hasW c.ws k := by rw [← HWL.out]; exact any_range c.ws wD (fun x => decide (x.p = (k : Int)))
        rw [e9] at hE
        have HE := Lib.hid hE; have HALL := Lib.hid hall; have HB3 := Lib.hid hb3
        clear hE hall hb3 hk3 e9 hbel H
        generalize hH : hasW c.ws k = R at *
        have HH := Lib.hid hH
        clear hH
        go_wp2_with fail
        refine HE.out.mono ?_
        rintro e w3 ⟨rfl, -, hf⟩
        have HB4 := Lib.hid (Below.down HB3.out hf.nos HB3.out.size)
        clear hf q4 HE
        cases R with
        | false =>
          have e : Q = false := by
            rw [HQ.out]
            exact List.all_eq_false.2 ⟨k, List.mem_range.2 hlt, by rw [HH.out]; simp⟩
          subst e
          go_wp2_with fail
          go_ret
          exact ⟨rfl, Below.down HB.out HB4.out (by omega)⟩
        | true =>
          go_wp2_with fail
          go_roundw
          case rel => exact ⟨k + 1, by omega, by go_num, Lib.hid ⟨fun j hj => by
            by_cases e : j = k
            · rw [e]; exact HH.out
            · exact HALL.out j (by omega), HB4.out⟩⟩
          case measure => simp [intOf]; omega
      · obtain rfl : k = n := by omega
        have e : Q = true := by rw [HQ.out]; exact range_all_iff.2 H.out.1
        subst e
        go_wp2_with fail
        go_ret
        exact ⟨rfl, Below.down HB.out H.out.2 (by omega)⟩
end
end Go.Proofs.Ytkaalinoiilmoaa
namespace Go.Proofs.Ytkaalinoiilmoaa
open Go.RowKit
set_option linter.unusedVariables false
set_option linter.unusedSimpArgs false
set_option maxRecDepth 100000
theorem haspart_f (c : Cf) (A : Option Addr) (n cap : Nat) (vd vw vg : Value) (hn : n ≤ 9223372036854775807) (p : Int) (R : Bool) (hR : inP n p = R) (w : World) :
    Calls Try.prog 59 #[.agg #[.int .i64 c.fr, .slice A n cap, vd, .int .i64 c.mj, vw, vg, .int .i64 c.se, .int .i64 c.qu, .int .i64 c.qt], .int .i64 p] w fun e w' => e = .returned (.bool R) ∧ Below w.heap.size w w' := by
  subst hR
  obtain ⟨hb, hB⟩ := cf_box w c (.slice A n cap) vd vw vg
  obtain ⟨-, k1, -⟩ := cf_at hb
  have HB := Lib.hid hB
  clear hb hB
  by_cases h0 : 0 ≤ p
  · by_cases h1 : p < (n : Int)
    · have HR := Lib.hid (show inP n p = true from decide_eq_true ⟨h0, h1⟩)
      have hd : decide (p < (n : Int)) = true := decide_eq_true h1
      clear h1
      go_enter Try.func59, Try.ntmps59
      go_wp2
      go_ret
      exact ⟨by rw [HR.out]; rfl, HB.out⟩
    · have HR := Lib.hid (show inP n p = false from decide_eq_false (fun h => h1 h.2))
      have hd : decide (p < (n : Int)) = false := decide_eq_false h1
      clear h1
      go_enter Try.func59, Try.ntmps59
      go_wp2
      go_ret
      exact ⟨by rw [HR.out]; rfl, HB.out⟩
  · have HR := Lib.hid (show inP n p = false from decide_eq_false (fun h => h0 h.1))
    have h2 : p < 0 := by omega
    clear h0
    go_enter Try.func59, Try.ntmps59
    go_wp2
    go_ret
    exact ⟨by rw [HR.out]; rfl, HB.out⟩
def zGr : Array Value := (bitc noB 256).toArray
theorem zGr_ne : ¬ (zGr = #[]) := by
  intro h
  have := congrArg Array.size h
  simp [zGr, bitc_len] at this
theorem zGr_run (w : World) : Sem.run Try.prog (zeroValue 106) w = .ok (.agg zGr) w := by
  have hi : (Try.prog.info? 106).map (fun i => i.zero) = some (some (.agg zGr)) := by kernel_rfl
  cases h : Try.prog.info? 106 with
  | none => rw [h] at hi; cases hi
  | some i =>
    rw [h] at hi
    simp only [Option.map_some, Option.some.injEq] at hi
    simp [zeroValue, typeInfo, h, hi]
structure GmS (w1 w4 : World) (c : Cf) (vp vd vw vg : Value) (y z g zg : Nat) (G : Nat → Bool) (xf xt : Int) (xw : Bool) (w' : World) : Prop where
  tb : Tab w' g (tabL c.fr.toNat (ownM c))
  bits : Blk w' zg 106 (bitc G 256)
  cb : Blk w' y 27 (cfc c vp vd vw vg)
  gb : Blk w' z 50 [.int .i64 xf, .int .i64 xt, .bool xw]
  below : Below w1.heap.size w1 w'
  since : Below w4.heap.size w4 w'
section
variable {w1 w4 w' w2 : World} {c : Cf} {vp vd vw vg : Value} {y z g zg : Nat} {G : Nat → Bool} {xf xt : Int} {xw : Bool}
theorem GmS.next (h : GmS w1 w4 c vp vd vw vg y z g zg G xf xt xw w') (hb : Below w'.heap.size w' w2) : GmS w1 w4 c vp vd vw vg y z g zg G xf xt xw w2 :=
  ⟨h.tb.below hb h.tb.lt, h.bits.below hb h.bits.lt, h.cb.below hb h.cb.lt, h.gb.below hb h.gb.lt, Below.down h.below hb h.below.size, Below.down h.since hb h.since.size⟩
theorem GmS.drew (h : GmS w1 w4 c vp vd vw vg y z g zg G xf xt xw w') : GmS w1 w4 c vp vd vw vg y z g zg G xf xt xw w'.drew := h.next (bdrewN (Below.refl _ _) 1)
theorem GmS.all (h : GmS w1 w4 c vp vd vw vg y z g zg G xf xt xw w') : (w'.cell? ⟨y, 0, none⟩ = some (.int .i64 c.fr) ∧ w'.cell? ⟨y, 1, none⟩ = some vp ∧ w'.cell? ⟨y, 2, none⟩ = some vd ∧ w'.cell? ⟨y, 3, none⟩ = some (.int .i64 c.mj) ∧ w'.cell? ⟨y, 4, none⟩ = some vw ∧ w'.cell? ⟨y, 5, none⟩ = some vg ∧ w'.cell? ⟨y, 6, none⟩ = some (.int .i64 c.se) ∧ w'.cell? ⟨y, 7, none⟩ = some (.int .i64 c.qu) ∧ w'.cell? ⟨y, 8, none⟩ = some (.int .i64 c.qt)) ∧ w'.cell? ⟨z, 0, none⟩ = some (.int .i64 xf) ∧ w'.cell? ⟨z, 1, none⟩ = some (.int .i64 xt) ∧ GmS w1 w4 c vp vd vw vg y z g zg G xf xt xw w' :=
  ⟨cf_at h.cb, h.gb.cell 0, h.gb.cell 1, h⟩
theorem GmS.all2 {p : Nat} {u : Value} (hu : (bitc G 256)[p]? = some u) (h : GmS w1 w4 c vp vd vw vg y z g zg G xf xt xw w') : (w'.cell? ⟨y, 0, none⟩ = some (.int .i64 c.fr) ∧ w'.cell? ⟨y, 1, none⟩ = some vp ∧ w'.cell? ⟨y, 2, none⟩ = some vd ∧ w'.cell? ⟨y, 3, none⟩ = some (.int .i64 c.mj) ∧ w'.cell? ⟨y, 4, none⟩ = some vw ∧ w'.cell? ⟨y, 5, none⟩ = some vg ∧ w'.cell? ⟨y, 6, none⟩ = some (.int .i64 c.se) ∧ w'.cell? ⟨y, 7, none⟩ = some (.int .i64 c.qu) ∧ w'.cell? ⟨y, 8, none⟩ = some (.int .i64 c.qt)) ∧ w'.cell? ⟨z, 0, none⟩ = some (.int .i64 xf) ∧ w'.cell? ⟨z, 1, none⟩ = some (.int .i64 xt) ∧ w'.cell? ⟨zg, p, none⟩ = some u ∧ GmS w1 w4 c vp vd vw vg y z g zg G xf xt xw w' :=
  ⟨cf_at h.cb, h.gb.cell 0, h.gb.cell 1, (h.bits.cell p).trans hu, h⟩
end
theorem grB_at (c : Cf) (s : List Gr) (k : Nat) (l : List Gr) (hk : k < l.length) : grB c (l.take k) (l.drop k) = ((okG c (l.getD k grD) && !(l.take k).any (sgB (l.getD k grD))) && grB c (l.take (k + 1)) (l.drop (k + 1))) := by
  rw [List.drop_eq_getElem_cons hk, List.take_add_one, List.getElem?_eq_getElem hk]
  simp only [grB, List.getD, List.getElem?_eq_getElem hk, Option.getD_some, Option.toList_some]
def GBits (l : List Gr) (G : Nat → Bool) : Prop := ∀ f t : Nat, f < 64 → t < 4 → G (f * 4 + t) = l.any (fun h => decide (h.f = (f : Int) ∧ h.t = (t : Int)))
theorem GBits.snoc {l : List Gr} {G : Nat → Bool} (h : GBits l G) (f t : Nat) (hf : f < 64) (ht : t < 4) (b : Bool) : GBits (l ++ [⟨f, t, b⟩]) (bitF G (f * 4 + t) true) := by
  intro f' t' hf' ht'
  rw [List.any_append]
  unfold bitF
  by_cases e : f' * 4 + t' = f * 4 + t
  · rw [if_pos e]
    have e1 : f' = f := by omega
    have e2 : t' = t := by omega
    subst e1 e2
    simp
  · rw [if_neg e, h f' t' hf' ht']
    have : ¬ ((f : Int) = f' ∧ (t : Int) = t') := by omega
    simp [this]
section
variable {w : World} {c : Cf} {vp vd vw vg : Value}
set_option maxHeartbeats 4000000 in
theorem grantsmay_any (h : CfAt w vp vd vw vg c) (hF : 1 ≤ c.fr ∧ c.fr ≤ 64) (hp4 : c.ps.length ≤ 4) (hu : unB c = true) : Calls Try.prog 38 #[.agg #[.int .i64 c.fr, vp, vd, .int .i64 c.mj, vw, vg, .int .i64 c.se, .int .i64 c.qu, .int .i64 c.qt]] w fun e w' => e = .returned (.bool (gsB c)) ∧ Below w.heap.size w w' := by
  obtain ⟨hb, hB⟩ := cf_box w c vp vd vw vg
  have h1 := h.below hB
  obtain ⟨A, cap, rfl, -⟩ := h.ps
  have hz := h.gz
  have hgs := h1.gs
  obtain ⟨A', cap', rfl⟩ : ∃ A' cap', vg = .slice A' c.gs.length cap' := by obtain ⟨A', c', e, _⟩ := hgs; exact ⟨A', c', e⟩
  have HO := Lib.hid (owners_any h1 hF hp4)
  have HU := Lib.hid hu
  have HF := Lib.hid hF
  obtain ⟨k0, k1, k2, k3, k4, k5, k6, k7, k8⟩ := cf_at hb
  have hsz : (w.alloc (.cells #[.int .i64 c.fr, .slice A c.ps.length cap, vd, .int .i64 c.mj, vw, .slice A' c.gs.length cap', .int .i64 c.se, .int .i64 c.qu, .int .i64 c.qt] 27)).heap.size = w.heap.size + 1 := by simp
  have HB := Lib.hid hB; have HCB := Lib.hid hb; have HGS := Lib.hid hgs
  have hzr := zGr_run; have hzn := zGr_ne
  have HP := Lib.hid (fun p R hR W => haspart_f c A c.ps.length cap vd vw (.slice A' c.gs.length cap') (by omega) p R hR W)
  have HQ : Hid (gsB c = grB c (c.gs.take 0) (c.gs.drop 0)) := Lib.hid (by rw [List.take_zero, List.drop_zero]; rfl)
  have HTB := Lib.hid (fun f => own_table hu f)
  have HTN := Lib.hid (fun f => own_table_no hu f)
  obtain ⟨Q, hQ⟩ : ∃ Q, gsB c = Q := ⟨_, rfl⟩
  rw [hQ] at HQ ⊢
  clear h h1 hb hB hgs hF hu hQ
  generalize hpn : c.ps.length = n at *
  generalize hgn : c.gs.length = m at *
  have HPN := Lib.hid hpn; have HGN := Lib.hid hgn
  clear hpn hgn
  go_enter Try.func38, Try.ntmps38
  go_wp2_with fail
  generalize w.alloc (.cells #[.int .i64 c.fr, .slice A n cap, vd, .int .i64 c.mj, vw, .slice A' m cap', .int .i64 c.se, .int .i64 c.qu, .int .i64 c.qt] 27) = w1 at *
  have hlt1 : w.heap.size < w1.heap.size := by omega
  clear hsz
  refine HO.out.mono ?_
  rintro e w2 ⟨b2, ⟨-, g, rfl, hg, hT⟩ | ⟨hno, -⟩⟩
  rotate_left
  · exact absurd (hno.symm.trans HU.out) (by simp)
  have q5 := (b2.cell (p := ⟨w.heap.size, 5, none⟩) hlt1).trans k5
  have hs2 := b2.size
  have b3 : Below w1.heap.size w1 (w2.alloc (.cells zGr 106)) := b2.alloc hs2 _
  have q5' := (b3.cell (p := ⟨w.heap.size, 5, none⟩) hlt1).trans k5
  have HT := Lib.hid (hT.below ((Below.refl _ _).alloc (Nat.le_refl _) (.cells zGr 106)) hT.lt)
  have hzb : Blk (w2.alloc (.cells zGr 106)) w2.heap.size 106 (bitc noB 256) := Blk.new w2 _ (bitc noB 256)
  have hgz : g < w2.heap.size := hT.lt
  have HB3 := Lib.hid b3; have HZB := Lib.hid hzb
  clear hT b2 b3 hzb HO
  go_wp2_with fail
  generalize w2.alloc (.cells zGr 106) = w3 at *
  generalize w2.heap.size = zg at *
  clear hzr hzn q5 q5' k0 k1 k2 k3 k4 k5 k6 k7 k8
  go_loopw [14] (fun i wr => ∃ k : Nat, k ≤ m ∧ i = .int .i64 k ∧ Hid (Q = grB c (c.gs.take k) (c.gs.drop k) ∧ Below w1.heap.size w1 wr ∧ Tab wr g (tabL c.fr.toNat (ownM c)) ∧ ∃ G, GBits (c.gs.take k) G ∧ Blk wr zg 106 (bitc G 256))) (fun i _ => m - (intOf i).toNat)
  case atStart => exact ⟨0, by omega, rfl, Lib.hid ⟨HQ.out, HB3.out, HT.out, noB, fun f t _ _ => by rw [List.take_zero]; rfl, HZB.out⟩⟩
  case round =>
    obtain ⟨k, hk, rfl, H⟩ := hrel
    by_cases hlt : k < m
    · obtain ⟨hst, hbel, hT, G, hG, hGb⟩ := H.out
      have hws := hbel.size
      obtain ⟨b, o, rfl, hb1, q0, q1, q2⟩ := grs_at (HGS.out.below hbel) HGN.out k hlt
      rw [grB_at c [] k c.gs (by rw [HGN.out]; exact hlt)] at hst
      have htk : c.gs.take (k + 1) = c.gs.take k ++ [c.gs.getD k grD] := by
        rw [List.take_add_one, List.getElem?_eq_getElem (by rw [HGN.out]; exact hlt)]
        simp [List.getD, List.getElem?_eq_getElem (show k < c.gs.length by rw [HGN.out]; exact hlt)]
      obtain ⟨xf, xt, xw, hx⟩ : ∃ xf xt xw, c.gs.getD k grD = ⟨xf, xt, xw⟩ := ⟨_, _, _, rfl⟩
      rw [hx] at hst q0 q1 q2 htk
      simp only at q0 q1 q2
      have HTK := Lib.hid htk
      have h4 : GmS w1 (wr.alloc (.cells #[.int .i64 xf, .int .i64 xt, .bool xw] 50)) c (.slice A n cap) vd vw (.slice (some ⟨b, o, none⟩) m cap') w.heap.size wr.heap.size g zg G xf xt xw (wr.alloc (.cells #[.int .i64 xf, .int .i64 xt, .bool xw] 50)) :=
        ⟨hT.below ((Below.refl _ _).alloc (Nat.le_refl _) _) hT.lt, hGb.alloc _, (HCB.out.below hbel hlt1).alloc _, Blk.new _ _ _, hbel.alloc hws _, Below.refl _ _⟩
      have hT4 := hT.below ((Below.refl _ _).alloc (Nat.le_refl _) (.cells #[.int .i64 xf, .int .i64 xt, .bool xw] 50)) hT.lt
      have hG4 := hGb.alloc (.cells #[.int .i64 xf, .int .i64 xt, .bool xw] 50)
      have hgz2 : wr.heap.size < (wr.alloc (.cells #[.int .i64 xf, .int .i64 xt, .bool xw] 50)).heap.size := by simp
      have hzgl := hGb.lt
      have HOF := Lib.hid (fun W hTW => pof_any g (tabL c.fr.toNat (ownM c)) xf W hTW)
      have HST := Lib.hid hst; have HGB := Lib.hid hG
      have H4 := Lib.hid h4; have HT4 := Lib.hid hT4; have HG4 := Lib.hid hG4
      have c0 := h4.gb.cell 0
      simp only [List.getElem?_cons_zero] at c0
      clear hst hbel hT hG hGb h4 hT4 hG4 H hx htk
      go_wp2_with fail
      generalize wr.alloc (.cells #[.int .i64 xf, .int .i64 xt, .bool xw] 50) = w4 at *
      generalize hzz : wr.heap.size = z at *
      have HZZ := Lib.hid hzz
      refine (HOF.out _ HT4.out).mono ?_
      rintro e w5 ⟨rfl, rfl⟩
      clear q0 q1 q2 c0 hzz
      rcases tabL_of c.fr.toNat (ownM c) xf with ⟨e1, -, e3⟩ | ⟨e1, e2, e3, e4, -⟩
      · 
        have HQF : Hid (Ending.returned (.bool false) = Ending.returned (.bool Q)) := Lib.hid (by
          have ho : ownF c xf = -1 := by
            rcases HTB.out xf with h | h
            · exact h
            · exact absurd ⟨h.2.2.1, by have := h.2.2.2.1; have := HF.out; omega⟩ e3
          rw [HST.out]; unfold okG; rw [ho]; rfl)
        rw [e1]
        generalize ofN (tabL c.fr.toNat (ownM c)) xf = N
        clear e1 e3
        have hs4 := H4.out.below
        have HS4 := Lib.hid hs4
        clear hs4
        go_wp2_with fail
        go_quiet (fail)
        go_wp2_with fail
        go_ret
        exact ⟨HQF.out, bdrewN (Below.down HB.out HS4.out (by omega)) _⟩
      · rw [e1, e2]
        have hxl : xf < c.fr := by have := HF.out; omega
        obtain ⟨N, hN⟩ : ∃ N, ownM c xf.toNat = N := ⟨_, rfl⟩
        rw [hN]
        have HN := Lib.hid hN
        clear e1 e2 hN
        cases ho : inP n N with
        | false =>
          have HQF : Hid (Ending.returned (.bool false) = Ending.returned (.bool Q)) := Lib.hid (by
            have hoo : ownF c xf = -1 := by
              rcases HTB.out xf with h | h
              · exact h
              · exfalso
                have h5 := h.2.2.2.2
                rw [HN.out] at h5
                rw [h5] at ho
                unfold inP at ho
                have := of_decide_eq_false ho
                exact this ⟨h.1, h.2.1⟩
            rw [HST.out]; unfold okG; rw [hoo]; rfl)
          have HPO := Lib.hid (fun W => HP.out N false ho W)
          obtain ⟨⟨k0, k1, k2, k3, k4, k5, k6, k7, k8⟩, c0, c1, hGM⟩ := H4.out.all
          clear ho
          go_wp2_with fail
          refine wp_region_held_drew (S := (fun w' => (w'.cell? ⟨w.heap.size, 0, none⟩ = some (.int .i64 c.fr) ∧ w'.cell? ⟨w.heap.size, 1, none⟩ = some (.slice A n cap) ∧ w'.cell? ⟨w.heap.size, 2, none⟩ = some vd ∧ w'.cell? ⟨w.heap.size, 3, none⟩ = some (.int .i64 c.mj) ∧ w'.cell? ⟨w.heap.size, 4, none⟩ = some vw ∧ w'.cell? ⟨w.heap.size, 5, none⟩ = some (.slice (some ⟨b, o, none⟩) m cap') ∧ w'.cell? ⟨w.heap.size, 6, none⟩ = some (.int .i64 c.se) ∧ w'.cell? ⟨w.heap.size, 7, none⟩ = some (.int .i64 c.qu) ∧ w'.cell? ⟨w.heap.size, 8, none⟩ = some (.int .i64 c.qt)) ∧ w'.cell? ⟨z, 0, none⟩ = some (.int .i64 xf) ∧ w'.cell? ⟨z, 1, none⟩ = some (.int .i64 xt) ∧ GmS w1 w4 c (.slice A n cap) vd vw (.slice (some ⟨b, o, none⟩) m cap') w.heap.size z g zg G xf xt xw w')) (by kernel_rfl) ?_ (fun hHeld => ?_)
          · try dsimp only
            (go_split_ands; refine GmS.all ?_; (first | assumption | (exact GmS.drew (by assumption)) | (exact GmS.next (by assumption) (by assumption))))
          refine wpAnyH_take (i := 0) (v := ?v0zB) rfl (by kernel_rfl) (by kernel_rfl) (by kernel_rfl) (fun _ _ _ h => h) (Or.inl ⟨by rfl, ?hy0zB⟩) (by assumption) ?rest0zB
          case hy0zB => intro w hSw; (try dsimp only at hSw); first | (go_simp; done) | (go_simp; with_reducible rfl)
          try simp only [Act.put, List.getElem_toArray, List.getElem_cons_succ, List.getElem_cons_zero, List.setIfInBounds_toArray, List.set_cons_zero, List.set_cons_succ]
          refine wpAnyH_take (i := 1) (v := ?v1zB) rfl (by kernel_rfl) (by kernel_rfl) (by kernel_rfl) (fun _ _ _ h => h) (Or.inl ⟨by rfl, ?hy1zB⟩) (by assumption) ?rest1zB
          case hy1zB => intro w hSw; (try dsimp only at hSw); first | (go_simp; done) | (go_simp; with_reducible rfl)
          try simp only [Act.put, List.getElem_toArray, List.getElem_cons_succ, List.getElem_cons_zero, List.setIfInBounds_toArray, List.set_cons_zero, List.set_cons_succ]
          refine wpAnyH_take (i := 2) (v := ?v2zB) rfl (by kernel_rfl) (by kernel_rfl) (by kernel_rfl) (fun _ _ _ h => h) (Or.inl ⟨by rfl, ?hy2zB⟩) (by assumption) ?rest2zB
          case hy2zB => intro w hSw; (try dsimp only at hSw); first | (go_simp; done) | (go_simp; with_reducible rfl)
          try simp only [Act.put, List.getElem_toArray, List.getElem_cons_succ, List.getElem_cons_zero, List.setIfInBounds_toArray, List.set_cons_zero, List.set_cons_succ]
          refine wpAnyH_take (i := 3) (v := ?v3zB) rfl (by kernel_rfl) (by kernel_rfl) (by kernel_rfl) (fun _ _ _ h => h) (Or.inl ⟨by rfl, ?hy3zB⟩) (by assumption) ?rest3zB
          case hy3zB => intro w hSw; (try dsimp only at hSw); first | (go_simp; done) | (go_simp; with_reducible rfl)
          try simp only [Act.put, List.getElem_toArray, List.getElem_cons_succ, List.getElem_cons_zero, List.setIfInBounds_toArray, List.set_cons_zero, List.set_cons_succ]
          refine wpAnyH_take (i := 4) (v := ?v4zB) rfl (by kernel_rfl) (by kernel_rfl) (by kernel_rfl) (fun _ _ _ h => h) (Or.inl ⟨by rfl, ?hy4zB⟩) (by assumption) ?rest4zB
          case hy4zB => intro w hSw; (try dsimp only at hSw); first | (go_simp; done) | (go_simp; with_reducible rfl)
          try simp only [Act.put, List.getElem_toArray, List.getElem_cons_succ, List.getElem_cons_zero, List.setIfInBounds_toArray, List.set_cons_zero, List.set_cons_succ]
          refine wpAnyH_ready (rs := [5]) (by kernel_rfl) (by simp) ?_
          refine AllReadyH.cons rfl (fun K hK => ?_) AllReadyH.nil
          go_simp
          refine (HPO.out _).mono ?_
          rintro e w5 ⟨rfl, hb5⟩
          go_wp2_with fail
          refine hK.out _ _ ?_ (fun hHeld2 => ?_)
          · try dsimp only
            (go_split_ands; refine GmS.all ?_; (first | assumption | (exact GmS.drew (by assumption)) | (exact GmS.next (by assumption) (by assumption))))
          clear hK K hHeld
          have hHeld := hHeld2; clear hHeld2
          try simp only [Act.put, List.getElem_toArray, List.getElem_cons_succ, List.getElem_cons_zero, List.setIfInBounds_toArray, List.set_cons_zero, List.set_cons_succ]
          refine wpAnyH_take (i := 6) (v := ?v6zB) rfl (by kernel_rfl) (by kernel_rfl) (by kernel_rfl) (fun _ _ _ h => h) (Or.inl ⟨by rfl, ?hy6zB⟩) (by assumption) ?rest6zB
          case hy6zB => intro w hSw; (try dsimp only at hSw); first | (go_simp; done) | (go_simp; with_reducible rfl)
          try simp only [Act.put, List.getElem_toArray, List.getElem_cons_succ, List.getElem_cons_zero, List.setIfInBounds_toArray, List.set_cons_zero, List.set_cons_succ]
          refine wpAnyH_take (i := 7) (v := ?v7zB) rfl (by kernel_rfl) (by kernel_rfl) (by kernel_rfl) (fun _ _ _ h => h) (Or.inl ⟨by rfl, ?hy7zB⟩) (by assumption) ?rest7zB
          case hy7zB => intro w hSw; (try dsimp only at hSw); first | (go_simp; done) | (go_simp; with_reducible rfl)
          try simp only [Act.put, List.getElem_toArray, List.getElem_cons_succ, List.getElem_cons_zero, List.setIfInBounds_toArray, List.set_cons_zero, List.set_cons_succ]
          refine wpAnyH_take (i := 8) (v := ?v8zB) rfl (by kernel_rfl) (by kernel_rfl) (by kernel_rfl) (fun _ _ _ h => h) (Or.inl ⟨by rfl, ?hy8zB⟩) (by assumption) ?rest8zB
          case hy8zB => intro w hSw; (try dsimp only at hSw); first | (go_simp; done) | (go_simp; with_reducible rfl)
          try simp only [Act.put, List.getElem_toArray, List.getElem_cons_succ, List.getElem_cons_zero, List.setIfInBounds_toArray, List.set_cons_zero, List.set_cons_succ]
          refine wpAnyH_take (i := 9) (v := undef) rfl (by kernel_rfl) (by kernel_rfl) (by kernel_rfl) (fun _ _ _ h => h) (Or.inr ⟨by rfl, rfl⟩) (by assumption) ?rest9zB
          try simp only [Act.put, List.getElem_toArray, List.getElem_cons_succ, List.getElem_cons_zero, List.setIfInBounds_toArray, List.set_cons_zero, List.set_cons_succ]
          refine wpAnyH_take (i := 10) (v := undef) rfl (by kernel_rfl) (by kernel_rfl) (by kernel_rfl) (fun _ _ _ h => h) (Or.inr ⟨by rfl, rfl⟩) (by assumption) ?rest10zB
          try simp only [Act.put, List.getElem_toArray, List.getElem_cons_succ, List.getElem_cons_zero, List.setIfInBounds_toArray, List.set_cons_zero, List.set_cons_succ]
          refine wpAnyH_take (i := 11) (v := undef) rfl (by kernel_rfl) (by kernel_rfl) (by kernel_rfl) (fun _ _ _ h => h) (Or.inr ⟨by rfl, rfl⟩) (by assumption) ?rest11zB
          try simp only [Act.put, List.getElem_toArray, List.getElem_cons_succ, List.getElem_cons_zero, List.setIfInBounds_toArray, List.set_cons_zero, List.set_cons_succ]
          refine wpAnyH_take (i := 12) (v := undef) rfl (by kernel_rfl) (by kernel_rfl) (by kernel_rfl) (fun _ _ _ h => h) (Or.inr ⟨by rfl, rfl⟩) (by assumption) ?rest12zB
          try simp only [Act.put, List.getElem_toArray, List.getElem_cons_succ, List.getElem_cons_zero, List.setIfInBounds_toArray, List.set_cons_zero, List.set_cons_succ]
          refine wpAnyH_take (i := 13) (v := undef) rfl (by kernel_rfl) (by kernel_rfl) (by kernel_rfl) (fun _ _ _ h => h) (Or.inr ⟨by rfl, rfl⟩) (by assumption) ?rest13zB
          try simp only [Act.put, List.getElem_toArray, List.getElem_cons_succ, List.getElem_cons_zero, List.setIfInBounds_toArray, List.set_cons_zero, List.set_cons_succ]
          refine wpAnyH_take (i := 14) (v := ?v14zB) rfl (by kernel_rfl) (by kernel_rfl) (by kernel_rfl) (fun _ _ _ h => h) (Or.inl ⟨by rfl, ?hy14zB⟩) (by assumption) ?rest14zB
          case hy14zB => intro w hSw; (try dsimp only at hSw); first | (go_simp; done) | (go_simp; with_reducible rfl)
          try simp only [Act.put, List.getElem_toArray, List.getElem_cons_succ, List.getElem_cons_zero, List.setIfInBounds_toArray, List.set_cons_zero, List.set_cons_succ]
          refine wpAnyH_take (i := 15) (v := ?v15zB) rfl (by kernel_rfl) (by kernel_rfl) (by kernel_rfl) (fun _ _ _ h => h) (Or.inl ⟨by rfl, ?hy15zB⟩) (by assumption) ?rest15zB
          case hy15zB => intro w hSw; (try dsimp only at hSw); first | (go_simp; done) | (go_simp; with_reducible rfl)
          try simp only [Act.put, List.getElem_toArray, List.getElem_cons_succ, List.getElem_cons_zero, List.setIfInBounds_toArray, List.set_cons_zero, List.set_cons_succ]
          refine wpAnyH_take (i := 16) (v := undef) rfl (by kernel_rfl) (by kernel_rfl) (by kernel_rfl) (fun _ _ _ h => h) (Or.inr ⟨by rfl, rfl⟩) (by assumption) ?rest16zB
          try simp only [Act.put, List.getElem_toArray, List.getElem_cons_succ, List.getElem_cons_zero, List.setIfInBounds_toArray, List.set_cons_zero, List.set_cons_succ]
          refine wpAnyH_take (i := 17) (v := undef) rfl (by kernel_rfl) (by kernel_rfl) (by kernel_rfl) (fun _ _ _ h => h) (Or.inr ⟨by rfl, rfl⟩) (by assumption) ?rest17zB
          try simp only [Act.put, List.getElem_toArray, List.getElem_cons_succ, List.getElem_cons_zero, List.setIfInBounds_toArray, List.set_cons_zero, List.set_cons_succ]
          refine wpAnyH_take (i := 18) (v := undef) rfl (by kernel_rfl) (by kernel_rfl) (by kernel_rfl) (fun _ _ _ h => h) (Or.inr ⟨by rfl, rfl⟩) (by assumption) ?rest18zB
          try simp only [Act.put, List.getElem_toArray, List.getElem_cons_succ, List.getElem_cons_zero, List.setIfInBounds_toArray, List.set_cons_zero, List.set_cons_succ]
          refine wpAnyH_take (i := 19) (v := undef) rfl (by kernel_rfl) (by kernel_rfl) (by kernel_rfl) (fun _ _ _ h => h) (Or.inr ⟨by rfl, rfl⟩) (by assumption) ?rest19zB
          try simp only [Act.put, List.getElem_toArray, List.getElem_cons_succ, List.getElem_cons_zero, List.setIfInBounds_toArray, List.set_cons_zero, List.set_cons_succ]
          refine wpAnyH_take (i := 20) (v := ?v20zB) rfl (by kernel_rfl) (by kernel_rfl) (by kernel_rfl) (fun _ _ _ h => h) (Or.inl ⟨by rfl, ?hy20zB⟩) (by assumption) ?rest20zB
          case hy20zB => intro w hSw; (try dsimp only at hSw); first | (go_simp; done) | (go_simp; with_reducible rfl)
          try simp only [Act.put, List.getElem_toArray, List.getElem_cons_succ, List.getElem_cons_zero, List.setIfInBounds_toArray, List.set_cons_zero, List.set_cons_succ]
          refine wpAnyH_take (i := 21) (v := ?v21zB) rfl (by kernel_rfl) (by kernel_rfl) (by kernel_rfl) (fun _ _ _ h => h) (Or.inl ⟨by rfl, ?hy21zB⟩) (by assumption) ?rest21zB
          case hy21zB => intro w hSw; (try dsimp only at hSw); first | (go_simp; done) | (go_simp; with_reducible rfl)
          try simp only [Act.put, List.getElem_toArray, List.getElem_cons_succ, List.getElem_cons_zero, List.setIfInBounds_toArray, List.set_cons_zero, List.set_cons_succ]
          refine wpAnyH_take (i := 22) (v := undef) rfl (by kernel_rfl) (by kernel_rfl) (by kernel_rfl) (fun _ _ _ h => h) (Or.inr ⟨by rfl, rfl⟩) (by assumption) ?rest22zB
          try simp only [Act.put, List.getElem_toArray, List.getElem_cons_succ, List.getElem_cons_zero, List.setIfInBounds_toArray, List.set_cons_zero, List.set_cons_succ]
          refine wpAnyH_take (i := 23) (v := undef) rfl (by kernel_rfl) (by kernel_rfl) (by kernel_rfl) (fun _ _ _ h => h) (Or.inr ⟨by rfl, rfl⟩) (by assumption) ?rest23zB
          try simp only [Act.put, List.getElem_toArray, List.getElem_cons_succ, List.getElem_cons_zero, List.setIfInBounds_toArray, List.set_cons_zero, List.set_cons_succ]
          refine wpAnyH_take (i := 24) (v := undef) rfl (by kernel_rfl) (by kernel_rfl) (by kernel_rfl) (fun _ _ _ h => h) (Or.inr ⟨by rfl, rfl⟩) (by assumption) ?rest24zB
          try simp only [Act.put, List.getElem_toArray, List.getElem_cons_succ, List.getElem_cons_zero, List.setIfInBounds_toArray, List.set_cons_zero, List.set_cons_succ]
          refine wpAnyH_take (i := 25) (v := undef) rfl (by kernel_rfl) (by kernel_rfl) (by kernel_rfl) (fun _ _ _ h => h) (Or.inr ⟨by rfl, rfl⟩) (by assumption) ?rest25zB
          try simp only [Act.put, List.getElem_toArray, List.getElem_cons_succ, List.getElem_cons_zero, List.setIfInBounds_toArray, List.set_cons_zero, List.set_cons_succ]
          refine wpAnyH_take (i := 26) (v := undef) rfl (by kernel_rfl) (by kernel_rfl) (by kernel_rfl) (fun _ _ _ h => h) (Or.inr ⟨by rfl, rfl⟩) (by assumption) ?rest26zB
          try simp only [Act.put, List.getElem_toArray, List.getElem_cons_succ, List.getElem_cons_zero, List.setIfInBounds_toArray, List.set_cons_zero, List.set_cons_succ]
          refine wpAnyH_take (i := 27) (v := undef) rfl (by kernel_rfl) (by kernel_rfl) (by kernel_rfl) (fun _ _ _ h => h) (Or.inr ⟨by rfl, rfl⟩) (by assumption) ?rest27zB
          try simp only [Act.put, List.getElem_toArray, List.getElem_cons_succ, List.getElem_cons_zero, List.setIfInBounds_toArray, List.set_cons_zero, List.set_cons_succ]
          refine wpAnyH_take (i := 28) (v := undef) rfl (by kernel_rfl) (by kernel_rfl) (by kernel_rfl) (fun _ _ _ h => h) (Or.inr ⟨by rfl, rfl⟩) (by assumption) ?rest28zB
          try simp only [Act.put, List.getElem_toArray, List.getElem_cons_succ, List.getElem_cons_zero, List.setIfInBounds_toArray, List.set_cons_zero, List.set_cons_succ]
          refine wpAnyH_take (i := 29) (v := ?v29zB) rfl (by kernel_rfl) (by kernel_rfl) (by kernel_rfl) (fun _ _ _ h => h) (Or.inl ⟨by rfl, ?hy29zB⟩) (by assumption) ?rest29zB
          case hy29zB => intro w hSw; (try dsimp only at hSw); first | (go_simp; done) | (go_simp; with_reducible rfl)
          try simp only [Act.put, List.getElem_toArray, List.getElem_cons_succ, List.getElem_cons_zero, List.setIfInBounds_toArray, List.set_cons_zero, List.set_cons_succ]
          refine wpAnyH_done (by kernel_rfl) ?_ _
          all_goals
            have HS9 := Lib.hid hHeld.2.2.2
            clear hHeld
            go_wp2_with fail
            go_ret
            exact ⟨HQF.out, Below.down HB.out HS9.out.below (by omega)⟩
        | true =>
          have HPO := Lib.hid (fun W => HP.out N true ho W)
          have hown : ownF c xf = N ∧ 0 ≤ N := by
            unfold inP at ho
            have h9 := of_decide_eq_true ho
            rcases HTB.out xf with h | h
            · have := HTN.out xf h e3
              rw [HN.out] at this
              omega
            · exact ⟨by rw [← h.2.2.2.2, HN.out], h9.1⟩
          have HOW := Lib.hid hown
          clear hown ho
          cases hot : inP n xt with
          | false =>
            have HQF : Hid (Ending.returned (.bool false) = Ending.returned (.bool Q)) := Lib.hid (by
              rw [HST.out]; unfold okG; rw [HPN.out, hot]; simp)
            have HPT := Lib.hid (fun W => HP.out xt false hot W)
            obtain ⟨⟨k0, k1, k2, k3, k4, k5, k6, k7, k8⟩, c0, c1, hGM⟩ := H4.out.all
            clear hot
            go_wp2_with fail
            refine wp_region_held_drew (S := (fun w' => (w'.cell? ⟨w.heap.size, 0, none⟩ = some (.int .i64 c.fr) ∧ w'.cell? ⟨w.heap.size, 1, none⟩ = some (.slice A n cap) ∧ w'.cell? ⟨w.heap.size, 2, none⟩ = some vd ∧ w'.cell? ⟨w.heap.size, 3, none⟩ = some (.int .i64 c.mj) ∧ w'.cell? ⟨w.heap.size, 4, none⟩ = some vw ∧ w'.cell? ⟨w.heap.size, 5, none⟩ = some (.slice (some ⟨b, o, none⟩) m cap') ∧ w'.cell? ⟨w.heap.size, 6, none⟩ = some (.int .i64 c.se) ∧ w'.cell? ⟨w.heap.size, 7, none⟩ = some (.int .i64 c.qu) ∧ w'.cell? ⟨w.heap.size, 8, none⟩ = some (.int .i64 c.qt)) ∧ w'.cell? ⟨z, 0, none⟩ = some (.int .i64 xf) ∧ w'.cell? ⟨z, 1, none⟩ = some (.int .i64 xt) ∧ GmS w1 w4 c (.slice A n cap) vd vw (.slice (some ⟨b, o, none⟩) m cap') w.heap.size z g zg G xf xt xw w')) (by kernel_rfl) ?_ (fun hHeld => ?_)
            · try dsimp only
              (go_split_ands; refine GmS.all ?_; (first | assumption | (exact GmS.drew (by assumption)) | (exact GmS.next (by assumption) (by assumption))))
            refine wpAnyH_take (i := 0) (v := ?v0zC) rfl (by kernel_rfl) (by kernel_rfl) (by kernel_rfl) (fun _ _ _ h => h) (Or.inl ⟨by rfl, ?hy0zC⟩) (by assumption) ?rest0zC
            case hy0zC => intro w hSw; (try dsimp only at hSw); first | (go_simp; done) | (go_simp; with_reducible rfl)
            try simp only [Act.put, List.getElem_toArray, List.getElem_cons_succ, List.getElem_cons_zero, List.setIfInBounds_toArray, List.set_cons_zero, List.set_cons_succ]
            refine wpAnyH_take (i := 1) (v := ?v1zC) rfl (by kernel_rfl) (by kernel_rfl) (by kernel_rfl) (fun _ _ _ h => h) (Or.inl ⟨by rfl, ?hy1zC⟩) (by assumption) ?rest1zC
            case hy1zC => intro w hSw; (try dsimp only at hSw); first | (go_simp; done) | (go_simp; with_reducible rfl)
            try simp only [Act.put, List.getElem_toArray, List.getElem_cons_succ, List.getElem_cons_zero, List.setIfInBounds_toArray, List.set_cons_zero, List.set_cons_succ]
            refine wpAnyH_take (i := 2) (v := ?v2zC) rfl (by kernel_rfl) (by kernel_rfl) (by kernel_rfl) (fun _ _ _ h => h) (Or.inl ⟨by rfl, ?hy2zC⟩) (by assumption) ?rest2zC
            case hy2zC => intro w hSw; (try dsimp only at hSw); first | (go_simp; done) | (go_simp; with_reducible rfl)
            try simp only [Act.put, List.getElem_toArray, List.getElem_cons_succ, List.getElem_cons_zero, List.setIfInBounds_toArray, List.set_cons_zero, List.set_cons_succ]
            refine wpAnyH_take (i := 3) (v := ?v3zC) rfl (by kernel_rfl) (by kernel_rfl) (by kernel_rfl) (fun _ _ _ h => h) (Or.inl ⟨by rfl, ?hy3zC⟩) (by assumption) ?rest3zC
            case hy3zC => intro w hSw; (try dsimp only at hSw); first | (go_simp; done) | (go_simp; with_reducible rfl)
            try simp only [Act.put, List.getElem_toArray, List.getElem_cons_succ, List.getElem_cons_zero, List.setIfInBounds_toArray, List.set_cons_zero, List.set_cons_succ]
            refine wpAnyH_take (i := 4) (v := ?v4zC) rfl (by kernel_rfl) (by kernel_rfl) (by kernel_rfl) (fun _ _ _ h => h) (Or.inl ⟨by rfl, ?hy4zC⟩) (by assumption) ?rest4zC
            case hy4zC => intro w hSw; (try dsimp only at hSw); first | (go_simp; done) | (go_simp; with_reducible rfl)
            try simp only [Act.put, List.getElem_toArray, List.getElem_cons_succ, List.getElem_cons_zero, List.setIfInBounds_toArray, List.set_cons_zero, List.set_cons_succ]
            refine wpAnyH_ready (rs := [5]) (by kernel_rfl) (by simp) ?_
            refine AllReadyH.cons rfl (fun K hK => ?_) AllReadyH.nil
            go_simp
            refine (HPO.out _).mono ?_
            rintro e w5 ⟨rfl, hb5⟩
            go_wp2_with fail
            refine hK.out _ _ ?_ (fun hHeld2 => ?_)
            · try dsimp only
              (go_split_ands; refine GmS.all ?_; (first | assumption | (exact GmS.drew (by assumption)) | (exact GmS.next (by assumption) (by assumption))))
            clear hK K hHeld
            have hHeld := hHeld2; clear hHeld2
            try simp only [Act.put, List.getElem_toArray, List.getElem_cons_succ, List.getElem_cons_zero, List.setIfInBounds_toArray, List.set_cons_zero, List.set_cons_succ]
            refine wpAnyH_take (i := 6) (v := ?v6zC) rfl (by kernel_rfl) (by kernel_rfl) (by kernel_rfl) (fun _ _ _ h => h) (Or.inl ⟨by rfl, ?hy6zC⟩) (by assumption) ?rest6zC
            case hy6zC => intro w hSw; (try dsimp only at hSw); first | (go_simp; done) | (go_simp; with_reducible rfl)
            try simp only [Act.put, List.getElem_toArray, List.getElem_cons_succ, List.getElem_cons_zero, List.setIfInBounds_toArray, List.set_cons_zero, List.set_cons_succ]
            refine wpAnyH_take (i := 7) (v := ?v7zC) rfl (by kernel_rfl) (by kernel_rfl) (by kernel_rfl) (fun _ _ _ h => h) (Or.inl ⟨by rfl, ?hy7zC⟩) (by assumption) ?rest7zC
            case hy7zC => intro w hSw; (try dsimp only at hSw); first | (go_simp; done) | (go_simp; with_reducible rfl)
            try simp only [Act.put, List.getElem_toArray, List.getElem_cons_succ, List.getElem_cons_zero, List.setIfInBounds_toArray, List.set_cons_zero, List.set_cons_succ]
            refine wpAnyH_take (i := 8) (v := ?v8zC) rfl (by kernel_rfl) (by kernel_rfl) (by kernel_rfl) (fun _ _ _ h => h) (Or.inl ⟨by rfl, ?hy8zC⟩) (by assumption) ?rest8zC
            case hy8zC => intro w hSw; (try dsimp only at hSw); first | (go_simp; done) | (go_simp; with_reducible rfl)
            try simp only [Act.put, List.getElem_toArray, List.getElem_cons_succ, List.getElem_cons_zero, List.setIfInBounds_toArray, List.set_cons_zero, List.set_cons_succ]
            refine wpAnyH_take (i := 9) (v := ?v9zC) rfl (by kernel_rfl) (by kernel_rfl) (by kernel_rfl) (fun _ _ _ h => h) (Or.inl ⟨by rfl, ?hy9zC⟩) (by assumption) ?rest9zC
            case hy9zC => intro w hSw; (try dsimp only at hSw); first | (go_simp; done) | (go_simp; with_reducible rfl)
            try simp only [Act.put, List.getElem_toArray, List.getElem_cons_succ, List.getElem_cons_zero, List.setIfInBounds_toArray, List.set_cons_zero, List.set_cons_succ]
            refine wpAnyH_take (i := 10) (v := ?v10zC) rfl (by kernel_rfl) (by kernel_rfl) (by kernel_rfl) (fun _ _ _ h => h) (Or.inl ⟨by rfl, ?hy10zC⟩) (by assumption) ?rest10zC
            case hy10zC => intro w hSw; (try dsimp only at hSw); first | (go_simp; done) | (go_simp; with_reducible rfl)
            try simp only [Act.put, List.getElem_toArray, List.getElem_cons_succ, List.getElem_cons_zero, List.setIfInBounds_toArray, List.set_cons_zero, List.set_cons_succ]
            refine wpAnyH_take (i := 11) (v := ?v11zC) rfl (by kernel_rfl) (by kernel_rfl) (by kernel_rfl) (fun _ _ _ h => h) (Or.inl ⟨by rfl, ?hy11zC⟩) (by assumption) ?rest11zC
            case hy11zC => intro w hSw; (try dsimp only at hSw); first | (go_simp; done) | (go_simp; with_reducible rfl)
            try simp only [Act.put, List.getElem_toArray, List.getElem_cons_succ, List.getElem_cons_zero, List.setIfInBounds_toArray, List.set_cons_zero, List.set_cons_succ]
            refine wpAnyH_ready (rs := [12]) (by kernel_rfl) (by simp) ?_
            refine AllReadyH.cons rfl (fun K hK => ?_) AllReadyH.nil
            go_simp
            refine (HPT.out _).mono ?_
            rintro e w6 ⟨rfl, hb6⟩
            go_wp2_with fail
            refine hK.out _ _ ?_ (fun hHeld2 => ?_)
            · try dsimp only
              (go_split_ands; refine GmS.all ?_; (first | assumption | (exact GmS.drew (by assumption)) | (exact GmS.next (by assumption) (by assumption))))
            clear hK K hHeld
            have hHeld := hHeld2; clear hHeld2
            try simp only [Act.put, List.getElem_toArray, List.getElem_cons_succ, List.getElem_cons_zero, List.setIfInBounds_toArray, List.set_cons_zero, List.set_cons_succ]
            refine wpAnyH_take (i := 13) (v := ?v13zC) rfl (by kernel_rfl) (by kernel_rfl) (by kernel_rfl) (fun _ _ _ h => h) (Or.inl ⟨by rfl, ?hy13zC⟩) (by assumption) ?rest13zC
            case hy13zC => intro w hSw; (try dsimp only at hSw); first | (go_simp; done) | (go_simp; with_reducible rfl)
            try simp only [Act.put, List.getElem_toArray, List.getElem_cons_succ, List.getElem_cons_zero, List.setIfInBounds_toArray, List.set_cons_zero, List.set_cons_succ]
            refine wpAnyH_take (i := 14) (v := ?v14zC) rfl (by kernel_rfl) (by kernel_rfl) (by kernel_rfl) (fun _ _ _ h => h) (Or.inl ⟨by rfl, ?hy14zC⟩) (by assumption) ?rest14zC
            case hy14zC => intro w hSw; (try dsimp only at hSw); first | (go_simp; done) | (go_simp; with_reducible rfl)
            try simp only [Act.put, List.getElem_toArray, List.getElem_cons_succ, List.getElem_cons_zero, List.setIfInBounds_toArray, List.set_cons_zero, List.set_cons_succ]
            refine wpAnyH_take (i := 15) (v := ?v15zC) rfl (by kernel_rfl) (by kernel_rfl) (by kernel_rfl) (fun _ _ _ h => h) (Or.inl ⟨by rfl, ?hy15zC⟩) (by assumption) ?rest15zC
            case hy15zC => intro w hSw; (try dsimp only at hSw); first | (go_simp; done) | (go_simp; with_reducible rfl)
            try simp only [Act.put, List.getElem_toArray, List.getElem_cons_succ, List.getElem_cons_zero, List.setIfInBounds_toArray, List.set_cons_zero, List.set_cons_succ]
            refine wpAnyH_take (i := 16) (v := undef) rfl (by kernel_rfl) (by kernel_rfl) (by kernel_rfl) (fun _ _ _ h => h) (Or.inr ⟨by rfl, rfl⟩) (by assumption) ?rest16zC
            try simp only [Act.put, List.getElem_toArray, List.getElem_cons_succ, List.getElem_cons_zero, List.setIfInBounds_toArray, List.set_cons_zero, List.set_cons_succ]
            refine wpAnyH_take (i := 17) (v := undef) rfl (by kernel_rfl) (by kernel_rfl) (by kernel_rfl) (fun _ _ _ h => h) (Or.inr ⟨by rfl, rfl⟩) (by assumption) ?rest17zC
            try simp only [Act.put, List.getElem_toArray, List.getElem_cons_succ, List.getElem_cons_zero, List.setIfInBounds_toArray, List.set_cons_zero, List.set_cons_succ]
            refine wpAnyH_take (i := 18) (v := undef) rfl (by kernel_rfl) (by kernel_rfl) (by kernel_rfl) (fun _ _ _ h => h) (Or.inr ⟨by rfl, rfl⟩) (by assumption) ?rest18zC
            try simp only [Act.put, List.getElem_toArray, List.getElem_cons_succ, List.getElem_cons_zero, List.setIfInBounds_toArray, List.set_cons_zero, List.set_cons_succ]
            refine wpAnyH_take (i := 19) (v := undef) rfl (by kernel_rfl) (by kernel_rfl) (by kernel_rfl) (fun _ _ _ h => h) (Or.inr ⟨by rfl, rfl⟩) (by assumption) ?rest19zC
            try simp only [Act.put, List.getElem_toArray, List.getElem_cons_succ, List.getElem_cons_zero, List.setIfInBounds_toArray, List.set_cons_zero, List.set_cons_succ]
            refine wpAnyH_take (i := 20) (v := ?v20zC) rfl (by kernel_rfl) (by kernel_rfl) (by kernel_rfl) (fun _ _ _ h => h) (Or.inl ⟨by rfl, ?hy20zC⟩) (by assumption) ?rest20zC
            case hy20zC => intro w hSw; (try dsimp only at hSw); first | (go_simp; done) | (go_simp; with_reducible rfl)
            try simp only [Act.put, List.getElem_toArray, List.getElem_cons_succ, List.getElem_cons_zero, List.setIfInBounds_toArray, List.set_cons_zero, List.set_cons_succ]
            refine wpAnyH_take (i := 21) (v := ?v21zC) rfl (by kernel_rfl) (by kernel_rfl) (by kernel_rfl) (fun _ _ _ h => h) (Or.inl ⟨by rfl, ?hy21zC⟩) (by assumption) ?rest21zC
            case hy21zC => intro w hSw; (try dsimp only at hSw); first | (go_simp; done) | (go_simp; with_reducible rfl)
            try simp only [Act.put, List.getElem_toArray, List.getElem_cons_succ, List.getElem_cons_zero, List.setIfInBounds_toArray, List.set_cons_zero, List.set_cons_succ]
            refine wpAnyH_take (i := 22) (v := undef) rfl (by kernel_rfl) (by kernel_rfl) (by kernel_rfl) (fun _ _ _ h => h) (Or.inr ⟨by rfl, rfl⟩) (by assumption) ?rest22zC
            try simp only [Act.put, List.getElem_toArray, List.getElem_cons_succ, List.getElem_cons_zero, List.setIfInBounds_toArray, List.set_cons_zero, List.set_cons_succ]
            refine wpAnyH_take (i := 23) (v := undef) rfl (by kernel_rfl) (by kernel_rfl) (by kernel_rfl) (fun _ _ _ h => h) (Or.inr ⟨by rfl, rfl⟩) (by assumption) ?rest23zC
            try simp only [Act.put, List.getElem_toArray, List.getElem_cons_succ, List.getElem_cons_zero, List.setIfInBounds_toArray, List.set_cons_zero, List.set_cons_succ]
            refine wpAnyH_take (i := 24) (v := undef) rfl (by kernel_rfl) (by kernel_rfl) (by kernel_rfl) (fun _ _ _ h => h) (Or.inr ⟨by rfl, rfl⟩) (by assumption) ?rest24zC
            try simp only [Act.put, List.getElem_toArray, List.getElem_cons_succ, List.getElem_cons_zero, List.setIfInBounds_toArray, List.set_cons_zero, List.set_cons_succ]
            refine wpAnyH_take (i := 25) (v := undef) rfl (by kernel_rfl) (by kernel_rfl) (by kernel_rfl) (fun _ _ _ h => h) (Or.inr ⟨by rfl, rfl⟩) (by assumption) ?rest25zC
            try simp only [Act.put, List.getElem_toArray, List.getElem_cons_succ, List.getElem_cons_zero, List.setIfInBounds_toArray, List.set_cons_zero, List.set_cons_succ]
            refine wpAnyH_take (i := 26) (v := undef) rfl (by kernel_rfl) (by kernel_rfl) (by kernel_rfl) (fun _ _ _ h => h) (Or.inr ⟨by rfl, rfl⟩) (by assumption) ?rest26zC
            try simp only [Act.put, List.getElem_toArray, List.getElem_cons_succ, List.getElem_cons_zero, List.setIfInBounds_toArray, List.set_cons_zero, List.set_cons_succ]
            refine wpAnyH_take (i := 27) (v := undef) rfl (by kernel_rfl) (by kernel_rfl) (by kernel_rfl) (fun _ _ _ h => h) (Or.inr ⟨by rfl, rfl⟩) (by assumption) ?rest27zC
            try simp only [Act.put, List.getElem_toArray, List.getElem_cons_succ, List.getElem_cons_zero, List.setIfInBounds_toArray, List.set_cons_zero, List.set_cons_succ]
            refine wpAnyH_take (i := 28) (v := undef) rfl (by kernel_rfl) (by kernel_rfl) (by kernel_rfl) (fun _ _ _ h => h) (Or.inr ⟨by rfl, rfl⟩) (by assumption) ?rest28zC
            try simp only [Act.put, List.getElem_toArray, List.getElem_cons_succ, List.getElem_cons_zero, List.setIfInBounds_toArray, List.set_cons_zero, List.set_cons_succ]
            refine wpAnyH_take (i := 29) (v := ?v29zC) rfl (by kernel_rfl) (by kernel_rfl) (by kernel_rfl) (fun _ _ _ h => h) (Or.inl ⟨by rfl, ?hy29zC⟩) (by assumption) ?rest29zC
            case hy29zC => intro w hSw; (try dsimp only at hSw); first | (go_simp; done) | (go_simp; with_reducible rfl)
            try simp only [Act.put, List.getElem_toArray, List.getElem_cons_succ, List.getElem_cons_zero, List.setIfInBounds_toArray, List.set_cons_zero, List.set_cons_succ]
            refine wpAnyH_done (by kernel_rfl) ?_ _
            all_goals
              have HS9 := Lib.hid hHeld.2.2.2
              clear hHeld
              go_wp2_with fail
              go_ret
              exact ⟨HQF.out, Below.down HB.out HS9.out.below (by omega)⟩
          | true =>
            have HPT := Lib.hid (fun W => HP.out xt true hot W)
            have HOT := Lib.hid hot
            have hot2 := of_decide_eq_true hot
            clear hot
            by_cases hto : xt = N
            · have HQF : Hid (Ending.returned (.bool false) = Ending.returned (.bool Q)) := Lib.hid (by
                rw [HST.out]; unfold okG; rw [HOW.out.1, hto, decide_eq_false (show ¬ N ≠ N from fun h => h rfl)]; simp)
              obtain ⟨⟨k0, k1, k2, k3, k4, k5, k6, k7, k8⟩, c0, c1, hGM⟩ := H4.out.all
              have hte : (xt == N) = true := by rw [hto]; simp
              clear hto hot2
              go_wp2_with fail
              refine wp_region_held_drew (S := (fun w' => (w'.cell? ⟨w.heap.size, 0, none⟩ = some (.int .i64 c.fr) ∧ w'.cell? ⟨w.heap.size, 1, none⟩ = some (.slice A n cap) ∧ w'.cell? ⟨w.heap.size, 2, none⟩ = some vd ∧ w'.cell? ⟨w.heap.size, 3, none⟩ = some (.int .i64 c.mj) ∧ w'.cell? ⟨w.heap.size, 4, none⟩ = some vw ∧ w'.cell? ⟨w.heap.size, 5, none⟩ = some (.slice (some ⟨b, o, none⟩) m cap') ∧ w'.cell? ⟨w.heap.size, 6, none⟩ = some (.int .i64 c.se) ∧ w'.cell? ⟨w.heap.size, 7, none⟩ = some (.int .i64 c.qu) ∧ w'.cell? ⟨w.heap.size, 8, none⟩ = some (.int .i64 c.qt)) ∧ w'.cell? ⟨z, 0, none⟩ = some (.int .i64 xf) ∧ w'.cell? ⟨z, 1, none⟩ = some (.int .i64 xt) ∧ GmS w1 w4 c (.slice A n cap) vd vw (.slice (some ⟨b, o, none⟩) m cap') w.heap.size z g zg G xf xt xw w')) (by kernel_rfl) ?_ (fun hHeld => ?_)
              · try dsimp only
                (go_split_ands; refine GmS.all ?_; (first | assumption | (exact GmS.drew (by assumption)) | (exact GmS.next (by assumption) (by assumption))))
              refine wpAnyH_take (i := 0) (v := ?v0zD) rfl (by kernel_rfl) (by kernel_rfl) (by kernel_rfl) (fun _ _ _ h => h) (Or.inl ⟨by rfl, ?hy0zD⟩) (by assumption) ?rest0zD
              case hy0zD => intro w hSw; (try dsimp only at hSw); first | (go_simp; done) | (go_simp; with_reducible rfl)
              try simp only [Act.put, List.getElem_toArray, List.getElem_cons_succ, List.getElem_cons_zero, List.setIfInBounds_toArray, List.set_cons_zero, List.set_cons_succ]
              refine wpAnyH_take (i := 1) (v := ?v1zD) rfl (by kernel_rfl) (by kernel_rfl) (by kernel_rfl) (fun _ _ _ h => h) (Or.inl ⟨by rfl, ?hy1zD⟩) (by assumption) ?rest1zD
              case hy1zD => intro w hSw; (try dsimp only at hSw); first | (go_simp; done) | (go_simp; with_reducible rfl)
              try simp only [Act.put, List.getElem_toArray, List.getElem_cons_succ, List.getElem_cons_zero, List.setIfInBounds_toArray, List.set_cons_zero, List.set_cons_succ]
              refine wpAnyH_take (i := 2) (v := ?v2zD) rfl (by kernel_rfl) (by kernel_rfl) (by kernel_rfl) (fun _ _ _ h => h) (Or.inl ⟨by rfl, ?hy2zD⟩) (by assumption) ?rest2zD
              case hy2zD => intro w hSw; (try dsimp only at hSw); first | (go_simp; done) | (go_simp; with_reducible rfl)
              try simp only [Act.put, List.getElem_toArray, List.getElem_cons_succ, List.getElem_cons_zero, List.setIfInBounds_toArray, List.set_cons_zero, List.set_cons_succ]
              refine wpAnyH_take (i := 3) (v := ?v3zD) rfl (by kernel_rfl) (by kernel_rfl) (by kernel_rfl) (fun _ _ _ h => h) (Or.inl ⟨by rfl, ?hy3zD⟩) (by assumption) ?rest3zD
              case hy3zD => intro w hSw; (try dsimp only at hSw); first | (go_simp; done) | (go_simp; with_reducible rfl)
              try simp only [Act.put, List.getElem_toArray, List.getElem_cons_succ, List.getElem_cons_zero, List.setIfInBounds_toArray, List.set_cons_zero, List.set_cons_succ]
              refine wpAnyH_take (i := 4) (v := ?v4zD) rfl (by kernel_rfl) (by kernel_rfl) (by kernel_rfl) (fun _ _ _ h => h) (Or.inl ⟨by rfl, ?hy4zD⟩) (by assumption) ?rest4zD
              case hy4zD => intro w hSw; (try dsimp only at hSw); first | (go_simp; done) | (go_simp; with_reducible rfl)
              try simp only [Act.put, List.getElem_toArray, List.getElem_cons_succ, List.getElem_cons_zero, List.setIfInBounds_toArray, List.set_cons_zero, List.set_cons_succ]
              refine wpAnyH_ready (rs := [5]) (by kernel_rfl) (by simp) ?_
              refine AllReadyH.cons rfl (fun K hK => ?_) AllReadyH.nil
              go_simp
              refine (HPO.out _).mono ?_
              rintro e w5 ⟨rfl, hb5⟩
              go_wp2_with fail
              refine hK.out _ _ ?_ (fun hHeld2 => ?_)
              · try dsimp only
                (go_split_ands; refine GmS.all ?_; (first | assumption | (exact GmS.drew (by assumption)) | (exact GmS.next (by assumption) (by assumption))))
              clear hK K hHeld
              have hHeld := hHeld2; clear hHeld2
              try simp only [Act.put, List.getElem_toArray, List.getElem_cons_succ, List.getElem_cons_zero, List.setIfInBounds_toArray, List.set_cons_zero, List.set_cons_succ]
              refine wpAnyH_take (i := 6) (v := ?v6zD) rfl (by kernel_rfl) (by kernel_rfl) (by kernel_rfl) (fun _ _ _ h => h) (Or.inl ⟨by rfl, ?hy6zD⟩) (by assumption) ?rest6zD
              case hy6zD => intro w hSw; (try dsimp only at hSw); first | (go_simp; done) | (go_simp; with_reducible rfl)
              try simp only [Act.put, List.getElem_toArray, List.getElem_cons_succ, List.getElem_cons_zero, List.setIfInBounds_toArray, List.set_cons_zero, List.set_cons_succ]
              refine wpAnyH_take (i := 7) (v := ?v7zD) rfl (by kernel_rfl) (by kernel_rfl) (by kernel_rfl) (fun _ _ _ h => h) (Or.inl ⟨by rfl, ?hy7zD⟩) (by assumption) ?rest7zD
              case hy7zD => intro w hSw; (try dsimp only at hSw); first | (go_simp; done) | (go_simp; with_reducible rfl)
              try simp only [Act.put, List.getElem_toArray, List.getElem_cons_succ, List.getElem_cons_zero, List.setIfInBounds_toArray, List.set_cons_zero, List.set_cons_succ]
              refine wpAnyH_take (i := 8) (v := ?v8zD) rfl (by kernel_rfl) (by kernel_rfl) (by kernel_rfl) (fun _ _ _ h => h) (Or.inl ⟨by rfl, ?hy8zD⟩) (by assumption) ?rest8zD
              case hy8zD => intro w hSw; (try dsimp only at hSw); first | (go_simp; done) | (go_simp; with_reducible rfl)
              try simp only [Act.put, List.getElem_toArray, List.getElem_cons_succ, List.getElem_cons_zero, List.setIfInBounds_toArray, List.set_cons_zero, List.set_cons_succ]
              refine wpAnyH_take (i := 9) (v := ?v9zD) rfl (by kernel_rfl) (by kernel_rfl) (by kernel_rfl) (fun _ _ _ h => h) (Or.inl ⟨by rfl, ?hy9zD⟩) (by assumption) ?rest9zD
              case hy9zD => intro w hSw; (try dsimp only at hSw); first | (go_simp; done) | (go_simp; with_reducible rfl)
              try simp only [Act.put, List.getElem_toArray, List.getElem_cons_succ, List.getElem_cons_zero, List.setIfInBounds_toArray, List.set_cons_zero, List.set_cons_succ]
              refine wpAnyH_take (i := 10) (v := ?v10zD) rfl (by kernel_rfl) (by kernel_rfl) (by kernel_rfl) (fun _ _ _ h => h) (Or.inl ⟨by rfl, ?hy10zD⟩) (by assumption) ?rest10zD
              case hy10zD => intro w hSw; (try dsimp only at hSw); first | (go_simp; done) | (go_simp; with_reducible rfl)
              try simp only [Act.put, List.getElem_toArray, List.getElem_cons_succ, List.getElem_cons_zero, List.setIfInBounds_toArray, List.set_cons_zero, List.set_cons_succ]
              refine wpAnyH_take (i := 11) (v := ?v11zD) rfl (by kernel_rfl) (by kernel_rfl) (by kernel_rfl) (fun _ _ _ h => h) (Or.inl ⟨by rfl, ?hy11zD⟩) (by assumption) ?rest11zD
              case hy11zD => intro w hSw; (try dsimp only at hSw); first | (go_simp; done) | (go_simp; with_reducible rfl)
              try simp only [Act.put, List.getElem_toArray, List.getElem_cons_succ, List.getElem_cons_zero, List.setIfInBounds_toArray, List.set_cons_zero, List.set_cons_succ]
              refine wpAnyH_ready (rs := [12]) (by kernel_rfl) (by simp) ?_
              refine AllReadyH.cons rfl (fun K hK => ?_) AllReadyH.nil
              go_simp
              refine (HPT.out _).mono ?_
              rintro e w6 ⟨rfl, hb6⟩
              go_wp2_with fail
              refine hK.out _ _ ?_ (fun hHeld2 => ?_)
              · try dsimp only
                (go_split_ands; refine GmS.all ?_; (first | assumption | (exact GmS.drew (by assumption)) | (exact GmS.next (by assumption) (by assumption))))
              clear hK K hHeld
              have hHeld := hHeld2; clear hHeld2
              try simp only [Act.put, List.getElem_toArray, List.getElem_cons_succ, List.getElem_cons_zero, List.setIfInBounds_toArray, List.set_cons_zero, List.set_cons_succ]
              refine wpAnyH_take (i := 13) (v := ?v13zD) rfl (by kernel_rfl) (by kernel_rfl) (by kernel_rfl) (fun _ _ _ h => h) (Or.inl ⟨by rfl, ?hy13zD⟩) (by assumption) ?rest13zD
              case hy13zD => intro w hSw; (try dsimp only at hSw); first | (go_simp; done) | (go_simp; with_reducible rfl)
              try simp only [Act.put, List.getElem_toArray, List.getElem_cons_succ, List.getElem_cons_zero, List.setIfInBounds_toArray, List.set_cons_zero, List.set_cons_succ]
              refine wpAnyH_take (i := 14) (v := ?v14zD) rfl (by kernel_rfl) (by kernel_rfl) (by kernel_rfl) (fun _ _ _ h => h) (Or.inl ⟨by rfl, ?hy14zD⟩) (by assumption) ?rest14zD
              case hy14zD => intro w hSw; (try dsimp only at hSw); first | (go_simp; done) | (go_simp; with_reducible rfl)
              try simp only [Act.put, List.getElem_toArray, List.getElem_cons_succ, List.getElem_cons_zero, List.setIfInBounds_toArray, List.set_cons_zero, List.set_cons_succ]
              refine wpAnyH_take (i := 15) (v := ?v15zD) rfl (by kernel_rfl) (by kernel_rfl) (by kernel_rfl) (fun _ _ _ h => h) (Or.inl ⟨by rfl, ?hy15zD⟩) (by assumption) ?rest15zD
              case hy15zD => intro w hSw; (try dsimp only at hSw); first | (go_simp; done) | (go_simp; with_reducible rfl)
              try simp only [Act.put, List.getElem_toArray, List.getElem_cons_succ, List.getElem_cons_zero, List.setIfInBounds_toArray, List.set_cons_zero, List.set_cons_succ]
              refine wpAnyH_take (i := 16) (v := ?v16zD) rfl (by kernel_rfl) (by kernel_rfl) (by kernel_rfl) (fun _ _ _ h => h) (Or.inl ⟨by rfl, ?hy16zD⟩) (by assumption) ?rest16zD
              case hy16zD => intro w hSw; (try dsimp only at hSw); first | (go_simp; done) | (go_simp; with_reducible rfl)
              try simp only [Act.put, List.getElem_toArray, List.getElem_cons_succ, List.getElem_cons_zero, List.setIfInBounds_toArray, List.set_cons_zero, List.set_cons_succ]
              refine wpAnyH_take (i := 17) (v := ?v17zD) rfl (by kernel_rfl) (by kernel_rfl) (by kernel_rfl) (fun _ _ _ h => h) (Or.inl ⟨by rfl, ?hy17zD⟩) (by assumption) ?rest17zD
              case hy17zD => intro w hSw; (try dsimp only at hSw); first | (go_simp; done) | (go_simp; with_reducible rfl)
              try simp only [Act.put, List.getElem_toArray, List.getElem_cons_succ, List.getElem_cons_zero, List.setIfInBounds_toArray, List.set_cons_zero, List.set_cons_succ]
              refine wpAnyH_take (i := 18) (v := ?v18zD) rfl (by kernel_rfl) (by kernel_rfl) (by kernel_rfl) (fun _ _ _ h => h) (Or.inl ⟨by rfl, ?hy18zD⟩) (by assumption) ?rest18zD
              case hy18zD => intro w hSw; (try dsimp only at hSw); first | (go_simp; done) | (go_simp; with_reducible rfl)
              try simp only [Act.put, List.getElem_toArray, List.getElem_cons_succ, List.getElem_cons_zero, List.setIfInBounds_toArray, List.set_cons_zero, List.set_cons_succ]
              refine wpAnyH_take (i := 19) (v := ?v19zD) rfl (by kernel_rfl) (by kernel_rfl) (by kernel_rfl) (fun _ _ _ h => h) (Or.inl ⟨by rfl, ?hy19zD⟩) (by assumption) ?rest19zD
              case hy19zD => intro w hSw; (try dsimp only at hSw); first | (go_simp; done) | (go_simp; with_reducible rfl)
              try simp only [Act.put, List.getElem_toArray, List.getElem_cons_succ, List.getElem_cons_zero, List.setIfInBounds_toArray, List.set_cons_zero, List.set_cons_succ]
              refine wpAnyH_take (i := 20) (v := ?v20zD) rfl (by kernel_rfl) (by kernel_rfl) (by kernel_rfl) (fun _ _ _ h => h) (Or.inl ⟨by rfl, ?hy20zD⟩) (by assumption) ?rest20zD
              case hy20zD => intro w hSw; (try dsimp only at hSw); first | (go_simp; done) | (go_simp; with_reducible rfl)
              try simp only [Act.put, List.getElem_toArray, List.getElem_cons_succ, List.getElem_cons_zero, List.setIfInBounds_toArray, List.set_cons_zero, List.set_cons_succ]
              refine wpAnyH_take (i := 21) (v := ?v21zD) rfl (by kernel_rfl) (by kernel_rfl) (by kernel_rfl) (fun _ _ _ h => h) (Or.inl ⟨by rfl, ?hy21zD⟩) (by assumption) ?rest21zD
              case hy21zD => intro w hSw; (try dsimp only at hSw); first | (go_simp; done) | (go_simp; with_reducible rfl)
              try simp only [Act.put, List.getElem_toArray, List.getElem_cons_succ, List.getElem_cons_zero, List.setIfInBounds_toArray, List.set_cons_zero, List.set_cons_succ]
              refine wpAnyH_take (i := 22) (v := undef) rfl (by kernel_rfl) (by kernel_rfl) (by kernel_rfl) (fun _ _ _ h => h) (Or.inr ⟨by rfl, rfl⟩) (by assumption) ?rest22zD
              try simp only [Act.put, List.getElem_toArray, List.getElem_cons_succ, List.getElem_cons_zero, List.setIfInBounds_toArray, List.set_cons_zero, List.set_cons_succ]
              refine wpAnyH_take (i := 23) (v := undef) rfl (by kernel_rfl) (by kernel_rfl) (by kernel_rfl) (fun _ _ _ h => h) (Or.inr ⟨by rfl, rfl⟩) (by assumption) ?rest23zD
              try simp only [Act.put, List.getElem_toArray, List.getElem_cons_succ, List.getElem_cons_zero, List.setIfInBounds_toArray, List.set_cons_zero, List.set_cons_succ]
              refine wpAnyH_take (i := 24) (v := undef) rfl (by kernel_rfl) (by kernel_rfl) (by kernel_rfl) (fun _ _ _ h => h) (Or.inr ⟨by rfl, rfl⟩) (by assumption) ?rest24zD
              try simp only [Act.put, List.getElem_toArray, List.getElem_cons_succ, List.getElem_cons_zero, List.setIfInBounds_toArray, List.set_cons_zero, List.set_cons_succ]
              refine wpAnyH_take (i := 25) (v := undef) rfl (by kernel_rfl) (by kernel_rfl) (by kernel_rfl) (fun _ _ _ h => h) (Or.inr ⟨by rfl, rfl⟩) (by assumption) ?rest25zD
              try simp only [Act.put, List.getElem_toArray, List.getElem_cons_succ, List.getElem_cons_zero, List.setIfInBounds_toArray, List.set_cons_zero, List.set_cons_succ]
              refine wpAnyH_take (i := 26) (v := undef) rfl (by kernel_rfl) (by kernel_rfl) (by kernel_rfl) (fun _ _ _ h => h) (Or.inr ⟨by rfl, rfl⟩) (by assumption) ?rest26zD
              try simp only [Act.put, List.getElem_toArray, List.getElem_cons_succ, List.getElem_cons_zero, List.setIfInBounds_toArray, List.set_cons_zero, List.set_cons_succ]
              refine wpAnyH_take (i := 27) (v := undef) rfl (by kernel_rfl) (by kernel_rfl) (by kernel_rfl) (fun _ _ _ h => h) (Or.inr ⟨by rfl, rfl⟩) (by assumption) ?rest27zD
              try simp only [Act.put, List.getElem_toArray, List.getElem_cons_succ, List.getElem_cons_zero, List.setIfInBounds_toArray, List.set_cons_zero, List.set_cons_succ]
              refine wpAnyH_take (i := 28) (v := undef) rfl (by kernel_rfl) (by kernel_rfl) (by kernel_rfl) (fun _ _ _ h => h) (Or.inr ⟨by rfl, rfl⟩) (by assumption) ?rest28zD
              try simp only [Act.put, List.getElem_toArray, List.getElem_cons_succ, List.getElem_cons_zero, List.setIfInBounds_toArray, List.set_cons_zero, List.set_cons_succ]
              refine wpAnyH_take (i := 29) (v := ?v29zD) rfl (by kernel_rfl) (by kernel_rfl) (by kernel_rfl) (fun _ _ _ h => h) (Or.inl ⟨by rfl, ?hy29zD⟩) (by assumption) ?rest29zD
              case hy29zD => intro w hSw; (try dsimp only at hSw); first | (go_simp; done) | (go_simp; with_reducible rfl)
              try simp only [Act.put, List.getElem_toArray, List.getElem_cons_succ, List.getElem_cons_zero, List.setIfInBounds_toArray, List.set_cons_zero, List.set_cons_succ]
              refine wpAnyH_done (by kernel_rfl) ?_ _
              all_goals
                have HS9 := Lib.hid hHeld.2.2.2
                clear hHeld
                go_wp2_with fail
                go_ret
                exact ⟨HQF.out, Below.down HB.out HS9.out.below (by omega)⟩
            · have hte : (xt == N) = false := by simpa using hto
              obtain ⟨f, rfl⟩ := Int.eq_ofNat_of_zero_le e3
              obtain ⟨t, rfl⟩ := Int.eq_ofNat_of_zero_le hot2.1
              have hf64 : f < 64 := by have := HF.out; omega
              have ht4 : t < 4 := by have := hot2.2; omega
              have hbit := HGB.out f t hf64 ht4
              have hcell := HG4.out.cell (f * 4 + t)
              rw [bitc_get _ _ _ (by omega), hbit] at hcell
              have hok : okG c ⟨f, t, xw⟩ = true := by
                unfold okG
                rw [HPN.out, HOT.out, HOW.out.1, decide_eq_true HOW.out.2, decide_eq_true hto]; rfl
              have hsg : (c.gs.take k).any (sgB ⟨f, t, xw⟩) = (c.gs.take k).any (fun h => decide (h.f = (f : Int) ∧ h.t = (t : Int))) := rfl
              have hst9 := HST.out
              rw [hok, hsg, Bool.true_and] at hst9
              have hbl : Hid ((bitc G 256)[f * 4 + t]? = some (.bool ((c.gs.take k).any (fun h => decide (h.f = (f : Int) ∧ h.t = (t : Int)))))) := Lib.hid (by rw [bitc_get _ _ _ (by omega), hbit])
              generalize hBT : (c.gs.take k).any (fun h => decide (h.f = (f : Int) ∧ h.t = (t : Int))) = BT at *
              have HST9 := Lib.hid hst9
              obtain ⟨⟨k0, k1, k2, k3, k4, k5, k6, k7, k8⟩, c0, c1, c9, hGM⟩ := H4.out.all2 hbl.out
              have hfi : (f : Int) < 64 := by omega
              have hti : (t : Int) < 4 := by omega
              clear hst9 hsg hok hcell hbit hBT hto hot2 e3 e4 hxl
              cases BT with
              | true =>
                have HQF : Hid (Ending.returned (.bool false) = Ending.returned (.bool Q)) := Lib.hid (by rw [HST9.out]; rfl)
                go_wp2_with fail
                refine wp_region_held_drew (S := (fun w' => (w'.cell? ⟨w.heap.size, 0, none⟩ = some (.int .i64 c.fr) ∧ w'.cell? ⟨w.heap.size, 1, none⟩ = some (.slice A n cap) ∧ w'.cell? ⟨w.heap.size, 2, none⟩ = some vd ∧ w'.cell? ⟨w.heap.size, 3, none⟩ = some (.int .i64 c.mj) ∧ w'.cell? ⟨w.heap.size, 4, none⟩ = some vw ∧ w'.cell? ⟨w.heap.size, 5, none⟩ = some (.slice (some ⟨b, o, none⟩) m cap') ∧ w'.cell? ⟨w.heap.size, 6, none⟩ = some (.int .i64 c.se) ∧ w'.cell? ⟨w.heap.size, 7, none⟩ = some (.int .i64 c.qu) ∧ w'.cell? ⟨w.heap.size, 8, none⟩ = some (.int .i64 c.qt)) ∧ w'.cell? ⟨z, 0, none⟩ = some (.int .i64 (f : Int)) ∧ w'.cell? ⟨z, 1, none⟩ = some (.int .i64 (t : Int)) ∧ w'.cell? ⟨zg, f * 4 + t, none⟩ = some (.bool true) ∧ GmS w1 w4 c (.slice A n cap) vd vw (.slice (some ⟨b, o, none⟩) m cap') w.heap.size z g zg G f t xw w')) (by kernel_rfl) ?_ (fun hHeld => ?_)
                · try dsimp only
                  (go_split_ands; refine GmS.all2 hbl.out ?_; (first | assumption | (exact GmS.drew (by assumption)) | (exact GmS.next (by assumption) (by assumption))))
                refine wpAnyH_take (i := 0) (v := ?v0zE) rfl (by kernel_rfl) (by kernel_rfl) (by kernel_rfl) (fun _ _ _ h => h) (Or.inl ⟨by rfl, ?hy0zE⟩) (by assumption) ?rest0zE
                case hy0zE => intro w hSw; (try dsimp only at hSw); first | (go_simp; done) | (go_simp; with_reducible rfl)
                try simp only [Act.put, List.getElem_toArray, List.getElem_cons_succ, List.getElem_cons_zero, List.setIfInBounds_toArray, List.set_cons_zero, List.set_cons_succ]
                refine wpAnyH_take (i := 1) (v := ?v1zE) rfl (by kernel_rfl) (by kernel_rfl) (by kernel_rfl) (fun _ _ _ h => h) (Or.inl ⟨by rfl, ?hy1zE⟩) (by assumption) ?rest1zE
                case hy1zE => intro w hSw; (try dsimp only at hSw); first | (go_simp; done) | (go_simp; with_reducible rfl)
                try simp only [Act.put, List.getElem_toArray, List.getElem_cons_succ, List.getElem_cons_zero, List.setIfInBounds_toArray, List.set_cons_zero, List.set_cons_succ]
                refine wpAnyH_take (i := 2) (v := ?v2zE) rfl (by kernel_rfl) (by kernel_rfl) (by kernel_rfl) (fun _ _ _ h => h) (Or.inl ⟨by rfl, ?hy2zE⟩) (by assumption) ?rest2zE
                case hy2zE => intro w hSw; (try dsimp only at hSw); first | (go_simp; done) | (go_simp; with_reducible rfl)
                try simp only [Act.put, List.getElem_toArray, List.getElem_cons_succ, List.getElem_cons_zero, List.setIfInBounds_toArray, List.set_cons_zero, List.set_cons_succ]
                refine wpAnyH_take (i := 3) (v := ?v3zE) rfl (by kernel_rfl) (by kernel_rfl) (by kernel_rfl) (fun _ _ _ h => h) (Or.inl ⟨by rfl, ?hy3zE⟩) (by assumption) ?rest3zE
                case hy3zE => intro w hSw; (try dsimp only at hSw); first | (go_simp; done) | (go_simp; with_reducible rfl)
                try simp only [Act.put, List.getElem_toArray, List.getElem_cons_succ, List.getElem_cons_zero, List.setIfInBounds_toArray, List.set_cons_zero, List.set_cons_succ]
                refine wpAnyH_take (i := 4) (v := ?v4zE) rfl (by kernel_rfl) (by kernel_rfl) (by kernel_rfl) (fun _ _ _ h => h) (Or.inl ⟨by rfl, ?hy4zE⟩) (by assumption) ?rest4zE
                case hy4zE => intro w hSw; (try dsimp only at hSw); first | (go_simp; done) | (go_simp; with_reducible rfl)
                try simp only [Act.put, List.getElem_toArray, List.getElem_cons_succ, List.getElem_cons_zero, List.setIfInBounds_toArray, List.set_cons_zero, List.set_cons_succ]
                refine wpAnyH_ready (rs := [5]) (by kernel_rfl) (by simp) ?_
                refine AllReadyH.cons rfl (fun K hK => ?_) AllReadyH.nil
                go_simp
                refine (HPO.out _).mono ?_
                rintro e w5 ⟨rfl, hb5⟩
                go_wp2_with fail
                refine hK.out _ _ ?_ (fun hHeld2 => ?_)
                · try dsimp only
                  (go_split_ands; refine GmS.all2 hbl.out ?_; (first | assumption | (exact GmS.drew (by assumption)) | (exact GmS.next (by assumption) (by assumption))))
                clear hK K hHeld
                have hHeld := hHeld2; clear hHeld2
                try simp only [Act.put, List.getElem_toArray, List.getElem_cons_succ, List.getElem_cons_zero, List.setIfInBounds_toArray, List.set_cons_zero, List.set_cons_succ]
                refine wpAnyH_take (i := 6) (v := ?v6zE) rfl (by kernel_rfl) (by kernel_rfl) (by kernel_rfl) (fun _ _ _ h => h) (Or.inl ⟨by rfl, ?hy6zE⟩) (by assumption) ?rest6zE
                case hy6zE => intro w hSw; (try dsimp only at hSw); first | (go_simp; done) | (go_simp; with_reducible rfl)
                try simp only [Act.put, List.getElem_toArray, List.getElem_cons_succ, List.getElem_cons_zero, List.setIfInBounds_toArray, List.set_cons_zero, List.set_cons_succ]
                refine wpAnyH_take (i := 7) (v := ?v7zE) rfl (by kernel_rfl) (by kernel_rfl) (by kernel_rfl) (fun _ _ _ h => h) (Or.inl ⟨by rfl, ?hy7zE⟩) (by assumption) ?rest7zE
                case hy7zE => intro w hSw; (try dsimp only at hSw); first | (go_simp; done) | (go_simp; with_reducible rfl)
                try simp only [Act.put, List.getElem_toArray, List.getElem_cons_succ, List.getElem_cons_zero, List.setIfInBounds_toArray, List.set_cons_zero, List.set_cons_succ]
                refine wpAnyH_take (i := 8) (v := ?v8zE) rfl (by kernel_rfl) (by kernel_rfl) (by kernel_rfl) (fun _ _ _ h => h) (Or.inl ⟨by rfl, ?hy8zE⟩) (by assumption) ?rest8zE
                case hy8zE => intro w hSw; (try dsimp only at hSw); first | (go_simp; done) | (go_simp; with_reducible rfl)
                try simp only [Act.put, List.getElem_toArray, List.getElem_cons_succ, List.getElem_cons_zero, List.setIfInBounds_toArray, List.set_cons_zero, List.set_cons_succ]
                refine wpAnyH_take (i := 9) (v := ?v9zE) rfl (by kernel_rfl) (by kernel_rfl) (by kernel_rfl) (fun _ _ _ h => h) (Or.inl ⟨by rfl, ?hy9zE⟩) (by assumption) ?rest9zE
                case hy9zE => intro w hSw; (try dsimp only at hSw); first | (go_simp; done) | (go_simp; with_reducible rfl)
                try simp only [Act.put, List.getElem_toArray, List.getElem_cons_succ, List.getElem_cons_zero, List.setIfInBounds_toArray, List.set_cons_zero, List.set_cons_succ]
                refine wpAnyH_take (i := 10) (v := ?v10zE) rfl (by kernel_rfl) (by kernel_rfl) (by kernel_rfl) (fun _ _ _ h => h) (Or.inl ⟨by rfl, ?hy10zE⟩) (by assumption) ?rest10zE
                case hy10zE => intro w hSw; (try dsimp only at hSw); first | (go_simp; done) | (go_simp; with_reducible rfl)
                try simp only [Act.put, List.getElem_toArray, List.getElem_cons_succ, List.getElem_cons_zero, List.setIfInBounds_toArray, List.set_cons_zero, List.set_cons_succ]
                refine wpAnyH_take (i := 11) (v := ?v11zE) rfl (by kernel_rfl) (by kernel_rfl) (by kernel_rfl) (fun _ _ _ h => h) (Or.inl ⟨by rfl, ?hy11zE⟩) (by assumption) ?rest11zE
                case hy11zE => intro w hSw; (try dsimp only at hSw); first | (go_simp; done) | (go_simp; with_reducible rfl)
                try simp only [Act.put, List.getElem_toArray, List.getElem_cons_succ, List.getElem_cons_zero, List.setIfInBounds_toArray, List.set_cons_zero, List.set_cons_succ]
                refine wpAnyH_ready (rs := [12]) (by kernel_rfl) (by simp) ?_
                refine AllReadyH.cons rfl (fun K hK => ?_) AllReadyH.nil
                go_simp
                refine (HPT.out _).mono ?_
                rintro e w6 ⟨rfl, hb6⟩
                go_wp2_with fail
                refine hK.out _ _ ?_ (fun hHeld2 => ?_)
                · try dsimp only
                  (go_split_ands; refine GmS.all2 hbl.out ?_; (first | assumption | (exact GmS.drew (by assumption)) | (exact GmS.next (by assumption) (by assumption))))
                clear hK K hHeld
                have hHeld := hHeld2; clear hHeld2
                try simp only [Act.put, List.getElem_toArray, List.getElem_cons_succ, List.getElem_cons_zero, List.setIfInBounds_toArray, List.set_cons_zero, List.set_cons_succ]
                refine wpAnyH_take (i := 13) (v := ?v13zE) rfl (by kernel_rfl) (by kernel_rfl) (by kernel_rfl) (fun _ _ _ h => h) (Or.inl ⟨by rfl, ?hy13zE⟩) (by assumption) ?rest13zE
                case hy13zE => intro w hSw; (try dsimp only at hSw); first | (go_simp; done) | (go_simp; with_reducible rfl)
                try simp only [Act.put, List.getElem_toArray, List.getElem_cons_succ, List.getElem_cons_zero, List.setIfInBounds_toArray, List.set_cons_zero, List.set_cons_succ]
                refine wpAnyH_take (i := 14) (v := ?v14zE) rfl (by kernel_rfl) (by kernel_rfl) (by kernel_rfl) (fun _ _ _ h => h) (Or.inl ⟨by rfl, ?hy14zE⟩) (by assumption) ?rest14zE
                case hy14zE => intro w hSw; (try dsimp only at hSw); first | (go_simp; done) | (go_simp; with_reducible rfl)
                try simp only [Act.put, List.getElem_toArray, List.getElem_cons_succ, List.getElem_cons_zero, List.setIfInBounds_toArray, List.set_cons_zero, List.set_cons_succ]
                refine wpAnyH_take (i := 15) (v := ?v15zE) rfl (by kernel_rfl) (by kernel_rfl) (by kernel_rfl) (fun _ _ _ h => h) (Or.inl ⟨by rfl, ?hy15zE⟩) (by assumption) ?rest15zE
                case hy15zE => intro w hSw; (try dsimp only at hSw); first | (go_simp; done) | (go_simp; with_reducible rfl)
                try simp only [Act.put, List.getElem_toArray, List.getElem_cons_succ, List.getElem_cons_zero, List.setIfInBounds_toArray, List.set_cons_zero, List.set_cons_succ]
                refine wpAnyH_take (i := 16) (v := ?v16zE) rfl (by kernel_rfl) (by kernel_rfl) (by kernel_rfl) (fun _ _ _ h => h) (Or.inl ⟨by rfl, ?hy16zE⟩) (by assumption) ?rest16zE
                case hy16zE => intro w hSw; (try dsimp only at hSw); first | (go_simp; done) | (go_simp; with_reducible rfl)
                try simp only [Act.put, List.getElem_toArray, List.getElem_cons_succ, List.getElem_cons_zero, List.setIfInBounds_toArray, List.set_cons_zero, List.set_cons_succ]
                refine wpAnyH_take (i := 17) (v := ?v17zE) rfl (by kernel_rfl) (by kernel_rfl) (by kernel_rfl) (fun _ _ _ h => h) (Or.inl ⟨by rfl, ?hy17zE⟩) (by assumption) ?rest17zE
                case hy17zE => intro w hSw; (try dsimp only at hSw); first | (go_simp; done) | (go_simp; with_reducible rfl)
                try simp only [Act.put, List.getElem_toArray, List.getElem_cons_succ, List.getElem_cons_zero, List.setIfInBounds_toArray, List.set_cons_zero, List.set_cons_succ]
                refine wpAnyH_take (i := 18) (v := ?v18zE) rfl (by kernel_rfl) (by kernel_rfl) (by kernel_rfl) (fun _ _ _ h => h) (Or.inl ⟨by rfl, ?hy18zE⟩) (by assumption) ?rest18zE
                case hy18zE => intro w hSw; (try dsimp only at hSw); first | (go_simp; done) | (go_simp; with_reducible rfl)
                try simp only [Act.put, List.getElem_toArray, List.getElem_cons_succ, List.getElem_cons_zero, List.setIfInBounds_toArray, List.set_cons_zero, List.set_cons_succ]
                refine wpAnyH_take (i := 19) (v := ?v19zE) rfl (by kernel_rfl) (by kernel_rfl) (by kernel_rfl) (fun _ _ _ h => h) (Or.inl ⟨by rfl, ?hy19zE⟩) (by assumption) ?rest19zE
                case hy19zE => intro w hSw; (try dsimp only at hSw); first | (go_simp; done) | (go_simp; with_reducible rfl)
                try simp only [Act.put, List.getElem_toArray, List.getElem_cons_succ, List.getElem_cons_zero, List.setIfInBounds_toArray, List.set_cons_zero, List.set_cons_succ]
                refine wpAnyH_take (i := 20) (v := ?v20zE) rfl (by kernel_rfl) (by kernel_rfl) (by kernel_rfl) (fun _ _ _ h => h) (Or.inl ⟨by rfl, ?hy20zE⟩) (by assumption) ?rest20zE
                case hy20zE => intro w hSw; (try dsimp only at hSw); first | (go_simp; done) | (go_simp; with_reducible rfl)
                try simp only [Act.put, List.getElem_toArray, List.getElem_cons_succ, List.getElem_cons_zero, List.setIfInBounds_toArray, List.set_cons_zero, List.set_cons_succ]
                refine wpAnyH_take (i := 21) (v := ?v21zE) rfl (by kernel_rfl) (by kernel_rfl) (by kernel_rfl) (fun _ _ _ h => h) (Or.inl ⟨by rfl, ?hy21zE⟩) (by assumption) ?rest21zE
                case hy21zE => intro w hSw; (try dsimp only at hSw); first | (go_simp; done) | (go_simp; with_reducible rfl)
                try simp only [Act.put, List.getElem_toArray, List.getElem_cons_succ, List.getElem_cons_zero, List.setIfInBounds_toArray, List.set_cons_zero, List.set_cons_succ]
                refine wpAnyH_take (i := 22) (v := ?v22zE) rfl (by kernel_rfl) (by kernel_rfl) (by kernel_rfl) (fun _ _ _ h => h) (Or.inl ⟨by rfl, ?hy22zE⟩) (by assumption) ?rest22zE
                case hy22zE => intro w hSw; (try dsimp only at hSw); first | (go_simp; done) | (go_simp; with_reducible rfl)
                try simp only [Act.put, List.getElem_toArray, List.getElem_cons_succ, List.getElem_cons_zero, List.setIfInBounds_toArray, List.set_cons_zero, List.set_cons_succ]
                refine wpAnyH_take (i := 23) (v := ?v23zE) rfl (by kernel_rfl) (by kernel_rfl) (by kernel_rfl) (fun _ _ _ h => h) (Or.inl ⟨by rfl, ?hy23zE⟩) (by assumption) ?rest23zE
                case hy23zE => intro w hSw; (try dsimp only at hSw); first | (go_simp; done) | (go_simp; with_reducible rfl)
                try simp only [Act.put, List.getElem_toArray, List.getElem_cons_succ, List.getElem_cons_zero, List.setIfInBounds_toArray, List.set_cons_zero, List.set_cons_succ]
                refine wpAnyH_take (i := 24) (v := ?v24zE) rfl (by kernel_rfl) (by kernel_rfl) (by kernel_rfl) (fun _ _ _ h => h) (Or.inl ⟨by rfl, ?hy24zE⟩) (by assumption) ?rest24zE
                case hy24zE => intro w hSw; (try dsimp only at hSw); first | (go_simp; done) | (go_simp; with_reducible rfl)
                try simp only [Act.put, List.getElem_toArray, List.getElem_cons_succ, List.getElem_cons_zero, List.setIfInBounds_toArray, List.set_cons_zero, List.set_cons_succ]
                refine wpAnyH_take (i := 25) (v := ?v25zE) rfl (by kernel_rfl) (by kernel_rfl) (by kernel_rfl) (fun _ _ _ h => h) (Or.inl ⟨by rfl, ?hy25zE⟩) (by assumption) ?rest25zE
                case hy25zE => intro w hSw; (try dsimp only at hSw); first | (go_simp; done) | (go_simp; with_reducible rfl)
                try simp only [Act.put, List.getElem_toArray, List.getElem_cons_succ, List.getElem_cons_zero, List.setIfInBounds_toArray, List.set_cons_zero, List.set_cons_succ]
                refine wpAnyH_take (i := 26) (v := ?v26zE) rfl (by kernel_rfl) (by kernel_rfl) (by kernel_rfl) (fun _ _ _ h => h) (Or.inl ⟨by rfl, ?hy26zE⟩) (by assumption) ?rest26zE
                case hy26zE => intro w hSw; (try dsimp only at hSw); first | (go_simp; done) | (go_simp; with_reducible rfl)
                try simp only [Act.put, List.getElem_toArray, List.getElem_cons_succ, List.getElem_cons_zero, List.setIfInBounds_toArray, List.set_cons_zero, List.set_cons_succ]
                refine wpAnyH_take (i := 27) (v := ?v27zE) rfl (by kernel_rfl) (by kernel_rfl) (by kernel_rfl) (fun _ _ _ h => h) (Or.inl ⟨by rfl, ?hy27zE⟩) (by assumption) ?rest27zE
                case hy27zE => intro w hSw; (try dsimp only at hSw); first | (go_simp; done) | (go_simp; with_reducible rfl)
                try simp only [Act.put, List.getElem_toArray, List.getElem_cons_succ, List.getElem_cons_zero, List.setIfInBounds_toArray, List.set_cons_zero, List.set_cons_succ]
                refine wpAnyH_take (i := 28) (v := ?v28zE) rfl (by kernel_rfl) (by kernel_rfl) (by kernel_rfl) (fun _ _ _ h => h) (Or.inl ⟨by rfl, ?hy28zE⟩) (by assumption) ?rest28zE
                case hy28zE => intro w hSw; (try dsimp only at hSw); first | (go_simp; done) | (go_simp; with_reducible rfl)
                try simp only [Act.put, List.getElem_toArray, List.getElem_cons_succ, List.getElem_cons_zero, List.setIfInBounds_toArray, List.set_cons_zero, List.set_cons_succ]
                refine wpAnyH_take (i := 29) (v := ?v29zE) rfl (by kernel_rfl) (by kernel_rfl) (by kernel_rfl) (fun _ _ _ h => h) (Or.inl ⟨by rfl, ?hy29zE⟩) (by assumption) ?rest29zE
                case hy29zE => intro w hSw; (try dsimp only at hSw); first | (go_simp; done) | (go_simp; with_reducible rfl)
                try simp only [Act.put, List.getElem_toArray, List.getElem_cons_succ, List.getElem_cons_zero, List.setIfInBounds_toArray, List.set_cons_zero, List.set_cons_succ]
                refine wpAnyH_done (by kernel_rfl) ?_ _
                all_goals
                  have HS9 := Lib.hid hHeld.2.2.2.2
                  clear hHeld
                  go_wp2_with fail
                  go_ret
                  exact ⟨HQF.out, Below.down HB.out HS9.out.below (by omega)⟩
              | false =>
                go_wp2_with fail
                refine wp_region_held_drew (S := (fun w' => (w'.cell? ⟨w.heap.size, 0, none⟩ = some (.int .i64 c.fr) ∧ w'.cell? ⟨w.heap.size, 1, none⟩ = some (.slice A n cap) ∧ w'.cell? ⟨w.heap.size, 2, none⟩ = some vd ∧ w'.cell? ⟨w.heap.size, 3, none⟩ = some (.int .i64 c.mj) ∧ w'.cell? ⟨w.heap.size, 4, none⟩ = some vw ∧ w'.cell? ⟨w.heap.size, 5, none⟩ = some (.slice (some ⟨b, o, none⟩) m cap') ∧ w'.cell? ⟨w.heap.size, 6, none⟩ = some (.int .i64 c.se) ∧ w'.cell? ⟨w.heap.size, 7, none⟩ = some (.int .i64 c.qu) ∧ w'.cell? ⟨w.heap.size, 8, none⟩ = some (.int .i64 c.qt)) ∧ w'.cell? ⟨z, 0, none⟩ = some (.int .i64 (f : Int)) ∧ w'.cell? ⟨z, 1, none⟩ = some (.int .i64 (t : Int)) ∧ w'.cell? ⟨zg, f * 4 + t, none⟩ = some (.bool false) ∧ GmS w1 w4 c (.slice A n cap) vd vw (.slice (some ⟨b, o, none⟩) m cap') w.heap.size z g zg G f t xw w')) (by kernel_rfl) ?_ (fun hHeld => ?_)
                · try dsimp only
                  (go_split_ands; refine GmS.all2 hbl.out ?_; (first | assumption | (exact GmS.drew (by assumption)) | (exact GmS.next (by assumption) (by assumption))))
                refine wpAnyH_take (i := 0) (v := ?v0zF) rfl (by kernel_rfl) (by kernel_rfl) (by kernel_rfl) (fun _ _ _ h => h) (Or.inl ⟨by rfl, ?hy0zF⟩) (by assumption) ?rest0zF
                case hy0zF => intro w hSw; (try dsimp only at hSw); first | (go_simp; done) | (go_simp; with_reducible rfl)
                try simp only [Act.put, List.getElem_toArray, List.getElem_cons_succ, List.getElem_cons_zero, List.setIfInBounds_toArray, List.set_cons_zero, List.set_cons_succ]
                refine wpAnyH_take (i := 1) (v := ?v1zF) rfl (by kernel_rfl) (by kernel_rfl) (by kernel_rfl) (fun _ _ _ h => h) (Or.inl ⟨by rfl, ?hy1zF⟩) (by assumption) ?rest1zF
                case hy1zF => intro w hSw; (try dsimp only at hSw); first | (go_simp; done) | (go_simp; with_reducible rfl)
                try simp only [Act.put, List.getElem_toArray, List.getElem_cons_succ, List.getElem_cons_zero, List.setIfInBounds_toArray, List.set_cons_zero, List.set_cons_succ]
                refine wpAnyH_take (i := 2) (v := ?v2zF) rfl (by kernel_rfl) (by kernel_rfl) (by kernel_rfl) (fun _ _ _ h => h) (Or.inl ⟨by rfl, ?hy2zF⟩) (by assumption) ?rest2zF
                case hy2zF => intro w hSw; (try dsimp only at hSw); first | (go_simp; done) | (go_simp; with_reducible rfl)
                try simp only [Act.put, List.getElem_toArray, List.getElem_cons_succ, List.getElem_cons_zero, List.setIfInBounds_toArray, List.set_cons_zero, List.set_cons_succ]
                refine wpAnyH_take (i := 3) (v := ?v3zF) rfl (by kernel_rfl) (by kernel_rfl) (by kernel_rfl) (fun _ _ _ h => h) (Or.inl ⟨by rfl, ?hy3zF⟩) (by assumption) ?rest3zF
                case hy3zF => intro w hSw; (try dsimp only at hSw); first | (go_simp; done) | (go_simp; with_reducible rfl)
                try simp only [Act.put, List.getElem_toArray, List.getElem_cons_succ, List.getElem_cons_zero, List.setIfInBounds_toArray, List.set_cons_zero, List.set_cons_succ]
                refine wpAnyH_take (i := 4) (v := ?v4zF) rfl (by kernel_rfl) (by kernel_rfl) (by kernel_rfl) (fun _ _ _ h => h) (Or.inl ⟨by rfl, ?hy4zF⟩) (by assumption) ?rest4zF
                case hy4zF => intro w hSw; (try dsimp only at hSw); first | (go_simp; done) | (go_simp; with_reducible rfl)
                try simp only [Act.put, List.getElem_toArray, List.getElem_cons_succ, List.getElem_cons_zero, List.setIfInBounds_toArray, List.set_cons_zero, List.set_cons_succ]
                refine wpAnyH_ready (rs := [5]) (by kernel_rfl) (by simp) ?_
                refine AllReadyH.cons rfl (fun K hK => ?_) AllReadyH.nil
                go_simp
                refine (HPO.out _).mono ?_
                rintro e w5 ⟨rfl, hb5⟩
                go_wp2_with fail
                refine hK.out _ _ ?_ (fun hHeld2 => ?_)
                · try dsimp only
                  (go_split_ands; refine GmS.all2 hbl.out ?_; (first | assumption | (exact GmS.drew (by assumption)) | (exact GmS.next (by assumption) (by assumption))))
                clear hK K hHeld
                have hHeld := hHeld2; clear hHeld2
                try simp only [Act.put, List.getElem_toArray, List.getElem_cons_succ, List.getElem_cons_zero, List.setIfInBounds_toArray, List.set_cons_zero, List.set_cons_succ]
                refine wpAnyH_take (i := 6) (v := ?v6zF) rfl (by kernel_rfl) (by kernel_rfl) (by kernel_rfl) (fun _ _ _ h => h) (Or.inl ⟨by rfl, ?hy6zF⟩) (by assumption) ?rest6zF
                case hy6zF => intro w hSw; (try dsimp only at hSw); first | (go_simp; done) | (go_simp; with_reducible rfl)
                try simp only [Act.put, List.getElem_toArray, List.getElem_cons_succ, List.getElem_cons_zero, List.setIfInBounds_toArray, List.set_cons_zero, List.set_cons_succ]
                refine wpAnyH_take (i := 7) (v := ?v7zF) rfl (by kernel_rfl) (by kernel_rfl) (by kernel_rfl) (fun _ _ _ h => h) (Or.inl ⟨by rfl, ?hy7zF⟩) (by assumption) ?rest7zF
                case hy7zF => intro w hSw; (try dsimp only at hSw); first | (go_simp; done) | (go_simp; with_reducible rfl)
                try simp only [Act.put, List.getElem_toArray, List.getElem_cons_succ, List.getElem_cons_zero, List.setIfInBounds_toArray, List.set_cons_zero, List.set_cons_succ]
                refine wpAnyH_take (i := 8) (v := ?v8zF) rfl (by kernel_rfl) (by kernel_rfl) (by kernel_rfl) (fun _ _ _ h => h) (Or.inl ⟨by rfl, ?hy8zF⟩) (by assumption) ?rest8zF
                case hy8zF => intro w hSw; (try dsimp only at hSw); first | (go_simp; done) | (go_simp; with_reducible rfl)
                try simp only [Act.put, List.getElem_toArray, List.getElem_cons_succ, List.getElem_cons_zero, List.setIfInBounds_toArray, List.set_cons_zero, List.set_cons_succ]
                refine wpAnyH_take (i := 9) (v := ?v9zF) rfl (by kernel_rfl) (by kernel_rfl) (by kernel_rfl) (fun _ _ _ h => h) (Or.inl ⟨by rfl, ?hy9zF⟩) (by assumption) ?rest9zF
                case hy9zF => intro w hSw; (try dsimp only at hSw); first | (go_simp; done) | (go_simp; with_reducible rfl)
                try simp only [Act.put, List.getElem_toArray, List.getElem_cons_succ, List.getElem_cons_zero, List.setIfInBounds_toArray, List.set_cons_zero, List.set_cons_succ]
                refine wpAnyH_take (i := 10) (v := ?v10zF) rfl (by kernel_rfl) (by kernel_rfl) (by kernel_rfl) (fun _ _ _ h => h) (Or.inl ⟨by rfl, ?hy10zF⟩) (by assumption) ?rest10zF
                case hy10zF => intro w hSw; (try dsimp only at hSw); first | (go_simp; done) | (go_simp; with_reducible rfl)
                try simp only [Act.put, List.getElem_toArray, List.getElem_cons_succ, List.getElem_cons_zero, List.setIfInBounds_toArray, List.set_cons_zero, List.set_cons_succ]
                refine wpAnyH_take (i := 11) (v := ?v11zF) rfl (by kernel_rfl) (by kernel_rfl) (by kernel_rfl) (fun _ _ _ h => h) (Or.inl ⟨by rfl, ?hy11zF⟩) (by assumption) ?rest11zF
                case hy11zF => intro w hSw; (try dsimp only at hSw); first | (go_simp; done) | (go_simp; with_reducible rfl)
                try simp only [Act.put, List.getElem_toArray, List.getElem_cons_succ, List.getElem_cons_zero, List.setIfInBounds_toArray, List.set_cons_zero, List.set_cons_succ]
                refine wpAnyH_ready (rs := [12]) (by kernel_rfl) (by simp) ?_
                refine AllReadyH.cons rfl (fun K hK => ?_) AllReadyH.nil
                go_simp
                refine (HPT.out _).mono ?_
                rintro e w6 ⟨rfl, hb6⟩
                go_wp2_with fail
                refine hK.out _ _ ?_ (fun hHeld2 => ?_)
                · try dsimp only
                  (go_split_ands; refine GmS.all2 hbl.out ?_; (first | assumption | (exact GmS.drew (by assumption)) | (exact GmS.next (by assumption) (by assumption))))
                clear hK K hHeld
                have hHeld := hHeld2; clear hHeld2
                try simp only [Act.put, List.getElem_toArray, List.getElem_cons_succ, List.getElem_cons_zero, List.setIfInBounds_toArray, List.set_cons_zero, List.set_cons_succ]
                refine wpAnyH_take (i := 13) (v := ?v13zF) rfl (by kernel_rfl) (by kernel_rfl) (by kernel_rfl) (fun _ _ _ h => h) (Or.inl ⟨by rfl, ?hy13zF⟩) (by assumption) ?rest13zF
                case hy13zF => intro w hSw; (try dsimp only at hSw); first | (go_simp; done) | (go_simp; with_reducible rfl)
                try simp only [Act.put, List.getElem_toArray, List.getElem_cons_succ, List.getElem_cons_zero, List.setIfInBounds_toArray, List.set_cons_zero, List.set_cons_succ]
                refine wpAnyH_take (i := 14) (v := ?v14zF) rfl (by kernel_rfl) (by kernel_rfl) (by kernel_rfl) (fun _ _ _ h => h) (Or.inl ⟨by rfl, ?hy14zF⟩) (by assumption) ?rest14zF
                case hy14zF => intro w hSw; (try dsimp only at hSw); first | (go_simp; done) | (go_simp; with_reducible rfl)
                try simp only [Act.put, List.getElem_toArray, List.getElem_cons_succ, List.getElem_cons_zero, List.setIfInBounds_toArray, List.set_cons_zero, List.set_cons_succ]
                refine wpAnyH_take (i := 15) (v := ?v15zF) rfl (by kernel_rfl) (by kernel_rfl) (by kernel_rfl) (fun _ _ _ h => h) (Or.inl ⟨by rfl, ?hy15zF⟩) (by assumption) ?rest15zF
                case hy15zF => intro w hSw; (try dsimp only at hSw); first | (go_simp; done) | (go_simp; with_reducible rfl)
                try simp only [Act.put, List.getElem_toArray, List.getElem_cons_succ, List.getElem_cons_zero, List.setIfInBounds_toArray, List.set_cons_zero, List.set_cons_succ]
                refine wpAnyH_take (i := 16) (v := ?v16zF) rfl (by kernel_rfl) (by kernel_rfl) (by kernel_rfl) (fun _ _ _ h => h) (Or.inl ⟨by rfl, ?hy16zF⟩) (by assumption) ?rest16zF
                case hy16zF => intro w hSw; (try dsimp only at hSw); first | (go_simp; done) | (go_simp; with_reducible rfl)
                try simp only [Act.put, List.getElem_toArray, List.getElem_cons_succ, List.getElem_cons_zero, List.setIfInBounds_toArray, List.set_cons_zero, List.set_cons_succ]
                refine wpAnyH_take (i := 17) (v := ?v17zF) rfl (by kernel_rfl) (by kernel_rfl) (by kernel_rfl) (fun _ _ _ h => h) (Or.inl ⟨by rfl, ?hy17zF⟩) (by assumption) ?rest17zF
                case hy17zF => intro w hSw; (try dsimp only at hSw); first | (go_simp; done) | (go_simp; with_reducible rfl)
                try simp only [Act.put, List.getElem_toArray, List.getElem_cons_succ, List.getElem_cons_zero, List.setIfInBounds_toArray, List.set_cons_zero, List.set_cons_succ]
                refine wpAnyH_take (i := 18) (v := ?v18zF) rfl (by kernel_rfl) (by kernel_rfl) (by kernel_rfl) (fun _ _ _ h => h) (Or.inl ⟨by rfl, ?hy18zF⟩) (by assumption) ?rest18zF
                case hy18zF => intro w hSw; (try dsimp only at hSw); first | (go_simp; done) | (go_simp; with_reducible rfl)
                try simp only [Act.put, List.getElem_toArray, List.getElem_cons_succ, List.getElem_cons_zero, List.setIfInBounds_toArray, List.set_cons_zero, List.set_cons_succ]
                refine wpAnyH_take (i := 19) (v := ?v19zF) rfl (by kernel_rfl) (by kernel_rfl) (by kernel_rfl) (fun _ _ _ h => h) (Or.inl ⟨by rfl, ?hy19zF⟩) (by assumption) ?rest19zF
                case hy19zF => intro w hSw; (try dsimp only at hSw); first | (go_simp; done) | (go_simp; with_reducible rfl)
                try simp only [Act.put, List.getElem_toArray, List.getElem_cons_succ, List.getElem_cons_zero, List.setIfInBounds_toArray, List.set_cons_zero, List.set_cons_succ]
                refine wpAnyH_take (i := 20) (v := ?v20zF) rfl (by kernel_rfl) (by kernel_rfl) (by kernel_rfl) (fun _ _ _ h => h) (Or.inl ⟨by rfl, ?hy20zF⟩) (by assumption) ?rest20zF
                case hy20zF => intro w hSw; (try dsimp only at hSw); first | (go_simp; done) | (go_simp; with_reducible rfl)
                try simp only [Act.put, List.getElem_toArray, List.getElem_cons_succ, List.getElem_cons_zero, List.setIfInBounds_toArray, List.set_cons_zero, List.set_cons_succ]
                refine wpAnyH_take (i := 21) (v := ?v21zF) rfl (by kernel_rfl) (by kernel_rfl) (by kernel_rfl) (fun _ _ _ h => h) (Or.inl ⟨by rfl, ?hy21zF⟩) (by assumption) ?rest21zF
                case hy21zF => intro w hSw; (try dsimp only at hSw); first | (go_simp; done) | (go_simp; with_reducible rfl)
                try simp only [Act.put, List.getElem_toArray, List.getElem_cons_succ, List.getElem_cons_zero, List.setIfInBounds_toArray, List.set_cons_zero, List.set_cons_succ]
                refine wpAnyH_take (i := 22) (v := ?v22zF) rfl (by kernel_rfl) (by kernel_rfl) (by kernel_rfl) (fun _ _ _ h => h) (Or.inl ⟨by rfl, ?hy22zF⟩) (by assumption) ?rest22zF
                case hy22zF => intro w hSw; (try dsimp only at hSw); first | (go_simp; done) | (go_simp; with_reducible rfl)
                try simp only [Act.put, List.getElem_toArray, List.getElem_cons_succ, List.getElem_cons_zero, List.setIfInBounds_toArray, List.set_cons_zero, List.set_cons_succ]
                refine wpAnyH_take (i := 23) (v := ?v23zF) rfl (by kernel_rfl) (by kernel_rfl) (by kernel_rfl) (fun _ _ _ h => h) (Or.inl ⟨by rfl, ?hy23zF⟩) (by assumption) ?rest23zF
                case hy23zF => intro w hSw; (try dsimp only at hSw); first | (go_simp; done) | (go_simp; with_reducible rfl)
                try simp only [Act.put, List.getElem_toArray, List.getElem_cons_succ, List.getElem_cons_zero, List.setIfInBounds_toArray, List.set_cons_zero, List.set_cons_succ]
                refine wpAnyH_take (i := 24) (v := ?v24zF) rfl (by kernel_rfl) (by kernel_rfl) (by kernel_rfl) (fun _ _ _ h => h) (Or.inl ⟨by rfl, ?hy24zF⟩) (by assumption) ?rest24zF
                case hy24zF => intro w hSw; (try dsimp only at hSw); first | (go_simp; done) | (go_simp; with_reducible rfl)
                try simp only [Act.put, List.getElem_toArray, List.getElem_cons_succ, List.getElem_cons_zero, List.setIfInBounds_toArray, List.set_cons_zero, List.set_cons_succ]
                refine wpAnyH_take (i := 25) (v := ?v25zF) rfl (by kernel_rfl) (by kernel_rfl) (by kernel_rfl) (fun _ _ _ h => h) (Or.inl ⟨by rfl, ?hy25zF⟩) (by assumption) ?rest25zF
                case hy25zF => intro w hSw; (try dsimp only at hSw); first | (go_simp; done) | (go_simp; with_reducible rfl)
                try simp only [Act.put, List.getElem_toArray, List.getElem_cons_succ, List.getElem_cons_zero, List.setIfInBounds_toArray, List.set_cons_zero, List.set_cons_succ]
                refine wpAnyH_take (i := 26) (v := ?v26zF) rfl (by kernel_rfl) (by kernel_rfl) (by kernel_rfl) (fun _ _ _ h => h) (Or.inl ⟨by rfl, ?hy26zF⟩) (by assumption) ?rest26zF
                case hy26zF => intro w hSw; (try dsimp only at hSw); first | (go_simp; done) | (go_simp; with_reducible rfl)
                try simp only [Act.put, List.getElem_toArray, List.getElem_cons_succ, List.getElem_cons_zero, List.setIfInBounds_toArray, List.set_cons_zero, List.set_cons_succ]
                refine wpAnyH_take (i := 27) (v := ?v27zF) rfl (by kernel_rfl) (by kernel_rfl) (by kernel_rfl) (fun _ _ _ h => h) (Or.inl ⟨by rfl, ?hy27zF⟩) (by assumption) ?rest27zF
                case hy27zF => intro w hSw; (try dsimp only at hSw); first | (go_simp; done) | (go_simp; with_reducible rfl)
                try simp only [Act.put, List.getElem_toArray, List.getElem_cons_succ, List.getElem_cons_zero, List.setIfInBounds_toArray, List.set_cons_zero, List.set_cons_succ]
                refine wpAnyH_take (i := 28) (v := ?v28zF) rfl (by kernel_rfl) (by kernel_rfl) (by kernel_rfl) (fun _ _ _ h => h) (Or.inl ⟨by rfl, ?hy28zF⟩) (by assumption) ?rest28zF
                case hy28zF => intro w hSw; (try dsimp only at hSw); first | (go_simp; done) | (go_simp; with_reducible rfl)
                try simp only [Act.put, List.getElem_toArray, List.getElem_cons_succ, List.getElem_cons_zero, List.setIfInBounds_toArray, List.set_cons_zero, List.set_cons_succ]
                refine wpAnyH_take (i := 29) (v := ?v29zF) rfl (by kernel_rfl) (by kernel_rfl) (by kernel_rfl) (fun _ _ _ h => h) (Or.inl ⟨by rfl, ?hy29zF⟩) (by assumption) ?rest29zF
                case hy29zF => intro w hSw; (try dsimp only at hSw); first | (go_simp; done) | (go_simp; with_reducible rfl)
                try simp only [Act.put, List.getElem_toArray, List.getElem_cons_succ, List.getElem_cons_zero, List.setIfInBounds_toArray, List.set_cons_zero, List.set_cons_succ]
                refine wpAnyH_done (by kernel_rfl) ?_ _
                all_goals
                  have HS9 := Lib.hid hHeld.2.2.2.2
                  clear hHeld k0 k1 k2 k3 k4 k5 k6 k7 k8 c0 c1 c9 hGM
                  go_wp2_with fail
                  have c0 := HS9.out.gb.cell 0
                  have c1 := HS9.out.gb.cell 1
                  have hcz := (HS9.out.bits.cell (f * 4 + t)).trans hbl.out
                  have hfz := HS9.out.bits.frozen (f * 4 + t)
                  simp only [List.getElem?_cons_zero, List.getElem?_cons_succ] at c0 c1
                  go_still_tail 6, (by kernel_rfl)
                  change wpList _ _ _ _ _ w6.drew
                  have d0 : w6.drew.cell? ⟨z, 0, none⟩ = some (.int .i64 (f : Int)) := c0
                  have d1 : w6.drew.cell? ⟨z, 1, none⟩ = some (.int .i64 (t : Int)) := c1
                  have dz : w6.drew.cell? ⟨zg, f * 4 + t, none⟩ = some (.bool false) := hcz
                  have df : w6.drew.frozen? ⟨zg, f * 4 + t, none⟩ = false := hfz
                  have ts : Tab w6.drew g (tabL c.fr.toNat (ownM c)) := HS9.out.tb
                  have bs : Blk w6.drew zg 106 (bitc G 256) := HS9.out.bits
                  have bl : Below w1.heap.size w1 w6.drew := bdrewN HS9.out.below 1
                  generalize w6.drew = wd at *
                  have hbs := bs.set (f * 4 + t) (.bool true)
                  rw [bitc_set] at hbs
                  have HN9 : Hid (Q = grB c (c.gs.take (k + 1)) (c.gs.drop (k + 1)) ∧ Below w1.heap.size w1 (wd.setCell ⟨zg, f * 4 + t, none⟩ (.bool true)) ∧ Tab (wd.setCell ⟨zg, f * 4 + t, none⟩ (.bool true)) g (tabL c.fr.toNat (ownM c)) ∧ ∃ G, GBits (c.gs.take (k + 1)) G ∧ Blk (wd.setCell ⟨zg, f * 4 + t, none⟩ (.bool true)) zg 106 (bitc G 256)) :=
                    Lib.hid ⟨by rw [HST9.out]; rfl, bl.setCell (p := ⟨zg, f * 4 + t, none⟩) hs2 _, by obtain ⟨hl, r, hr, hh⟩ := ts; exact ⟨hl, r, hr, hh.far (show g ≠ zg by omega) _⟩, _, by rw [HTK.out]; exact HGB.out.snoc f t hf64 ht4 xw, hbs⟩
                  clear ts bs bl hbs c0 c1 hcz hfz
                  go_wp2_with fail
                  go_roundw
                  case rel => exact ⟨k + 1, by omega, by go_num, HN9⟩
                  case measure => simp [intOf]; omega
    · obtain rfl : k = m := by omega
      have HQ9 : Hid (Q = true) := Lib.hid (by rw [H.out.1, List.drop_eq_nil_of_le (by rw [HGN.out]; exact Nat.le_refl _)]; rfl)
      have HB9 := Lib.hid H.out.2.1
      clear H
      have e := HQ9.out
      subst e
      go_wp2_with fail
      go_ret
      exact ⟨rfl, Below.down HB.out HB9.out (by omega)⟩
end
end Go.Proofs.Ytkaalinoiilmoaa
namespace Go.Proofs.Ytkaalinoiilmoaa
open Go.RowKit
set_option linter.unusedVariables false
set_option linter.unusedSimpArgs false
set_option maxRecDepth 100000
set_option maxHeartbeats 1000000 in
theorem if_Rule (A : Option Addr) (b o n cap : Nat) (a0 : Nat) (c0 : Nat → Value) (p : Nat → Bool) (S : Nat → Prop) (I : Nat → World → Prop) (w : World) (hn : n ≤ maxLen) (hA : 0 < n → A = some ⟨b, o, none⟩)
    (hr : ∀ i W, i < n → I i W → W.cell? ⟨b, o + i, none⟩ = some (c0 i))
    (hG : ∀ i W, i < n → (∀ j, j < i → p j = false) → I i W → Calls Try.prog 32 #[c0 i, .pointer (some ⟨a0, 0, none⟩)] W fun e w' => e = .returned (.bool (p i)) ∧ I (i + 1) w' ∧ Fo S W w') (h0 : I 0 w) :
    Calls Try.prog 52 #[.slice A n cap, .func (.func 32) #[] #[.pointer (some ⟨a0, 0, none⟩)]] w fun e w' => ∃ r : Int, e = .returned (.int .i64 r) ∧ decide (r ≥ 0) = (List.range n).any p ∧ (∃ k, k ≤ n ∧ I k w' ∧ (r < 0 → k = n)) ∧ Fo S w w' := by
  have HA := Lib.hid hA; have HR := Lib.hid hr; have HG := Lib.hid hG; have H0 := Lib.hid h0
  unfold maxLen at hn
  clear hA hr hG h0
  go_enter Try.func52, Try.ntmps52
  go_wp2_with fail
  go_loopw [8] (fun i wr => ∃ k : Nat, k ≤ n ∧ i = .int .i64 k ∧ Hid ((∀ j, j < k → p j = false) ∧ I k wr ∧ Fo S w wr)) (fun i _ => n - (intOf i).toNat)
  case atStart => exact ⟨0, by omega, rfl, Lib.hid ⟨fun j hj => by omega, H0.out, Fo.refl _ _⟩⟩
  case round =>
    obtain ⟨k, hk, rfl, HX⟩ := hrel
    by_cases hlt : k < n
    · obtain rfl := HA.out (by omega)
      have x0 := HR.out k wr hlt HX.out.2.1
      have HC := Lib.hid (HG.out k wr hlt HX.out.1 HX.out.2.1)
      generalize c0 k = e0 at *
      go_wp2_with fail
      refine HC.out.mono ?_
      rintro e w1 ⟨rfl, hi, hf⟩
      have HI := Lib.hid hi
      have HF := Lib.hid (HX.out.2.2.trans hf)
      clear x0 hi hf
      cases hp : p k with
      | true =>
        have HP := Lib.hid hp
        clear hp
        go_wp2_with fail
        go_ret
        exact ⟨_, rfl, (by rw [range_any_yes hlt HP.out]; exact decide_eq_true (by omega)), ⟨k + 1, by omega, HI.out, fun h => by omega⟩, HF.out⟩
      | false =>
        have HP := Lib.hid hp
        clear hp
        go_wp2_with fail
        go_roundw
        case rel => exact ⟨k + 1, by omega, by go_num, Lib.hid ⟨fun j hj => by
          by_cases e : j = k
          · rw [e]; exact HP.out
          · exact HX.out.1 j (by omega), HI.out, HF.out⟩⟩
        case measure => simp [intOf]; omega
    · obtain rfl : k = n := by omega
      go_wp2_with fail
      go_ret
      exact ⟨_, rfl, (by rw [range_any_no HX.out.1]; rfl), ⟨k, by omega, HX.out.2.1, fun _ => rfl⟩, HX.out.2.2⟩
theorem cf_Rule (A : Option Addr) (b o n cap : Nat) (a0 : Nat) (c0 : Nat → Value) (p : Nat → Bool) (S : Nat → Prop) (I : Nat → World → Prop) (w : World) (hn : n ≤ maxLen) (hA : 0 < n → A = some ⟨b, o, none⟩)
    (hr : ∀ i W, i < n → I i W → W.cell? ⟨b, o + i, none⟩ = some (c0 i))
    (hG : ∀ i W, i < n → (∀ j, j < i → p j = false) → I i W → Calls Try.prog 32 #[c0 i, .pointer (some ⟨a0, 0, none⟩)] W fun e w' => e = .returned (.bool (p i)) ∧ I (i + 1) w' ∧ Fo S W w') (h0 : I 0 w) :
    Calls Try.prog 31 #[.slice A n cap, .func (.func 32) #[] #[.pointer (some ⟨a0, 0, none⟩)]] w fun e w' => e = .returned (.bool ((List.range n).any p)) ∧ Upto n I w' (!(List.range n).any p) ∧ Fo S w w' := by
  have HC := Lib.hid (if_Rule A b o n cap a0 c0 p S I w hn hA hr hG h0)
  clear hA hr hG h0
  generalize (List.range n).any p = R at *
  go_enter Try.func31, Try.ntmps31
  go_wp2_with fail
  refine HC.out.mono ?_
  rintro e w1 ⟨r, rfl, hr, hi, hf⟩
  have HI := Lib.hid hi; have HF := Lib.hid hf
  clear hi hf
  cases R
  all_goals
    go_wp2_with fail
    go_ret
  · refine ⟨rfl, ?_, HF.out⟩
    obtain ⟨k, hk, h1, h2⟩ := HI.out
    exact ⟨k, hk, h1, fun _ => h2 (by have := of_decide_eq_false hr; omega)⟩
  · refine ⟨rfl, ?_, HF.out⟩
    obtain ⟨k, hk, h1, h2⟩ := HI.out
    exact ⟨k, hk, h1, fun h => by cases h⟩
theorem e1_Rule (g : Nat) (y0 : Nat) (e0 : Value) (q : Bool) (Q : World → Prop) (S : Nat → Prop) (w : World) (hg : Blk w g 71 [.func (.func 22) #[] #[.pointer (some ⟨y0, 0, none⟩)]])
    (hst : ∀ W W', Q W → Below W.heap.size W W' → Q W') (Q' : World → Prop) (hq : Q w)
    (hH : ∀ W, Q W → Calls Try.prog 22 #[e0, .pointer (some ⟨y0, 0, none⟩)] W fun e w' => e = .returned (.bool q) ∧ Q' w' ∧ Fo S W w') :
    Calls Try.prog 32 #[e0, .pointer (some ⟨g, 0, none⟩)] w fun e w' => e = .returned (.bool (!q)) ∧ Q' w' ∧ Fo S w w' := by
  have cg := hg.cell 0
  simp only [List.getElem?_cons_zero] at cg
  have HC := Lib.hid (hH _ hq)
  clear hg hH hst hq
  go_enter Try.func32, Try.ntmps32
  go_wp2_with fail
  refine HC.out.mono ?_
  rintro e w1 ⟨rfl, h1, h2⟩
  go_wp2_with fail
  go_ret
  exact ⟨rfl, h1, h2⟩
theorem each_Rule (A : Option Addr) (b o n cap : Nat) (y0 : Nat) (c0 : Nat → Value) (q : Nat → Bool) (S : Nat → Prop) (I : Nat → World → Prop) (w : World) (hn : n ≤ maxLen) (hA : 0 < n → A = some ⟨b, o, none⟩)
    (hS : ∀ k, S k → k < w.heap.size) (hst : ∀ i W W', I i W → Below W.heap.size W W' → I i W')
    (hr : ∀ i W, i < n → I i W → W.cell? ⟨b, o + i, none⟩ = some (c0 i))
    (hH : ∀ i W, i < n → (∀ j, j < i → q j = true) → I i W → Calls Try.prog 22 #[c0 i, .pointer (some ⟨y0, 0, none⟩)] W fun e w' => e = .returned (.bool (q i)) ∧ I (i + 1) w' ∧ Fo S W w') (h0 : I 0 w) :
    Calls Try.prog 20 #[.slice A n cap, .func (.func 22) #[] #[.pointer (some ⟨y0, 0, none⟩)]] w fun e w' => e = .returned (.bool ((List.range n).all q)) ∧ Upto n I w' ((List.range n).all q) ∧ Fo S w w' := by
  have hb0 : Below w.heap.size w (w.alloc (.cells #[.func (.func 22) #[] #[.pointer (some ⟨y0, 0, none⟩)]] 71)) := (Below.refl _ _).alloc (Nat.le_refl _) _
  have hb1 : Blk (w.alloc (.cells #[.func (.func 22) #[] #[.pointer (some ⟨y0, 0, none⟩)]] 71)) w.heap.size 71 [.func (.func 22) #[] #[.pointer (some ⟨y0, 0, none⟩)]] := Blk.new _ _ _
  have hC := cf_Rule A b o n cap w.heap.size c0 (fun i => !q i) S (fun i W => I i W ∧ Blk W w.heap.size 71 [.func (.func 22) #[] #[.pointer (some ⟨y0, 0, none⟩)]]) _ hn hA (fun i W hi h => hr i W hi h.1)
    (fun i W hi hj h => (e1_Rule w.heap.size y0 _ (q i) (I i) S W h.2 (hst i) (fun w' => I (i + 1) w') h.1 (fun W' h' => hH i W' hi (fun j hj' => by have := hj j hj'; simpa using this) h')).mono (fun e w' ⟨he, h1, h2⟩ => ⟨he, ⟨h1, h2.blk h.2 (fun hs => by have := hS _ hs; omega)⟩, h2⟩)) ⟨hst 0 _ _ h0 hb0, hb1⟩
  have e1 : (List.range n).any (fun i => !q i) = !(List.range n).all q := range_any_not _ _
  rw [e1] at hC
  have HC := Lib.hid hC; have HB := Lib.hid hb0
  clear hC e1 hb0 hb1 hA hS hst hr hH h0
  generalize (List.range n).all q = R at *
  go_enter Try.func20, Try.ntmps20
  go_wp2_with fail
  refine HC.out.mono ?_
  rintro e w1 ⟨rfl, hk, hf⟩
  have HK := Lib.hid hk; have HF := Lib.hid hf
  clear hk hf
  cases R
  all_goals
    go_wp2_with fail
    go_ret
    refine ⟨rfl, ?_, (Fo.of HB.out S).trans_new HF.out (fun i hi => .inl hi)⟩
    obtain ⟨k, hk, h1, h2⟩ := HK.out
    exact ⟨k, hk, h1.1, fun h => h2 (by first | exact h | cases h | rfl)⟩
end Go.Proofs.Ytkaalinoiilmoaa
