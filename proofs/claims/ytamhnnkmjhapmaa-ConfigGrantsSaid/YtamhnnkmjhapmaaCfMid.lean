/-
  Contracts of config's partsMay, devicesMay, give, ownersOf, framesUnlike.
-/
import Derived.Test.YtamhnnkmjhapmaaCf1
import Derived.Test.YtamhnnkmjhapmaaItInt
import Derived.Test.YtamhnnkmjhapmaaFrames2
import Derived.Test.YtamhnnkmjhapmaaOb
namespace Go.Proofs.Ytamhnnkmjhapmaa
open Go.RowKit
set_option linter.unusedVariables false
set_option linter.unusedSimpArgs false
set_option maxRecDepth 100000

theorem Fo.nos {w w' : World} (h : Fo nos w w') : Below w.heap.size w w' := h.below (Below.refl _ _) (Nat.le_refl _) (fun _ h => h.elim)
theorem nos_lt {w : World} : ∀ k, nos k → k < w.heap.size := fun _ h => h.elim

section
variable {w : World} {c : Cf} {vp vd vw vg : Value}
theorem partsmay_any (h : CfAt w vp vd vw vg c) : Calls Try.prog 38 #[.agg #[.int .i64 c.fr, vp, vd, .int .i64 c.mj, vw, vg, .int .i64 c.se, .int .i64 c.qu, .int .i64 c.qt]] w fun e w' => e = .returned (.bool (psB c)) ∧ Below w.heap.size w w' := by
  obtain ⟨hb, hB⟩ := cf_box w c vp vd vw vg
  obtain ⟨-, k1, -⟩ := cf_at hb
  have h1 := h.below hB
  have hz := h.pz.1
  obtain ⟨A, cap, b, o, sv, rfl, hA, hr⟩ := h1.ps.rows
  have hw1 : w.heap.size + 1 = (w.alloc (.cells #[.int .i64 c.fr, .slice A c.ps.length cap, vd, .int .i64 c.mj, vw, vg, .int .i64 c.se, .int .i64 c.qu, .int .i64 c.qt] 27)).heap.size := by simp
  have HB := Lib.hid hB
  have HE : Hid (Calls Try.prog 59 #[.slice A c.ps.length cap, .func (.func 60) #[] #[]] _ _) := Lib.hid (each_Part A b o c.ps.length cap (fun i => .int .i64 (c.ps.getD i paD).lv) (fun i => .int .i64 (c.ps.getD i paD).ct) sv (fun i => .int .i64 (c.ps.getD i paD).fi) (fun i => .int .i64 (c.ps.getD i paD).co)
    (fun i => paB (c.ps.getD i paD)) nos (fun _ W => Below (w.heap.size + 1) (w.alloc (.cells #[.int .i64 c.fr, .slice A c.ps.length cap, vd, .int .i64 c.mj, vw, vg, .int .i64 c.se, .int .i64 c.qu, .int .i64 c.qt] 27)) W) (w.alloc (.cells #[.int .i64 c.fr, .slice A c.ps.length cap, vd, .int .i64 c.mj, vw, vg, .int .i64 c.se, .int .i64 c.qu, .int .i64 c.qt] 27)) (by unfold maxLen; omega) (fun h0 => (hA h0).1) nos_lt
    (fun i W W' hI hW => Below.down hI hW (by have := hI.size; omega))
    (fun i W hi hI => by
      have hlt := (hA (by omega)).2
      have g := fun x => hI.cell (p := ⟨b, x, none⟩) (show b < w.heap.size + 1 by omega)
      obtain ⟨⟨q0, q1, q2, q3, q4⟩, -⟩ := hr i hi
      exact ⟨(g _).trans q0, (g _).trans q1, (g _).trans q2, (g _).trans q3, (g _).trans q4⟩)
    (fun i W hi _ hI => by
      obtain ⟨-, A2, c2, e2, -⟩ := hr i hi
      rw [e2]
      refine (pm1_any (c.ps.getD i paD) A2 _ c2 rfl W).mono ?_
      rintro e w' ⟨rfl, hb⟩
      exact ⟨rfl, Below.down hI hb (by have := hI.size; omega), Fo.of hb _⟩)
    (by rw [hw1]; exact Below.refl _ _))
  rw [all_range c.ps paD paB] at HE
  have HX : Hid (psB c = (btw 1 4 c.ps.length && c.ps.all paB)) := Lib.hid rfl
  clear h h1 hb hB hA hr hw1
  generalize c.ps.all paB = R at *
  generalize psB c = Q at *
  have hs : w.heap.size ≤ w.heap.size + 1 := by omega
  cases hc : btw 1 4 c.ps.length with
  | false =>
    obtain rfl : Q = false := by rw [HX.out, hc]; rfl
    have HF := Lib.hid hc
    clear hc HE
    go_enter Try.func38, Try.ntmps38
    go_wp2_with fail
    refine (isfrom_any _ _ _ _).mono ?_
    rintro e w1 ⟨rfl, rfl⟩
    rw [HF.out]
    go_wp2_with fail
    go_ret
    exact ⟨rfl, HB.out⟩
  | true =>
    obtain rfl : Q = R := by rw [HX.out, hc]; rfl
    have HF := Lib.hid hc
    clear hc
    go_enter Try.func38, Try.ntmps38
    go_wp2_with fail
    refine (isfrom_any _ _ _ _).mono ?_
    rintro e w1 ⟨rfl, rfl⟩
    rw [HF.out]
    go_wp2_with fail
    refine HE.out.mono ?_
    rintro e w2 ⟨rfl, -, hf⟩
    have hb2 := Below.down HB.out hf.nos HB.out.size
    clear hf
    go_wp2_with fail
    go_ret
    exact ⟨rfl, hb2⟩

/-- A device that is asked; g: the block of the config that the function holds. -/
theorem dm1_any (x : De) (A2 : Option Addr) (n2 c2 g : Nat) (hn : n2 = x.po.length) (hg : Blk w g 27 (cfc c vp vd vw vg)) (h : CfAt w vp vd vw vg c) :
    Calls Try.prog 63 #[.agg #[.int .i64 x.pt, .slice A2 n2 c2], .pointer (some ⟨g, 0, none⟩)] w fun e w' => e = .returned (.bool (dvB c.ps.length x)) ∧ Below w.heap.size w w' := by
  have hb : Blk (w.alloc (.cells #[.int .i64 x.pt, .slice A2 n2 c2] 42)) w.heap.size 42 [.int .i64 x.pt, .slice A2 n2 c2] := Blk.new _ _ _
  have hB : Below w.heap.size w (w.alloc (.cells #[.int .i64 x.pt, .slice A2 n2 c2] 42)) := (Below.refl _ _).alloc (Nat.le_refl _) _
  have hg1 := hg.alloc (.cells #[.int .i64 x.pt, .slice A2 n2 c2] 42)
  have hP := haspart_any (h.below hB) x.pt
  obtain ⟨f0, f1, f2, f3, f4, f5, f6, f7, f8⟩ := cf_at hg1
  have k0 := hb.cell 0
  have k1 := hb.cell 1
  simp only [List.getElem?_cons_zero, List.getElem?_cons_succ] at k0 k1
  have HX : Hid (dvB c.ps.length x = (inP c.ps.length x.pt && btw 2 5 (n2 : Int))) := Lib.hid (by rw [hn]; rfl)
  have HP := Lib.hid hP; have HB := Lib.hid hB
  clear hP hb hB hg hg1 h hn
  generalize dvB c.ps.length x = Q at *
  cases hc : inP c.ps.length x.pt with
  | false =>
    obtain rfl : Q = false := by rw [HX.out, hc]; rfl
    rw [hc] at HP
    clear hc HX
    go_enter Try.func63, Try.ntmps63
    go_wp2_with fail
    refine HP.out.mono ?_
    rintro e w1 ⟨rfl, b1⟩
    go_wp2_with fail
    go_ret
    exact ⟨rfl, Below.down HB.out b1 HB.out.size⟩
  | true =>
    obtain rfl : Q = btw 2 5 (n2 : Int) := by rw [HX.out, hc]; rfl
    rw [hc] at HP
    clear hc HX
    go_enter Try.func63, Try.ntmps63
    go_wp2_with fail
    refine HP.out.mono ?_
    rintro e w1 ⟨rfl, b1⟩
    have g1 := (b1.cell (p := ⟨w.heap.size, 1, none⟩) (by simp)).trans k1
    go_wp2_with fail
    refine (isfrom_any _ _ _ _).mono ?_
    rintro e w2 ⟨rfl, rfl⟩
    go_wp2_with fail
    go_ret
    exact ⟨rfl, Below.down HB.out b1 HB.out.size⟩

theorem devicesmay_any (h : CfAt w vp vd vw vg c) : Calls Try.prog 39 #[.agg #[.int .i64 c.fr, vp, vd, .int .i64 c.mj, vw, vg, .int .i64 c.se, .int .i64 c.qu, .int .i64 c.qt]] w fun e w' => e = .returned (.bool (dsB c)) ∧ Below w.heap.size w w' := by
  obtain ⟨hb, hB⟩ := cf_box w c vp vd vw vg
  obtain ⟨-, -, k2, -⟩ := cf_at hb
  have h1 := h.below hB
  have hz := h.dz.1
  obtain ⟨A, cap, b, o, sv, rfl, hA, hr⟩ := h1.ds.rows
  have hw1 : w.heap.size + 1 = (w.alloc (.cells #[.int .i64 c.fr, vp, .slice A c.ds.length cap, .int .i64 c.mj, vw, vg, .int .i64 c.se, .int .i64 c.qu, .int .i64 c.qt] 27)).heap.size := by simp
  have HB := Lib.hid hB
  have HE := Lib.hid (each_Dev A b o c.ds.length cap w.heap.size (fun i => .int .i64 (c.ds.getD i deD).pt) sv
    (fun i => dvB c.ps.length (c.ds.getD i deD)) nos (fun _ W => Below (w.heap.size + 1) (w.alloc (.cells #[.int .i64 c.fr, vp, .slice A c.ds.length cap, .int .i64 c.mj, vw, vg, .int .i64 c.se, .int .i64 c.qu, .int .i64 c.qt] 27)) W) (w.alloc (.cells #[.int .i64 c.fr, vp, .slice A c.ds.length cap, .int .i64 c.mj, vw, vg, .int .i64 c.se, .int .i64 c.qu, .int .i64 c.qt] 27)) (by unfold maxLen; omega) (fun h0 => (hA h0).1) nos_lt
    (fun i W W' hI hW => Below.down hI hW (by have := hI.size; omega))
    (fun i W hi hI => by
      have hlt := (hA (by omega)).2
      have g := fun x => hI.cell (p := ⟨b, x, none⟩) (show b < w.heap.size + 1 by omega)
      obtain ⟨⟨q0, q1⟩, -⟩ := hr i hi
      exact ⟨(g _).trans q0, (g _).trans q1⟩)
    (fun i W hi _ hI => by
      obtain ⟨-, A2, c2, e2, -⟩ := hr i hi
      rw [e2]
      refine (dm1_any (c.ds.getD i deD) A2 _ c2 w.heap.size rfl (hb.below hI (by omega)) (h1.below (by rw [← hw1]; exact hI))).mono ?_
      rintro e w' ⟨rfl, hb⟩
      exact ⟨rfl, Below.down hI hb (by have := hI.size; omega), Fo.of hb _⟩)
    (by rw [hw1]; exact Below.refl _ _))
  rw [all_range c.ds deD (dvB c.ps.length)] at HE
  have HX : Hid (dsB c = (btw 1 4 c.ds.length && c.ds.all (dvB c.ps.length))) := Lib.hid rfl
  clear h h1 hb hB hA hr hw1
  generalize c.ds.all (dvB c.ps.length) = R at *
  generalize dsB c = Q at *
  cases hc : btw 1 4 c.ds.length with
  | false =>
    obtain rfl : Q = false := by rw [HX.out, hc]; rfl
    have HF := Lib.hid hc
    clear hc HE
    go_enter Try.func39, Try.ntmps39
    go_wp2_with fail
    refine (isfrom_any _ _ _ _).mono ?_
    rintro e w1 ⟨rfl, rfl⟩
    rw [HF.out]
    go_wp2_with fail
    go_ret
    exact ⟨rfl, HB.out⟩
  | true =>
    obtain rfl : Q = R := by rw [HX.out, hc]; rfl
    have HF := Lib.hid hc
    clear hc
    go_enter Try.func39, Try.ntmps39
    go_wp2_with fail
    refine (isfrom_any _ _ _ _).mono ?_
    rintro e w1 ⟨rfl, rfl⟩
    rw [HF.out]
    go_wp2_with fail
    refine HE.out.mono ?_
    rintro e w2 ⟨rfl, -, hf⟩
    have hb2 := Below.down HB.out hf.nos HB.out.size
    clear hf
    go_wp2_with fail
    go_ret
    exact ⟨rfl, hb2⟩
end

end Go.Proofs.Ytamhnnkmjhapmaa

namespace Go.Proofs.Ytamhnnkmjhapmaa
open Go.RowKit
set_option linter.unusedVariables false
set_option linter.unusedSimpArgs false
set_option maxRecDepth 100000

/-- A table told by a function. -/
def tabL (F : Nat) (T : Nat → Int) : List Int := (List.range F).map T
theorem tabL_len (F : Nat) (T : Nat → Int) : (tabL F T).length = F := by simp [tabL]
theorem tabL_at (F : Nat) (T : Nat → Int) (k : Nat) (h : k < F) : (tabL F T).getD k 0 = T k := by simp [tabL, List.getD, h]
theorem tabL_free (F : Nat) : tabL F freeT = free F := by
  unfold tabL freeT free
  rw [List.map_const', List.length_range]
theorem tabL_set (F : Nat) (T : Nat → Int) (k : Nat) (o : Int) : (tabL F T).set k o = tabL F (updT T k o) := by
  apply List.ext_getElem?
  intro i
  rw [List.getElem?_set]
  by_cases h : i < F
  · have e : ∀ T : Nat → Int, (tabL F T)[i]? = some (T i) := fun T => by simp [tabL, h]
    rw [e, e, tabL_len]
    unfold updT
    by_cases hk : k = i
    · subst hk; simp [h]
    · rw [if_neg hk, if_neg (fun e => hk e.symm)]
  · rw [List.getElem?_eq_none (by rw [tabL_len]; omega), List.getElem?_eq_none (by rw [tabL_len]; omega), tabL_len]
    by_cases hk : k = i
    · subst hk; simp [h]
    · rw [if_neg hk]
theorem tabL_setL (F : Nat) (T : Nat → Int) (x o : Int) (h0 : 0 ≤ x) (h1 : x < F) (h2 : -2 ≤ o) (h3 : o ≤ 3) : setL (tabL F T) x o = tabL F (updT T x.toNat o) ∧ setC (tabL F T).length x o = 0 := by
  have hs : setB (tabL F T).length x o = true := by
    unfold setB; rw [tabL_len]; exact decide_eq_true ⟨h0, h1, h2, h3⟩
  unfold setL setC
  rw [hs]
  exact ⟨by rw [if_pos rfl, tabL_set], rfl⟩
theorem tabL_of (F : Nat) (T : Nat → Int) (x : Int) : (ofC (tabL F T).length x = 200 ∧ fgB F T x = false ∧ ¬ (0 ≤ x ∧ x < F)) ∨ (ofC (tabL F T).length x = 0 ∧ ofN (tabL F T) x = T x.toNat ∧ 0 ≤ x ∧ x < F ∧ fgB F T x = decide (T x.toNat = -1)) := by
  by_cases h : 0 ≤ x ∧ x < F
  · right
    have hb : ofB (tabL F T).length x = true := by unfold ofB; rw [tabL_len]; exact decide_eq_true h
    refine ⟨by unfold ofC; rw [hb]; rfl, ?_, h.1, h.2, by unfold fgB; rw [decide_eq_true h]; rfl⟩
    unfold ofN; rw [hb, if_pos rfl, tabL_at _ _ _ (by omega)]
  · left
    have hb : ofB (tabL F T).length x = false := by unfold ofB; rw [tabL_len]; exact decide_eq_false h
    exact ⟨by unfold ofC; rw [hb]; rfl, by unfold fgB; rw [decide_eq_false h]; rfl, h⟩

/-- One frame given: g the table, y0 and y1 what the function holds. -/
theorem give1_any (x o : Int) (F g y0 y1 : Nat) (T : Nat → Int) (w : World) (hT : Tab w g (tabL F T)) (h0 : Blk w y0 87 [.pointer (some ⟨g, 0, none⟩)]) (h1 : Blk w y1 3 [.int .i64 o]) (ho : -2 ≤ o ∧ o ≤ 3) :
    Calls Try.prog 92 #[.int .i64 x, .pointer (some ⟨y0, 0, none⟩), .pointer (some ⟨y1, 0, none⟩)] w fun e w' => e = .returned (.bool (fgB F T x)) ∧ (∃ T', Tab w' g (tabL F T') ∧ (fgB F T x = true → T' = updT T x.toNat o)) ∧ w.grownBy w' (some g) := by
  have k0 := h0.cell 0
  have k1 := h1.cell 0
  simp only [List.getElem?_cons_zero] at k0 k1
  have hO := pof_any g (tabL F T) x w hT
  have hS := pset_any g (tabL F T) x o w hT
  have HT := Lib.hid hT
  clear h0 h1
  rcases tabL_of F T x with ⟨e1, e2, e3⟩ | ⟨e1, e2, e3, e4, e5⟩
  · rw [e2]
    rw [e1] at hO
    generalize ofN (tabL F T) x = N at *
    have HO := Lib.hid hO
    clear hO hS hT e1 e2 e3
    go_enter Try.func92, Try.ntmps92
    go_wp2_with fail
    refine HO.out.mono ?_
    rintro e w1 ⟨rfl, rfl⟩
    go_wp2_with fail
    go_ret
    exact ⟨rfl, ⟨T, HT.out, fun h => by cases h⟩, grefl _ _⟩
  · rw [e1, e2] at hO
    rw [e5]
    obtain ⟨s1, s2⟩ := tabL_setL F T x o e3 e4 ho.1 ho.2
    rw [s1, s2] at hS
    have HU : Hid (∀ T' : Nat → Int, T' = updT T x.toNat o → T' = updT T x.toNat o) := Lib.hid fun _ h => h
    generalize updT T x.toNat o = U at *
    generalize T x.toNat = N at *
    have HO := Lib.hid hO; have HS := Lib.hid hS
    clear hO hS hT e1 e2 e3 e4 e5 s1 s2 ho
    by_cases hN : N = -1
    · subst hN
      go_enter Try.func92, Try.ntmps92
      go_wp2_with fail
      refine HO.out.mono ?_
      rintro e w1 ⟨rfl, rfl⟩
      go_wp2_with fail
      refine HS.out.mono ?_
      rintro e w2 ⟨rfl, ht, hg⟩
      go_wp2_with fail
      go_ret
      exact ⟨rfl, ⟨U, ht, fun _ => rfl⟩, hg⟩
    · have hN2 : (N == -1) = false := by simpa using hN
      have hR : decide (N = -1) = false := decide_eq_false hN
      have HR := Lib.hid hR
      clear hR hN
      go_enter Try.func92, Try.ntmps92
      go_wp2_with fail
      refine HO.out.mono ?_
      rintro e w1 ⟨rfl, rfl⟩
      go_wp2_with fail
      go_ret
      exact ⟨by rw [HR.out]; rfl, ⟨T, HT.out, fun h => by rw [HR.out] at h; cases h⟩, grefl _ _⟩

/-- What giving a row keeps: W0 the world in which the row stood. -/
def GvI (W0 : World) (F g y0 y1 : Nat) (T : Nat → Int) (o : Int) (l : List Int) (i : Nat) (W : World) : Prop :=
  (∃ T', Tab W g (tabL F T') ∧ ((∀ j, j < i → fgB F (giT o T (l.take j)) (l.getD j 0) = true) → T' = giT o T (l.take i))) ∧ Below W0.heap.size W0 W ∧ Blk W y0 87 [.pointer (some ⟨g, 0, none⟩)] ∧ Blk W y1 3 [.int .i64 o]

theorem Fo.bel {W0 w w' : World} {g : Nat} (h : Fo (· = g) w w') (hb : Below W0.heap.size W0 w) (hg : W0.heap.size ≤ g) : Below W0.heap.size W0 w' := h.below hb hb.size (fun i e => by omega)

theorem give_any (v : Value) (l : List Int) (o : Int) (F g : Nat) (T : Nat → Int) (W0 w : World) (hs : Sl W0 v l.length 1 (ints l)) (hn : l.length ≤ maxLen) (hb : Below W0.heap.size W0 w) (hg : W0.heap.size ≤ g) (hT : Tab w g (tabL F T)) (ho : -2 ≤ o ∧ o ≤ 3) :
    Calls Try.prog 81 #[.pointer (some ⟨g, 0, none⟩), .int .i64 o, v] w fun e w' => e = .returned (.bool (giB F o T l)) ∧ (∃ T', Tab w' g (tabL F T') ∧ (giB F o T l = true → T' = giT o T l)) ∧ Fo (· = g) w w' := by
  obtain ⟨A, cap, rfl, _, _, hA⟩ := hs
  have hglt := hT.lt
  have b1 : Below w.heap.size w (w.alloc (.cells #[.pointer (some ⟨g, 0, none⟩)] 87)) := (Below.refl _ _).alloc (Nat.le_refl _) _
  have b2 : Below w.heap.size w ((w.alloc (.cells #[.pointer (some ⟨g, 0, none⟩)] 87)).alloc (.cells #[.int .i64 o] 3)) := b1.alloc b1.size _
  have k0 : Blk ((w.alloc (.cells #[.pointer (some ⟨g, 0, none⟩)] 87)).alloc (.cells #[.int .i64 o] 3)) w.heap.size 87 [.pointer (some ⟨g, 0, none⟩)] := (Blk.new w _ [.pointer (some ⟨g, 0, none⟩)]).alloc _
  have k1 : Blk ((w.alloc (.cells #[.pointer (some ⟨g, 0, none⟩)] 87)).alloc (.cells #[.int .i64 o] 3)) (w.heap.size + 1) 3 [.int .i64 o] := by
    have := Blk.new (w.alloc (.cells #[.pointer (some ⟨g, 0, none⟩)] 87)) 3 [.int .i64 o]
    simpa using this
  have hsz : ((w.alloc (.cells #[.pointer (some ⟨g, 0, none⟩)] 87)).alloc (.cells #[.int .i64 o] 3)).heap.size = w.heap.size + 1 + 1 := by simp
  obtain ⟨b, oo, hbo⟩ : ∃ b oo, 0 < l.length → A = some ⟨b, oo, none⟩ ∧ b < W0.heap.size ∧ ∀ j u, (ints l)[j]? = some u → W0.cell? ⟨b, oo + j, none⟩ = some u := by
    by_cases h0 : 0 < l.length
    · obtain ⟨b, oo, h1, h2, h3⟩ := hA h0
      exact ⟨b, oo, fun _ => ⟨h1, h2, h3⟩⟩
    · exact ⟨0, 0, fun h => absurd h h0⟩
  have hE := each_Int A b oo l.length cap w.heap.size (w.heap.size + 1) (fun i => .int .i64 (l.getD i 0)) (fun i => fgB F (giT o T (l.take i)) (l.getD i 0)) (· = g) (GvI W0 F g w.heap.size (w.heap.size + 1) T o l)
    ((w.alloc (.cells #[.pointer (some ⟨g, 0, none⟩)] 87)).alloc (.cells #[.int .i64 o] 3)) hn (fun h0 => (hbo h0).1) (fun k hk => by rw [hk]; omega)
    (fun i W W' ⟨⟨T', h1, h2⟩, h3, h4, h5⟩ hW => ⟨⟨T', h1.below hW h1.lt, h2⟩, Below.down h3 hW h3.size, h4.below hW h4.lt, h5.below hW h5.lt⟩)
    (fun i W hi ⟨_, h3, _⟩ => by
      obtain ⟨_, h2, h4⟩ := hbo (by omega)
      exact (h3.cell (p := ⟨b, oo + i, none⟩) h2).trans (h4 _ _ (ints_get l i hi)))
    (fun i W hi hj ⟨⟨T', h1, h2⟩, h3, h4, h5⟩ => by
      rw [h2 hj] at h1
      refine (give1_any (l.getD i 0) o F g _ _ _ W h1 h4 h5 ho).mono ?_
      rintro e w' ⟨rfl, ⟨T2, q1, q2⟩, q3⟩
      have hf : Fo (· = g) W w' := (Fo.refl _ _).grown q3 (fun x hx => .inl (by injection hx with hx; exact hx.symm))
      refine ⟨rfl, ⟨⟨T2, q1, fun hall => ?_⟩, hf.bel h3 hg, hf.blk h4 (fun e => by omega), hf.blk h5 (fun e => by omega)⟩, hf⟩
      rw [q2 (hall i (by omega)), giT_take o l T i hi])
    ⟨⟨T, hT.below b2 hglt, fun _ => rfl⟩, Below.down hb b2 hb.size, k0, k1⟩
  rw [giB_go F o l T] at hE
  have HE := Lib.hid hE
  have HB := Lib.hid b2
  have HI : Hid (∀ w', Upto l.length (GvI W0 F g w.heap.size (w.heap.size + 1) T o l) w' (giB F o T l) → ∃ T', Tab w' g (tabL F T') ∧ (giB F o T l = true → T' = giT o T l)) := Lib.hid (by
    rintro w' ⟨k, hk, ⟨⟨T', h1, h2⟩, -⟩, hkn⟩
    refine ⟨T', h1, fun hg => ?_⟩
    have hkl := hkn hg
    rw [← giB_go F o l T, range_all_iff] at hg
    rw [h2 (fun j hj => hg j (by omega)), hkl, List.take_length])
  clear hE b1 b2 k0 k1 hsz hbo hT hb hA
  generalize giB F o T l = R at *
  go_enter Try.func81, Try.ntmps81
  go_wp2_with fail
  refine HE.out.mono ?_
  rintro e w1 ⟨rfl, hu, hf⟩
  have HU := Lib.hid (HI.out _ hu)
  have HF := Lib.hid ((Fo.of HB.out (· = g)).trans_new hf (fun i hi => .inl hi))
  clear hu hf
  go_wp2_with fail
  go_ret
  exact ⟨rfl, HU.out, HF.out⟩

end Go.Proofs.Ytamhnnkmjhapmaa

namespace Go.Proofs.Ytamhnnkmjhapmaa
open Go.RowKit
set_option linter.unusedVariables false
set_option linter.unusedSimpArgs false
set_option maxRecDepth 100000

/-- What ownersOf answers: a table, or nil. -/
def OwnsOf (c : Cf) (w : World) (e : Ending) (w' : World) : Prop :=
  Below w.heap.size w w' ∧ (unB c = true ∧ (∃ g, e = .returned (.pointer (some ⟨g, 0, none⟩)) ∧ w.heap.size ≤ g ∧ Tab w' g (tabL c.fr.toNat (ownM c))) ∨ unB c = false ∧ e = .returned (.pointer none))
/-- What its first loop keeps, its second. -/
def OwA (c : Cf) (w1 : World) (g k : Nat) (W : World) : Prop :=
  Tab W g (tabL c.fr.toNat (gpT 0 freeT (c.ps.take k))) ∧ Below w1.heap.size w1 W ∧ gpB c.fr 0 freeT c.ps = gpB c.fr k (gpT 0 freeT (c.ps.take k)) (c.ps.drop k)
def OwB (c : Cf) (w1 : World) (g k : Nat) (W : World) : Prop :=
  Tab W g (tabL c.fr.toNat (gdT (gpT 0 freeT c.ps) (c.ds.take k))) ∧ Below w1.heap.size w1 W ∧ gpB c.fr 0 freeT c.ps = true ∧ gdB c.fr (gpT 0 freeT c.ps) c.ds = gdB c.fr (gdT (gpT 0 freeT c.ps) (c.ds.take k)) (c.ds.drop k)

section
variable {w : World} {c : Cf} {vp vd vw vg : Value}
set_option maxHeartbeats 2000000 in
theorem owners_any (h : CfAt w vp vd vw vg c) (hF : 1 ≤ c.fr ∧ c.fr ≤ 64) (hp4 : c.ps.length ≤ 4) : Calls Try.prog 64 #[.agg #[.int .i64 c.fr, vp, vd, .int .i64 c.mj, vw, vg, .int .i64 c.se, .int .i64 c.qu, .int .i64 c.qt]] w (OwnsOf c w) := by
  obtain ⟨F, hFe⟩ : ∃ F : Nat, c.fr = F := ⟨c.fr.toNat, by omega⟩
  obtain ⟨hb, hB⟩ := cf_box w c vp vd vw vg
  have h1 := h.below hB
  have hFn : c.fr.toNat = F := by omega
  rw [hFe] at hb hB h1 hF
  obtain ⟨A, cap, b, o, sv, rfl, hA, hr⟩ := h1.ps.rows
  obtain ⟨A', cap', b', o', sv', rfl, hA', hr'⟩ := h1.ds.rows
  have hz := h.pz; have hz' := h.dz
  have HZ := Lib.hid hz.2; have HZ' := Lib.hid hz'.2
  have hz1 := hz.1; have hz1' := hz'.1
  obtain ⟨k0, k1, k2, -⟩ := cf_at hb
  have HB := Lib.hid hB; have HK := Lib.hid hb
  have HNW := Lib.hid (fun (W : World) => onew_yes F W (by omega) (by omega))
  have hsz : (w.alloc (.cells #[.int .i64 F, .slice A c.ps.length cap, .slice A' c.ds.length cap', .int .i64 c.mj, vw, vg, .int .i64 c.se, .int .i64 c.qu, .int .i64 c.qt] 27)).heap.size = w.heap.size + 1 := by simp
  have HA := Lib.hid hA; have HA' := Lib.hid hA'; have HR := Lib.hid hr; have HR' := Lib.hid hr'
  have HFe := Lib.hid hFe; have HFn := Lib.hid hFn
  obtain ⟨hF1, hF2⟩ := hF
  rw [hFe] at k0 ⊢
  clear h h1 hb hB hA hr hA' hr' hz hz' hFe hFn
  generalize hn : c.ps.length = n at *
  generalize hn' : c.ds.length = n' at *
  have HN := Lib.hid hn; have HN' := Lib.hid hn'
  clear hn hn'
  go_enter Try.func64, Try.ntmps64
  go_wp2_with fail
  generalize w.alloc (.cells #[.int .i64 (F : Int), .slice A n cap, .slice A' n' cap', .int .i64 c.mj, vw, vg, .int .i64 c.se, .int .i64 c.qu, .int .i64 c.qt] 27) = w1 at *
  have hsy : w.heap.size ≤ w1.heap.size := by omega
  refine (HNW.out w1).mono ?_
  rintro e w2 ⟨rfl, ht, hb2⟩
  have q1 := (hb2.cell (p := ⟨w.heap.size, 1, none⟩) (show w.heap.size < w1.heap.size by omega)).trans k1
  have q2 := (hb2.cell (p := ⟨w.heap.size, 2, none⟩) (show w.heap.size < w1.heap.size by omega)).trans k2
  have HT0 : Hid (OwA c w1 w1.heap.size 0 w2) := Lib.hid ⟨by rw [HFn.out, List.take_zero]; show Tab w2 _ (tabL F freeT); rw [tabL_free]; exact ht, hb2, by rw [List.take_zero, List.drop_zero]; rfl⟩
  have hlt1 : w.heap.size < w1.heap.size := by omega
  clear ht hb2 HNW
  generalize hge : w1.heap.size = g at *
  have HGE := Lib.hid hge
  clear hge hsz
  go_wp2_with fail
  clear q1 q2 k0
  go_loopw [18] (fun i wr => ∃ k : Nat, k ≤ n ∧ i = .int .i64 k ∧ Hid (OwA c w1 g k wr)) (fun i _ => n - (intOf i).toNat)
  case atStart => exact ⟨0, by omega, rfl, HT0⟩
  case round =>
    obtain ⟨k, hk, rfl, H⟩ := hrel
    obtain ⟨hT, hbel, hgp⟩ := H.out
    by_cases hlt : k < n
    · obtain ⟨rfl, hbw⟩ := HA.out (by omega)
      obtain ⟨⟨r0, r1, r2, r3, r4⟩, hsl⟩ := HR.out k hlt
      have gc := fun x => hbel.cell (p := ⟨b, x, none⟩) (show b < w1.heap.size by have := HGE.out; omega)
      rw [← gc] at r0 r1 r2 r3 r4
      have HSL := Lib.hid hsl
      obtain ⟨A2, c2, e2, -⟩ := hsl
      rw [e2] at r2 HSL
      have hfl : (c.ps.getD k paD).fr.length ≤ maxLen := by have := HZ.out k; unfold maxLen; omega
      have hst := gpB_at c.fr c.ps 0 freeT k (by rw [HN.out]; exact hlt)
      rw [Int.zero_add, Int.zero_add, ← hgp] at hst
      have htk := gpT_take c.ps 0 freeT k (by rw [HN.out]; exact hlt)
      rw [Int.zero_add] at htk
      rw [HFe.out] at hst
      have hws := hbel.size
      have HCL := Lib.hid (fun (W : World) (hW : Below w1.heap.size w1 W) (hT : Tab W g (tabL F (gpT 0 freeT (c.ps.take k)))) => give_any (.slice A2 (c.ps.getD k paD).fr.length c2) (c.ps.getD k paD).fr k F g (gpT 0 freeT (c.ps.take k)) w1 W HSL.out hfl hW (by have := HGE.out; omega) hT (by omega))
      have hFT : ∀ {W : World}, Tab W g (tabL c.fr.toNat (gpT 0 freeT (c.ps.take k))) → Tab W g (tabL F (gpT 0 freeT (c.ps.take k))) := fun h => by rw [← HFn.out]; exact h
      have HST := Lib.hid hst; have HTK := Lib.hid htk; have HBL := Lib.hid hbel; have HTB := Lib.hid (fun (W : World) (hW : Below wr.heap.size wr W) => hFT (hT.below hW hT.lt))
      clear hFT hst htk hbel hT hgp e2 gc hfl
      generalize (c.ps.getD k paD).fr.length = m at *
      go_wp2_with fail
      refine (HCL.out _ (HBL.out.alloc hws _) (HTB.out _ ((Below.refl _ _).alloc (Nat.le_refl _) _))).mono ?_
      rintro e w3 ⟨rfl, ⟨T', q1, q2⟩, hf⟩
      have hb3 : Below w1.heap.size w1 w3 := hf.bel (HBL.out.alloc hws _) (by have := HGE.out; omega)
      have HB3 := Lib.hid hb3; have HQ1 := Lib.hid q1; have HQ2 := Lib.hid q2
      have HGB : Hid (∃ R, giB (F : Int) (k : Int) (gpT 0 freeT (c.ps.take k)) (c.ps.getD k paD).fr = R) := Lib.hid ⟨_, rfl⟩
      obtain ⟨R, hR⟩ := HGB.out
      rw [hR] at HST HQ2 ⊢
      clear hb3 q1 q2 hf HGB hR r0 r1 r2 r3 r4 HCL
      cases R with
      | false =>
        have HUN : Hid (unB c = false) := Lib.hid (by unfold unB; rw [HFe.out, HST.out]; rfl)
        go_wp2_with fail
        go_ret
        exact ⟨Below.down HB.out HB3.out (by have := HGE.out; omega), .inr ⟨HUN.out, rfl⟩⟩
      | true =>
        have HN1 : Hid (OwA c w1 g (k + 1) w3) := Lib.hid ⟨by rw [HTK.out, HFn.out, ← HQ2.out rfl]; exact HQ1.out, HB3.out, by rw [HFe.out, HST.out, Bool.true_and]⟩
        go_wp2_with fail
        go_roundw
        case rel => exact ⟨k + 1, by omega, by go_num, HN1⟩
        case measure => simp [intOf]; omega
    · obtain rfl : k = n := by omega
      have hgt : gpB c.fr 0 freeT c.ps = true := by rw [hgp, List.drop_eq_nil_of_le (by rw [HN.out]; exact Nat.le_refl _)]; rfl
      rw [show c.ps.take k = c.ps by rw [← HN.out, List.take_length]] at hT
      have HB0 : Hid (OwB c w1 g 0 wr) := Lib.hid ⟨by rw [List.take_zero]; exact hT, hbel, hgt, by rw [List.take_zero, List.drop_zero]; rfl⟩
      have q2 := (hbel.cell (p := ⟨w.heap.size, 2, none⟩) (show w.heap.size < w1.heap.size by have := HGE.out; omega)).trans k2
      clear hT hbel hgp hgt
      go_wp2_with fail
      clear q2
      go_loopw [33] (fun i wr => ∃ k : Nat, k ≤ n' ∧ i = .int .i64 k ∧ Hid (OwB c w1 g k wr)) (fun i _ => n' - (intOf i).toNat)
      case atStart => exact ⟨0, by omega, rfl, HB0⟩
      case round =>
        obtain ⟨j, hj, rfl, H2⟩ := hrel
        obtain ⟨hT, hbel, hgp, hgd⟩ := H2.out
        by_cases hlt : j < n'
        · obtain ⟨rfl, hbw⟩ := HA'.out (by omega)
          obtain ⟨⟨r0, r1⟩, hsl⟩ := HR'.out j hlt
          have gc := fun x => hbel.cell (p := ⟨b', x, none⟩) (show b' < w1.heap.size by have := HGE.out; omega)
          rw [← gc] at r0 r1
          have HSL := Lib.hid hsl
          obtain ⟨A2, c2, e2, -⟩ := hsl
          rw [e2] at r1 HSL
          have hfl : (c.ds.getD j deD).po.length ≤ maxLen := by have := HZ'.out j; unfold maxLen; omega
          have hst := gdB_at c.fr c.ds (gpT 0 freeT c.ps) j (by rw [HN'.out]; exact hlt)
          rw [← hgd] at hst
          have htk := gdT_take c.ds (gpT 0 freeT c.ps) j (by rw [HN'.out]; exact hlt)
          rw [HFe.out] at hst
          have hws := hbel.size
          have HCL := Lib.hid (fun (W : World) (hW : Below w1.heap.size w1 W) (hT : Tab W g (tabL F (gdT (gpT 0 freeT c.ps) (c.ds.take j)))) => give_any (.slice A2 (c.ds.getD j deD).po.length c2) (c.ds.getD j deD).po (-2) F g (gdT (gpT 0 freeT c.ps) (c.ds.take j)) w1 W HSL.out hfl hW (by have := HGE.out; omega) hT (by omega))
          have hFT : ∀ {W : World}, Tab W g (tabL c.fr.toNat (gdT (gpT 0 freeT c.ps) (c.ds.take j))) → Tab W g (tabL F (gdT (gpT 0 freeT c.ps) (c.ds.take j))) := fun h => by rw [← HFn.out]; exact h
          have HST := Lib.hid hst; have HTK := Lib.hid htk; have HBL := Lib.hid hbel; have HTB := Lib.hid (fun (W : World) (hW : Below wr.heap.size wr W) => hFT (hT.below hW hT.lt)); have HGP := Lib.hid hgp
          clear hFT hst htk hbel hT hgd e2 gc hfl hgp
          generalize (c.ds.getD j deD).po.length = m at *
          go_wp2_with fail
          refine (HCL.out _ (HBL.out.alloc hws _) (HTB.out _ ((Below.refl _ _).alloc (Nat.le_refl _) _))).mono ?_
          rintro e w3 ⟨rfl, ⟨T', q1, q2⟩, hf⟩
          have hb3 : Below w1.heap.size w1 w3 := hf.bel (HBL.out.alloc hws _) (by have := HGE.out; omega)
          have HB3 := Lib.hid hb3; have HQ1 := Lib.hid q1; have HQ2 := Lib.hid q2
          have HGB : Hid (∃ R, giB (F : Int) (-2) (gdT (gpT 0 freeT c.ps) (c.ds.take j)) (c.ds.getD j deD).po = R) := Lib.hid ⟨_, rfl⟩
          obtain ⟨R, hR⟩ := HGB.out
          rw [hR] at HST HQ2 ⊢
          clear hb3 q1 q2 hf HGB hR r0 r1 HCL
          cases R with
          | false =>
            have HUN : Hid (unB c = false) := Lib.hid (by unfold unB; rw [HFe.out, HST.out]; simp)
            go_wp2_with fail
            go_ret
            exact ⟨Below.down HB.out HB3.out (by have := HGE.out; omega), .inr ⟨HUN.out, rfl⟩⟩
          | true =>
            have HN1 : Hid (OwB c w1 g (j + 1) w3) := Lib.hid ⟨by rw [HTK.out, HFn.out, ← HQ2.out rfl]; exact HQ1.out, HB3.out, HGP.out, by rw [HFe.out, HST.out, Bool.true_and]⟩
            go_wp2_with fail
            go_roundw
            case rel => exact ⟨j + 1, by omega, by go_num, HN1⟩
            case measure => simp [intOf]; omega
        · obtain rfl : j = n' := by omega
          have HGT : Hid (unB c = true) := Lib.hid (by unfold unB; rw [hgp, hgd, List.drop_eq_nil_of_le (by rw [HN'.out]; exact Nat.le_refl _)]; rfl)
          rw [show c.ds.take j = c.ds by rw [← HN'.out, List.take_length]] at hT
          have HTB := Lib.hid hT; have HBL := Lib.hid hbel
          clear hT hbel hgp hgd
          go_wp2_with fail
          go_ret
          exact ⟨Below.down HB.out HBL.out (by have := HGE.out; omega), .inl ⟨HGT.out, _, rfl, by omega, HTB.out⟩⟩

theorem unlike_any (h : CfAt w vp vd vw vg c) (hF : 1 ≤ c.fr ∧ c.fr ≤ 64) (hp4 : c.ps.length ≤ 4) : Calls Try.prog 40 #[.agg #[.int .i64 c.fr, vp, vd, .int .i64 c.mj, vw, vg, .int .i64 c.se, .int .i64 c.qu, .int .i64 c.qt]] w fun e w' => e = .returned (.bool (unB c)) ∧ Below w.heap.size w w' := by
  obtain ⟨hb, hB⟩ := cf_box w c vp vd vw vg
  have HC := Lib.hid (owners_any (h.below hB) hF hp4)
  obtain ⟨k0, k1, k2, k3, k4, k5, k6, k7, k8⟩ := cf_at hb
  have HB := Lib.hid hB
  obtain ⟨Q, hQ⟩ : ∃ Q, unB c = Q := ⟨_, rfl⟩
  rw [hQ]
  have HQ := Lib.hid hQ
  clear hb hB h hF hp4 hQ
  go_enter Try.func40, Try.ntmps40
  go_wp2_with fail
  refine HC.out.mono ?_
  rintro e w1 ⟨b1, ⟨hu, g, rfl, -, -⟩ | ⟨hu, rfl⟩⟩
  · have e : Q = true := by rw [← HQ.out, hu]
    subst e
    clear hu
    go_wp2_with fail
    go_ret
    exact ⟨rfl, Below.down HB.out b1 HB.out.size⟩
  · have e : Q = false := by rw [← HQ.out, hu]
    subst e
    clear hu
    go_wp2_with fail
    go_ret
    exact ⟨rfl, Below.down HB.out b1 HB.out.size⟩
end
end Go.Proofs.Ytamhnnkmjhapmaa
