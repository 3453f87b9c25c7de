/-
  What the proofs lean on: contracts of the program's functions, plain facts.
-/
import Derived.Test.YtkaalinoiilmoaaGreatViewsW5
import Derived.Test.YtkaalinoiilmoaaGreatChecked
import Derived.Test.YtkaalinoiilmoaaGreatViewsW1
import Derived.Test.YtkaalinoiilmoaaGreatViewsW2
namespace Go.Proofs.YtkaalinoiilmoaaGreat
open Go.RowKit
set_option linter.unusedVariables false
set_option maxRecDepth 100000
def vgB (c : Cf) (o t : Int) (wr : Bool) (g : Gr) : Bool := decide (g.t = t) && ((g.wr || !wr) && memI (c.ps.getD o.toNat paD).fr g.f)
def gtB (c : Cf) (o t : Int) (wr : Bool) : Bool := c.gs.any (vgB c o t wr)
def ldB (c : Cf) (a b : Int) : Bool := lD (c.ps.getD b.toNat paD).lv (c.ps.getD b.toNat paD).ct (c.ps.getD a.toNat paD).lv (c.ps.getD a.toNat paD).ct
def dfB (c : Cf) (a b : Int) : Bool := decide (a = b) || (ldB c a b || (gtB c a b false || gtB c b a true))
inductive Rch (d : Nat → Nat → Bool) (n : Nat) : Nat → Nat → Prop
  | refl (i : Nat) (h : i < n) : Rch d n i i
  | step {i k j : Nat} (h : i < n) (e : d i k = true) (r : Rch d n k j) : Rch d n i j
section
variable {d : Nat → Nat → Bool} {n : Nat}
theorem Rch.lt1 {i j : Nat} (h : Rch d n i j) : i < n := by cases h <;> assumption
theorem Rch.lt2 {i j : Nat} (h : Rch d n i j) : j < n := by
  induction h with
  | refl _ h => exact h
  | step _ _ _ ih => exact ih
theorem Rch.trans {i k j : Nat} (h : Rch d n i k) (r : Rch d n k j) : Rch d n i j := by
  induction h with
  | refl => exact r
  | step h e _ ih => exact .step h e (ih r)
theorem Rch.one {i j : Nat} (hi : i < n) (hj : j < n) (e : d i j = true) : Rch d n i j := .step hi e (.refl j hj)
theorem Rch.snoc {i k j : Nat} (h : Rch d n i k) (hj : j < n) (e : d k j = true) : Rch d n i j := h.trans (.one h.lt2 hj e)
theorem Rch.closed {i j : Nat} (h : Rch d n i j) (P : Nat → Prop) (hP : ∀ a b, a < n → b < n → P b → d a b = true → P a) (hj : P j) : P i := by
  induction h with
  | refl => exact hj
  | step h e r ih => exact hP _ _ h r.lt1 (ih hj) e
theorem Rch.fwd {i j : Nat} (h : Rch d n i j) (P : Nat → Prop) (hP : ∀ a b, a < n → b < n → P a → d a b = true → P b) (hi : P i) : P j := by
  induction h with
  | refl => exact hi
  | step h e r ih => exact ih (hP _ _ h r.lt1 hi e)
theorem Rch.congr {d' : Nat → Nat → Bool} {i j : Nat} (h : Rch d n i j) (e : ∀ a b, a < n → b < n → d a b = d' a b) : Rch d' n i j := by
  induction h with
  | refl _ h => exact .refl _ h
  | step h x r ih => exact .step h ((e _ _ h r.lt1).symm.trans x) ih
end
def dN (c : Cf) (a b : Nat) : Bool := dfB c a b
noncomputable def FL (c : Cf) (i j : Nat) : Bool := @decide (Rch (dN c) c.ps.length i j) (Classical.propDecidable _)
theorem FL_iff {c : Cf} {i j : Nat} : FL c i j = true ↔ Rch (dN c) c.ps.length i j := by unfold FL; exact @decide_eq_true_iff _ (Classical.propDecidable _)
noncomputable def flI (c : Cf) (x : Int) (p : Nat) : Bool := inP c.ps.length x && FL c x.toNat p
noncomputable def flB (c : Cf) (x y : Int) : Bool := cfMay c && (inP c.ps.length y && flI c x y.toNat)
def unf (n : Nat) (F : Nat → Bool) : Nat := ((List.range n).filter (fun i => !F i)).length
theorem unf_le {n : Nat} {F G : Nat → Bool} (h : ∀ i, F i = true → G i = true) : unf n G ≤ unf n F := by
  unfold unf
  rw [← List.countP_eq_length_filter, ← List.countP_eq_length_filter]
  refine List.countP_mono_left (fun i _ hg => ?_)
  cases hf : F i with
  | false => rfl
  | true => rw [h i hf] at hg; cases hg
theorem unf_lt {n : Nat} {F : Nat → Bool} {p : Nat} (hp : p < n) (h : F p = false) : unf n (bitF F p true) < unf n F := by
  induction n with
  | zero => omega
  | succ n ih =>
    unfold unf at *
    rw [List.range_succ, List.filter_append, List.filter_append, List.length_append, List.length_append]
    by_cases e : p = n
    · subst e
      have h1 : (List.range p).filter (fun i => !bitF F p true i) = (List.range p).filter (fun i => !F i) := List.filter_congr (fun i hi => by
        have := List.mem_range.1 hi
        unfold bitF; rw [if_neg (by omega)])
      rw [h1]
      simp [bitF, h]
    · have := ih (by omega)
      have h2 : bitF F p true n = F n := by unfold bitF; rw [if_neg (fun e' => e e'.symm)]
      simp only [List.filter_cons, List.filter_nil, h2] at *
      omega
structure Fd (d : Nat → Nat → Bool) (n p : Nat) (F F' : Nat → Bool) : Prop where
  mono : ∀ i, F i = true → F' i = true
  here : F' p = true
  of : ∀ v, F' v = true → F v = true ∨ (Rch d n v p ∧ ∀ i, i < n → d i v = true → F' i = true)
structure Fw (d : Nat → Nat → Bool) (n p k : Nat) (F G : Nat → Bool) : Prop where
  mono : ∀ i, F i = true → G i = true
  here : G p = true
  of : ∀ v, G v = true → F v = true ∨ v = p ∨ (Rch d n v p ∧ ∀ i, i < n → d i v = true → G i = true)
  done : ∀ i, i < k → d i p = true → G i = true
section
variable {d : Nat → Nat → Bool} {n p k : Nat} {F G G' : Nat → Bool}
theorem Fw.start : Fw d n p 0 F (bitF F p true) := by
  refine ⟨fun i h => ?_, bitF_here _ _ _, fun v h => ?_, fun i h => by omega⟩
  · unfold bitF; split
    · rfl
    · exact h
  · unfold bitF at h
    by_cases e : v = p
    · exact .inr (.inl e)
    · rw [if_neg e] at h; exact .inl h
theorem Fw.skip (h : Fw d n p k F G) (hk : d k p = true → G k = true) : Fw d n p (k + 1) F G :=
  ⟨h.mono, h.here, h.of, fun i hi e => by
    by_cases ei : i = k
    · subst ei; exact hk e
    · exact h.done i (by omega) e⟩
theorem Fw.call (h : Fw d n p k F G) (hp : p < n) (e : d k p = true) (f : Fd d n k G G') : Fw d n p (k + 1) F G' := by
  refine ⟨fun i hi => f.mono i (h.mono i hi), f.mono p h.here, fun v hv => ?_, fun i hi ei => ?_⟩
  · rcases f.of v hv with h1 | ⟨h1, h2⟩
    · rcases h.of v h1 with h3 | h3 | ⟨h3, h4⟩
      · exact .inl h3
      · exact .inr (.inl h3)
      · exact .inr (.inr ⟨h3, fun i hi ei => f.mono i (h4 i hi ei)⟩)
    · exact .inr (.inr ⟨h1.snoc hp e, h2⟩)
  · by_cases e2 : i = k
    · subst e2; exact f.here
    · exact f.mono i (h.done i (by omega) ei)
theorem Fw.end_ (h : Fw d n p n F G) (hp : p < n) : Fd d n p F G :=
  ⟨h.mono, h.here, fun v hv => by
    rcases h.of v hv with h1 | rfl | h1
    · exact .inl h1
    · exact .inr ⟨.refl _ hp, fun i hi e => h.done i hi e⟩
    · exact .inr h1⟩
theorem Fd.all (h : Fd d n p noB G) (v : Nat) : G v = true ↔ Rch d n v p := by
  constructor
  · intro hv
    rcases h.of v hv with h1 | ⟨h1, _⟩
    · cases h1
    · exact h1
  · intro r
    generalize hq : p = q at r
    induction r with
    | refl => subst hq; exact h.here
    | step hi e r ih =>
      have := ih hq
      rcases h.of _ this with h1 | ⟨_, h2⟩
      · cases h1
      · exact h2 _ hi e
end
theorem found_FL {c : Cf} {p : Nat} {G : Nat → Bool} (h : Fd (dN c) c.ps.length p noB G) : G = fun i => FL c i p := by
  funext v
  rw [Bool.eq_iff_iff, h.all v, FL_iff]
structure Hs where
  t : Nat
  O : Nat → Int
  L : Nat → Nat
def hsNew (c : Cf) : Hs := ⟨0, zO (c.ds.map (·.pt)) c.ds.length, noN⟩
noncomputable def hdB (c : Cf) (p : Nat) (h : Hs) (s : Stp) : Bool :=
  if s.k = 3 ∨ s.k = 4 then flI c (aoX c.ds.length h.O h.L s.d) p else if 5 ≤ s.k ∧ s.k ≤ 16 then flI c s.p p else true
def hdS (c : Cf) (h : Hs) (s : Stp) : Hs :=
  if s.k = 1 then (if h.t < 1048575 then ⟨h.t + 1, h.O, atL h.L c.ds.length⟩ else h)
  else if s.k = 2 then ⟨h.t, amO c.ds.length c.ps.length h.O h.L s.d s.a, amL c.ds.length c.ps.length c.qt.toNat h.L s.d s.a⟩ else h
noncomputable def pgL (c : Cf) (p : Nat) : Hs → List Stp → List Stp
  | _, [] => []
  | h, s :: l => (if hdB c p h s then s else stD) :: pgL c p (hdS c h s) l
theorem pgL_len (c : Cf) (p : Nat) : ∀ (l : List Stp) (h : Hs), (pgL c p h l).length = l.length := by
  intro l
  induction l with
  | nil => intro h; rfl
  | cons s l ih => intro h; simp [pgL, ih]
def hdW (c : Cf) (h : Hs) (l : List Stp) : Hs := l.foldl (hdS c) h
theorem pgL_at (c : Cf) (p : Nat) : ∀ (l : List Stp) (h : Hs) (i : Nat), i < l.length → (pgL c p h l).getD i stD = if hdB c p (hdW c h (l.take i)) (l.getD i stD) then l.getD i stD else stD := by
  intro l
  induction l with
  | nil => intro h i hi; simp at hi
  | cons s l ih =>
    intro h i hi
    match i with
    | 0 => rfl
    | i + 1 =>
      have := ih (hdS c h s) i (by simpa using hi)
      simpa [pgL, hdW] using this
theorem hdW_succ (c : Cf) (h : Hs) (l : List Stp) (i : Nat) (hi : i < l.length) : hdW c h (l.take (i + 1)) = hdS c (hdW c h (l.take i)) (l.getD i stD) := by
  unfold hdW
  rw [List.take_succ_eq_append_getElem hi, List.foldl_append]
  simp [List.getD, List.getElem?_eq_getElem hi]
end Go.Proofs.YtkaalinoiilmoaaGreat
namespace Go.Proofs.YtkaalinoiilmoaaGreat
open Go.RowKit
set_option linter.unusedVariables false
set_option maxRecDepth 100000
def rgB (c : Cf) (a b : Int) (g : Gr) : Bool := (decide (ownF c g.f = a) && decide (g.t = b)) || (decide (ownF c g.f = b) && (decide (g.t = a) && g.wr))
def rdB_V (c : Cf) (a b : Int) : Bool := (decide (a = b) || ldB c a b) || c.gs.any (rgB c a b)
theorem any_or {α : Type} (l : List α) (p q : α → Bool) : (l.any p || l.any q) = l.any (fun x => p x || q x) := by
  induction l with
  | nil => rfl
  | cons x l ih =>
    simp only [List.any_cons, ← ih]
    cases p x <;> cases q x <;> simp
theorem cfMay_un {c : Cf} (h : cfMay c = true) : unB c = true := by
  unfold cfMay at h
  simp only [Bool.and_eq_true] at h
  exact h.2.2.2.1
theorem rd_dN {c : Cf} (h : cfMay c = true) {i j : Nat} (hi : i < c.ps.length) (hj : j < c.ps.length) : rdB_V c i j = dN c i j := by
  unfold rdB_V dN dfB gtB
  rw [Bool.or_assoc, any_or]
  congr 2
  have e : rgB c i j = fun g => vgB c i j false g || vgB c j i true g := by
    funext g
    unfold rgB vgB memI
    simp only [Int.toNat_natCast]
    rw [own_part (cfMay_un h) i g.f hi, own_part (cfMay_un h) j g.f hj]
    cases decide (g.t = (j : Int)) <;> cases decide (g.t = (i : Int)) <;> cases decide (ownF c g.f = (i : Int)) <;> cases decide (ownF c g.f = (j : Int)) <;> cases g.wr <;> rfl
  rw [e]
section
variable {d : Nat → Nat → Bool} {n a : Nat} {F G : Nat → Bool}
def Clo (d : Nat → Nat → Bool) (n : Nat) (F : Nat → Bool) : Prop := ∀ v u, v < n → u < n → F v = true → d v u = true → F u = true
structure Fnd (d : Nat → Nat → Bool) (n a k : Nat) (F : Nat → Bool) : Prop where
  here : F a = true
  of : ∀ u, F u = true → Rch d n a u
  k : Clo d n F ∨ unf n F + k + 1 ≤ n
structure Rnd (d : Nat → Nat → Bool) (n i j : Nat) (F G : Nat → Bool) : Prop where
  mono : ∀ u, F u = true → G u = true
  of : ∀ u, G u = true → F u = true ∨ (u < n ∧ ∃ v, F v = true ∧ Rch d n v u)
  done : ∀ v u, v < i → u < n → F v = true → d v u = true → G u = true
  part : ∀ u, u < j → F i = true → d i u = true → G u = true
theorem Rnd.start : Rnd d n 0 0 F F := ⟨fun _ h => h, fun _ h => .inl h, fun v u h => by omega, fun u h => by omega⟩
theorem Rnd.row {i : Nat} (h : Rnd d n i n F G) : Rnd d n (i + 1) 0 F G := ⟨h.mono, h.of, fun v u hv hu hf hd => by
  by_cases e : v = i
  · subst e; exact h.part u hu hf hd
  · exact h.done v u (by omega) hu hf hd, fun u h => by omega⟩
theorem bitF_more {k u : Nat} {b : Bool} (hb : G k = true → b = true) (h : G u = true) : bitF G k b u = true := by
  unfold bitF; split
  · next e => subst e; exact hb h
  · exact h
theorem Rnd.step {i j : Nat} (h : Rnd d n i j F G) (hi : i < n) (hj : j < n) (b : Bool) (hb : b = (G j || (G i && d i j))) : Rnd d n i (j + 1) F (bitF G j b) := by
  have hm : ∀ u, G u = true → bitF G j b u = true := fun u hu => bitF_more (fun e => by rw [hb, e]; rfl) hu
  refine ⟨fun u hu => hm u (h.mono u hu), fun u hu => ?_, fun v u hv hu hf hd => hm u (h.done v u hv hu hf hd), fun u hu hf hd => ?_⟩
  · by_cases e : u = j
    · subst e
      rw [bitF_here, hb] at hu
      cases hg : G u with
      | true => exact h.of u hg
      | false =>
        rw [hg, Bool.false_or, Bool.and_eq_true] at hu
        refine .inr ⟨hj, ?_⟩
        rcases h.of i hu.1 with h1 | ⟨_, v, hv, r⟩
        · exact ⟨i, h1, .one hi hj hu.2⟩
        · exact ⟨v, hv, r.snoc hj hu.2⟩
    · have : G u = true := by unfold bitF at hu; rwa [if_neg e] at hu
      exact h.of u this
  · by_cases e : u = j
    · subst e
      rw [bitF_here, hb, h.mono i hf, hd]; simp
    · exact hm u (h.part u (by omega) hf hd)
theorem unf_less {u : Nat} (hm : ∀ v, F v = true → G v = true) (hu : u < n) (h0 : F u = false) (h1 : G u = true) : unf n G < unf n F := by
  refine Nat.lt_of_le_of_lt (unf_le (F := bitF F u true) (fun v hv => ?_)) (unf_lt hu h0)
  unfold bitF at hv
  by_cases e : v = u
  · subst e; exact h1
  · rw [if_neg e] at hv; exact hm v hv
theorem Fnd.start (ha : a < n) : Fnd d n a 0 (bitF noB a true) := by
  refine ⟨bitF_here _ _ _, fun u hu => ?_, .inr ?_⟩
  · unfold bitF at hu
    by_cases e : u = a
    · subst e; exact .refl _ ha
    · rw [if_neg e] at hu; cases hu
  · have h1 := unf_lt (F := noB) ha rfl
    have h2 : unf n noB ≤ n := by unfold unf; exact Nat.le_trans (List.length_filter_le _ _) (by rw [List.length_range]; exact Nat.le_refl _)
    omega
theorem Fnd.next {k : Nat} (h : Fnd d n a k F) (r : Rnd d n n 0 F G) : Fnd d n a (k + 1) G := by
  refine ⟨r.mono a h.here, fun u hu => ?_, ?_⟩
  · rcases r.of u hu with h1 | ⟨_, v, hv, q⟩
    · exact h.of u h1
    · exact (h.of v hv).trans q
  · by_cases hc : Clo d n F
    · refine .inl (fun v u hv hu hg hd => r.mono u ?_)
      have hf : F v = true := by
        rcases r.of v hg with h1 | ⟨_, x, hx, q⟩
        · exact h1
        · exact q.fwd (fun y => F y = true) (fun p q hp hq hP hd => hc p q hp hq hP hd) hx
      exact hc v u hv hu hf hd
    · refine .inr ?_
      have hk := h.k.resolve_left hc
      unfold Clo at hc
      obtain ⟨v, hc⟩ := Classical.not_forall.1 hc
      obtain ⟨u, hc⟩ := Classical.not_forall.1 hc
      simp only [Classical.not_imp] at hc
      obtain ⟨hv, hu, hf, hd, hn⟩ := hc
      have := unf_less (n := n) r.mono hu (by simpa using hn) (r.done v u hv hu hf hd)
      omega
theorem Fnd.all {k : Nat} (h : Fnd d n a k F) (hk : n ≤ k) (u : Nat) : F u = true ↔ Rch d n a u := by
  have hc := h.k.resolve_right (by omega)
  exact ⟨h.of u, fun r => r.fwd (fun y => F y = true) (fun p q hp hq hP hd => hc p q hp hq hP hd) h.here⟩
end
end Go.Proofs.YtkaalinoiilmoaaGreat
namespace Go.Proofs.YtkaalinoiilmoaaGreat
open Go.RowKit
set_option linter.unusedVariables false
set_option linter.unusedSimpArgs false
set_option maxRecDepth 100000
set_option maxHeartbeats 1000000 in
theorem if_Vg (A : Option Addr) (b o n cap : Nat) (a0 a1 a2 a3 : Nat) (c0 c1 c2 : Nat → Value) (p : Nat → Bool) (S : Nat → Prop) (I : Nat → World → Prop) (w : World) (hn : n ≤ maxLen) (hA : 0 < n → A = some ⟨b, o, none⟩)
    (hr : ∀ i W, i < n → I i W → W.cell? ⟨b, o + i * 3, none⟩ = some (c0 i) ∧ W.cell? ⟨b, o + i * 3 + 1, none⟩ = some (c1 i) ∧ W.cell? ⟨b, o + i * 3 + 2, none⟩ = some (c2 i))
    (hG : ∀ i W, i < n → (∀ j, j < i → p j = false) → I i W → Calls Tryz.prog 92 #[(.agg #[c0 i, c1 i, c2 i]), .pointer (some ⟨a0, 0, none⟩), .pointer (some ⟨a1, 0, none⟩), .pointer (some ⟨a2, 0, none⟩), .pointer (some ⟨a3, 0, none⟩)] W fun e w' => e = .returned (.bool (p i)) ∧ I (i + 1) w' ∧ Fo S W w') (h0 : I 0 w) :
    Calls Tryz.prog 106 #[.slice A n cap, .func (.func 92) #[] #[.pointer (some ⟨a0, 0, none⟩), .pointer (some ⟨a1, 0, none⟩), .pointer (some ⟨a2, 0, none⟩), .pointer (some ⟨a3, 0, none⟩)]] w fun e w' => ∃ r : Int, e = .returned (.int .i64 r) ∧ decide (r ≥ 0) = (List.range n).any p ∧ (∃ k, k ≤ n ∧ I k w' ∧ (r < 0 → k = n)) ∧ Fo S w w' := by
  have HA := Lib.hid hA; have HR := Lib.hid hr; have HG := Lib.hid hG; have H0 := Lib.hid h0
  unfold maxLen at hn
  clear hA hr hG h0
  go_enter Tryz.func106, Tryz.ntmps106
  go_wp2_with fail
  go_loopw [8] (fun i wr => ∃ k : Nat, k ≤ n ∧ i = .int .i64 k ∧ Hid ((∀ j, j < k → p j = false) ∧ I k wr ∧ Fo S w wr)) (fun i _ => n - (intOf i).toNat)
  case atStart => exact ⟨0, by omega, rfl, Lib.hid ⟨fun j hj => by omega, H0.out, Fo.refl _ _⟩⟩
  case round =>
    obtain ⟨k, hk, rfl, HX⟩ := hrel
    by_cases hlt : k < n
    · obtain rfl := HA.out (by omega)
      obtain ⟨x0, x1, x2⟩ := HR.out k wr hlt HX.out.2.1
      have HC := Lib.hid (HG.out k wr hlt HX.out.1 HX.out.2.1)
      generalize c0 k = e0 at * ; generalize c1 k = e1 at * ; generalize c2 k = e2 at *
      go_wp2_with fail
      refine HC.out.mono ?_
      rintro e w1 ⟨rfl, hi, hf⟩
      have HI := Lib.hid hi
      have HF := Lib.hid (HX.out.2.2.trans hf)
      clear x0 x1 x2 hi hf
      cases hp : p k with
      | true =>
        have HP := Lib.hid hp
        clear hp
        go_wp2_with fail
        go_ret
        exact ⟨_, rfl, (by rw [range_any_yes hlt HP.out]; exact decide_eq_true (by omega)), ⟨k + 1, by omega, HI.out, fun h => by omega⟩, HF.out⟩
      | false =>
        have HP := Lib.hid hp
        clear hp
        go_wp2_with fail
        go_roundw
        case rel => exact ⟨k + 1, by omega, by go_num, Lib.hid ⟨fun j hj => by
          by_cases e : j = k
          · rw [e]; exact HP.out
          · exact HX.out.1 j (by omega), HI.out, HF.out⟩⟩
        case measure => simp [intOf]; omega
    · obtain rfl : k = n := by omega
      go_wp2_with fail
      go_ret
      exact ⟨_, rfl, (by rw [range_any_no HX.out.1]; rfl), ⟨k, by omega, HX.out.2.1, fun _ => rfl⟩, HX.out.2.2⟩
theorem cf_Vg (A : Option Addr) (b o n cap : Nat) (a0 a1 a2 a3 : Nat) (c0 c1 c2 : Nat → Value) (p : Nat → Bool) (S : Nat → Prop) (I : Nat → World → Prop) (w : World) (hn : n ≤ maxLen) (hA : 0 < n → A = some ⟨b, o, none⟩)
    (hr : ∀ i W, i < n → I i W → W.cell? ⟨b, o + i * 3, none⟩ = some (c0 i) ∧ W.cell? ⟨b, o + i * 3 + 1, none⟩ = some (c1 i) ∧ W.cell? ⟨b, o + i * 3 + 2, none⟩ = some (c2 i))
    (hG : ∀ i W, i < n → (∀ j, j < i → p j = false) → I i W → Calls Tryz.prog 92 #[(.agg #[c0 i, c1 i, c2 i]), .pointer (some ⟨a0, 0, none⟩), .pointer (some ⟨a1, 0, none⟩), .pointer (some ⟨a2, 0, none⟩), .pointer (some ⟨a3, 0, none⟩)] W fun e w' => e = .returned (.bool (p i)) ∧ I (i + 1) w' ∧ Fo S W w') (h0 : I 0 w) :
    Calls Tryz.prog 91 #[.slice A n cap, .func (.func 92) #[] #[.pointer (some ⟨a0, 0, none⟩), .pointer (some ⟨a1, 0, none⟩), .pointer (some ⟨a2, 0, none⟩), .pointer (some ⟨a3, 0, none⟩)]] w fun e w' => e = .returned (.bool ((List.range n).any p)) ∧ Upto n I w' (!(List.range n).any p) ∧ Fo S w w' := by
  have HC := Lib.hid (if_Vg A b o n cap a0 a1 a2 a3 c0 c1 c2 p S I w hn hA hr hG h0)
  clear hA hr hG h0
  generalize (List.range n).any p = R at *
  go_enter Tryz.func91, Tryz.ntmps91
  go_wp2_with fail
  refine HC.out.mono ?_
  rintro e w1 ⟨r, rfl, hr, hi, hf⟩
  have HI := Lib.hid hi; have HF := Lib.hid hf
  clear hi hf
  cases R
  all_goals
    go_wp2_with fail
    go_ret
  · refine ⟨rfl, ?_, HF.out⟩
    obtain ⟨k, hk, h1, h2⟩ := HI.out
    exact ⟨k, hk, h1, fun _ => h2 (by have := of_decide_eq_false hr; omega)⟩
  · refine ⟨rfl, ?_, HF.out⟩
    obtain ⟨k, hk, h1, h2⟩ := HI.out
    exact ⟨k, hk, h1, fun h => by cases h⟩
end Go.Proofs.YtkaalinoiilmoaaGreat
