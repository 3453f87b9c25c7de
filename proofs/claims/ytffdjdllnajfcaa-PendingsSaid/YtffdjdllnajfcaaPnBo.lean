/-
  Layer 12's law Pendings: the program's Sets and the document's Pending side by side, call by call.
-/
import Derived.Test.YtffdjdllnajfcaaPAwake
import Derived.Test.YtffdjdllnajfcaaPr2
import Derived.Test.YtffdjdllnajfcaaPr3
import Derived.Test.YtffdjdllnajfcaaPr4
import Derived.Test.YtffdjdllnajfcaaPnForms
import Derived.Test.YtffdjdllnajfcaaPnArgs
namespace Go.Proofs.Ytffdjdllnajfcaa
open Go.RowKit Go.ChangeMaps
set_option linter.unusedVariables false
set_option maxRecDepth 100000

/-- The program's Sets at s (F waits), the document's Pending at r, b (G waits). -/
structure Bo (W0 : World) (s r n b : Nat) (F G : Nat → Bool) (us : List (Value × List Iq)) (fr : List Nat) (w : World) : Prop where
  l : L1 W0 s n F us fr w
  rp : RP w r n b G
  hr : W0.heap.size ≤ r
  hb : W0.heap.size ≤ b
  mr : r ∈ fr
  mb : b ∈ fr

section
variable {W0 w w' : World} {s r n b : Nat} {F F' G G' : Nat → Bool} {us us' : List (Value × List Iq)} {fr : List Nat}
theorem Bo.below (h : Bo W0 s r n b F G us fr w) : Below W0.heap.size W0 w := h.l.below
theorem Bo.next (h : Bo W0 s r n b F G us fr w) (hb : Below w.heap.size w w') : Bo W0 s r n b F G us fr w' := ⟨h.l.next hb, h.rp.below hb h.rp.blk.lt h.rp.row.lt, h.hr, h.hb, h.mr, h.mb⟩
theorem Bo.drewN (h : Bo W0 s r n b F G us fr w) (q : Nat) : Bo W0 s r n b F G us fr (w.drewN q) := h.next (bdrewN (Below.refl _ _) q)
theorem Bo.alloc (h : Bo W0 s r n b F G us fr w) (o : Obj) : Bo W0 s r n b F G us (w.heap.size :: fr) (w.alloc o) := by
  have h2 := h.next ((Below.refl _ w).alloc (Nat.le_refl _) o)
  exact ⟨h.l.alloc o, h2.rp, h.hr, h.hb, List.mem_cons_of_mem _ h.mr, List.mem_cons_of_mem _ h.mb⟩
theorem Bo.drop {fr' : List Nat} (h : Bo W0 s r n b F G us fr w) (h1 : ∀ p ∈ us', p ∈ us) (h2 : ∀ b ∈ fr', b ∈ fr) (mr : r ∈ fr') (mb : b ∈ fr') : Bo W0 s r n b F G us' fr' w := ⟨h.l.drop h1 h2, h.rp, h.hr, h.hb, mr, mb⟩
/-- A call on the program's. -/
theorem Bo.prog (h : Bo W0 s r n b F G us fr w) (l : L1 W0 s n F' us' fr w') (k : Ke fr w w') : Bo W0 s r n b F' G us' fr w' := ⟨l, h.rp.stay (k r h.mr) (k b h.mb), h.hr, h.hb, h.mr, h.mb⟩
theorem Bo.ub (h : Bo W0 s r n b F G us fr w) : ∀ p ∈ us, p.1.ownBlock ≠ some b := fun p hp => own_apart_blk (h.l.held hp) h.rp.row (by decide)
/-- A call on the document's. -/
theorem Bo.doc (h : Bo W0 s r n b F G us fr w) (fo : Fo (fun i => i = b) w w') (rp : RP w' r n b G') : Bo W0 s r n b F G' us fr w' := by
  have hu := h.ub
  obtain ⟨v, xs, O, l⟩ := h.l
  have hfb := l.free b h.mb
  refine ⟨⟨v, xs, O, fun d hd => (l.ps d hd).stay (fun i hi hO => fo.block i hi (fun e => hO (by subst e; exact hfb.2 d hd))) fo.size, l.new, l.dis, fun p hp => ⟨?_, (l.held p hp).2⟩, fun i hi => ⟨Nat.lt_of_lt_of_le (l.free i hi).1 fo.size, (l.free i hi).2⟩, fo.below l.below l.below.size (fun i hi => hi ▸ h.hb)⟩, rp, h.hr, h.hb, h.mr, h.mb⟩
  have hr := (l.held p hp).1
  refine ⟨hr.1, ?_⟩
  rcases hr.2 with h5 | ⟨g, cap, cur, hv, hb, hg, h6⟩
  · exact .inl h5
  · exact .inr ⟨g, cap, cur, hv, hb, (fo.block g (Array.getElem?_eq_some_iff.1 hg).1 (fun e => hu p hp (by rw [hv]; simp [Value.ownBlock]; exact e))).trans hg, h6⟩
theorem Bo.hold {u : Value} {L : List Iq} (h : Bo W0 s r n b F G us fr w) (hb : Below w.heap.size w w') (hr : w'.ownsRow w.heap.size 50 3 u L.length (iqs L)) : Bo W0 s r n b F G ((u, L) :: us) fr w' := by
  have h2 := h.next hb
  refine ⟨?_, h2.rp, h.hr, h.hb, h.mr, h.mb⟩
  obtain ⟨v, xs, O, l⟩ := h.l
  have l2 := l.next hb
  refine ⟨v, xs, O, l2.ps, l2.new, l2.dis, fun p hp => ?_, l2.free, l2.below⟩
  rcases List.mem_cons.1 hp with rfl | hp
  · refine ⟨own_base hr l.below.size, fun d hd i hi => ?_⟩
    rcases Nat.eq_zero_or_pos (d.O i) with e | e
    · exact e
    · have := (l.ps d hd).lt i (by omega)
      have := (hr.lt i hi).1; omega
  · exact l2.held p hp
theorem Bo.nilheld {L : List Iq} (h : Bo W0 s r n b F G us fr w) (hL : L = []) : Bo W0 s r n b F G ((.slice none 0 0, L) :: us) fr w := by
  subst hL
  exact h.hold (Below.refl _ _) ⟨rfl, .inl ⟨rfl, rfl⟩⟩
theorem Bo.spoil {p : Value × List Iq} (h : Bo W0 s r n b F G [p] fr w) (hg : w.grownBy w' p.1.ownBlock) : Bo W0 s r n b F G [] fr w' :=
  ⟨h.l.spoil hg, h.rp.grown hg (fun e => own_apart_blk (h.l.held List.mem_cons_self) h.rp.blk (by decide) e.symm) (fun e => h.ub p List.mem_cons_self e.symm), h.hr, h.hb, h.mr, h.mb⟩
end

/-- Raise's answers. -/
def raV (n : Nat) (P D V : Int) : Bool := hP n P && isP D V
def raI (P D V : Int) : Nat := P.toNat * 32 + (D.toNat * 8 + V.toNat)
def raB (F : Nat → Bool) (n : Nat) (P D V : Int) : Bool := raV n P D V && !F (raI P D V)
def raC (n : Nat) (P D V : Int) : Int := if raV n P D V then 0 else 1200
def raF (F : Nat → Bool) (n : Nat) (P D V : Int) : Nat → Bool := if raV n P D V then putF F (raI P D V) else F
theorem raV_yes {n : Nat} {P D V : Int} (h : raV n P D V = true) : ∃ p d v : Nat, P = (p : Int) ∧ D = (d : Int) ∧ V = (v : Int) ∧ p < n ∧ d < 4 ∧ v < 8 := by
  unfold raV hP isP at h
  simp only [Bool.and_eq_true, decide_eq_true_eq] at h
  exact ⟨P.toNat, D.toNat, V.toNat, by omega, by omega, by omega, by omega, by omega, by omega⟩
theorem raI_nat (p d v : Nat) : raI p d v = p * 32 + (d * 8 + v) := by simp [raI]

section
variable {W0 w : World} {s r n b : Nat} {F G : Nat → Bool} {us : List (Value × List Iq)} {fr : List Nat}
theorem bop_raise (P D V : Int) (h : Bo W0 s r n b F G us fr w) :
    Calls Try.prog 12 #[.pointer (some ⟨s, 0, none⟩), .int .i64 P, .int .i64 D, .int .i64 V] w fun e w' => e = .returned (.tuple #[.bool (raB F n P D V), .int .i64 (raC n P D V)]) ∧ Bo W0 s r n b (raF F n P D V) G us fr w' ∧ Ke fr w w' := by
  cases hv : raV n P D V with
  | true =>
    obtain ⟨p, d, v, rfl, rfl, rfl, hp, hd, hv'⟩ := raV_yes hv
    unfold raB raC raF
    rw [hv, raI_nat]
    refine (l1raise p d v w h.l hp hd hv').mono ?_
    rintro e w' ⟨he, l, k⟩
    exact ⟨by simpa using he, h.prog l k, k⟩
  | false =>
    unfold raB raC raF
    rw [hv]
    refine (l1raise_no P D V w h.l hv).mono ?_
    rintro e w' ⟨he, rfl⟩
    exact ⟨by simpa using he, h, fun _ _ => rfl⟩
theorem bod_raise (P D V : Int) (h : Bo W0 s r n b F G us fr w) :
    Calls Try.prog 13 #[.pointer (some ⟨r, 0, none⟩), .int .i64 P, .int .i64 D, .int .i64 V] w fun e w' => e = .returned (.tuple #[.bool (raB G n P D V), .int .i64 (raC n P D V)]) ∧ Bo W0 s r n b F (raF G n P D V) us fr w' ∧ Fo (fun i => i = b) w w' := by
  cases hv : raV n P D V with
  | true =>
    obtain ⟨p, d, v, rfl, rfl, rfl, hp, hd, hv'⟩ := raV_yes hv
    unfold raB raC raF
    rw [hv, raI_nat]
    refine (rraise_yes r n b G p d v w h.rp hp hd hv').mono ?_
    rintro e w' ⟨he, rp, g⟩
    have fo : Fo (fun i => i = b) w w' := (Fo.refl _ w).grown g (fun i hi => .inl (by injection hi with hi; exact hi.symm))
    exact ⟨by simpa using he, h.doc fo rp, fo⟩
  | false =>
    unfold raB raC raF
    rw [hv]
    refine (rraise_no r n b G P D V w h.rp hv).mono ?_
    rintro e w' ⟨he, rfl⟩
    exact ⟨by simpa using he, h, Fo.refl _ _⟩

/-- Take's answers. -/
def taL (F : Nat → Bool) (n : Nat) (P T : Int) (M : List Iq) : List Iq := if hP n P then tks T (tkL (fun k => F (P.toNat * 32 + k)) M) else []
def taF (F : Nat → Bool) (n : Nat) (P : Int) (M : List Iq) : Nat → Bool := if hP n P then takF F P.toNat M else F
theorem hP_yes {n : Nat} {P : Int} (h : hP n P = true) : ∃ p : Nat, P = (p : Int) ∧ p < n := by
  unfold hP at h
  simp only [decide_eq_true_eq] at h
  exact ⟨P.toNat, by omega, by omega⟩
theorem taL_len (F : Nat → Bool) (n : Nat) (P T : Int) (M : List Iq) : (taL F n P T M).length ≤ 32 := by
  unfold taL
  split
  · rw [tks_len]; unfold tkL; have := List.length_filter_le (fun k => F (P.toNat * 32 + k) && !mkB M k) (List.range 32); simpa using this
  · simp

theorem bop_take (P T : Int) (mv : Value) (M : List Iq) (nM : Nat) (h : Bo W0 s r n b F G us fr w) (hM : Sl w mv nM 3 (iqs M)) (hl : M.length = nM) (hn : nM ≤ 140737488355328) :
    Calls Try.prog 15 #[.pointer (some ⟨s, 0, none⟩), .int .i64 P, .int .i64 T, mv] w fun e w' => ∃ u, e = .returned u ∧ Bo W0 s r n b (taF F n P M) G ((u, taL F n P T M) :: us) fr w' ∧ Ke fr w w' := by
  cases hv : hP n P with
  | true =>
    obtain ⟨p, rfl, hp⟩ := hP_yes hv
    unfold taF taL
    rw [hv, Int.toNat_natCast]
    refine (l1take p T mv M nM w h.l hp hM hl hn).mono ?_
    rintro e w' ⟨u, he, l, k⟩
    exact ⟨u, he, h.prog l k, k⟩
  | false =>
    unfold taF taL
    rw [hv]
    refine (l1take_no P T mv w h.l hv).mono ?_
    rintro e w' ⟨he, rfl⟩
    exact ⟨_, he, h.nilheld rfl, fun _ _ => rfl⟩
theorem bod_take (P T : Int) (mv : Value) (M : List Iq) (nM : Nat) (h : Bo W0 s r n b F G us fr w) (hM : ∀ w', Fo (fun i => i = b) w w' → Sl w' mv nM 3 (iqs M)) (hl : M.length = nM) (hn : nM ≤ 140737488355328) :
    Calls Try.prog 17 #[.pointer (some ⟨r, 0, none⟩), .int .i64 P, .int .i64 T, mv] w fun e w' => ∃ u, e = .returned u ∧ Sl w' u (taL G n P T M).length 3 (iqs (taL G n P T M)) ∧ Bo W0 s r n b F (taF G n P M) us fr w' ∧ Fo (fun i => i = b) w w' := by
  cases hv : hP n P with
  | true =>
    obtain ⟨p, rfl, hp⟩ := hP_yes hv
    unfold taF taL
    rw [hv, Int.toNat_natCast]
    refine (rtake_yes r n b G p T mv M nM w h.rp hp hM hl hn).mono ?_
    rintro e w' ⟨u, he, td⟩
    have hrow := Sl.own td.row
    have e2 : tF G p M 32 = takF G p M := by
      funext i
      unfold tF takF
      by_cases e : i / 32 = p
      · rw [if_pos ⟨e, by omega⟩, if_pos e]
      · rw [if_neg (fun h => e h.1), if_neg e]
    refine ⟨u, he, ?_, h.doc td.fo (by rw [if_pos rfl, ← e2]; exact td.rp), td.fo⟩
    rw [if_pos rfl, tks_len]
    exact hrow
  | false =>
    unfold taF taL
    rw [hv]
    refine (rtake_no r n b G P T mv w h.rp hv).mono ?_
    rintro e w' ⟨he, rfl⟩
    exact ⟨_, he, sl_nil w, h, Fo.refl _ _⟩

theorem bop_clear (D : Int) (h : Bo W0 s r n b F G us fr w) :
    Calls Try.prog 20 #[.pointer (some ⟨s, 0, none⟩), .int .i64 D] w fun e w' => e = .returned (.int .i64 (cntA F D n : Nat)) ∧ Bo W0 s r n b (clF F D n) G us fr w' ∧ Ke fr w w' :=
  (l1clear D w h.l).mono fun e w' ⟨he, l, k⟩ => ⟨he, h.prog l k, k⟩
theorem bod_clear (D : Int) (h : Bo W0 s r n b F G us fr w) :
    Calls Try.prog 21 #[.pointer (some ⟨r, 0, none⟩), .int .i64 D] w fun e w' => e = .returned (.int .i64 (cntA G D n : Nat)) ∧ Bo W0 s r n b F (clF G D n) us fr w' ∧ Fo (fun i => i = b) w w' :=
  (rclear_any r n b G D w h.rp).mono fun e w' ⟨he, rp, g⟩ =>
    have fo : Fo (fun i => i = b) w w' := (Fo.refl _ w).grown g (fun i hi => .inl (by injection hi with hi; exact hi.symm))
    ⟨he, h.doc fo rp, fo⟩
end
end Go.Proofs.Ytffdjdllnajfcaa
