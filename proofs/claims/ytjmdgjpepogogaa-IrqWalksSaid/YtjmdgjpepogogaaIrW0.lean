/-
  Plain words for IrqWalks: the law's plain table beside a Unit's.
-/
import Derived.Test.YtjmdgjpepogogaaIrClears
import Derived.Test.YtjmdgjpepogogaaPr1
namespace Go.Proofs.Ytjmdgjpepogogaa
open Go.RowKit Go.ChangeMaps
set_option linter.unusedVariables false
set_option maxRecDepth 100000

/-- Numbers as cells. -/
def itc (f : Nat → Int) (N : Nat) : List Value := (List.range N).map (fun i => .int .i64 (f i))
theorem itc_len (f : Nat → Int) (N : Nat) : (itc f N).length = N := by simp [itc]
theorem itc_get (f : Nat → Int) (N i : Nat) (h : i < N) : (itc f N)[i]? = some (.int .i64 (f i)) := by
  simp [itc, List.getElem?_map, List.getElem?_range h]
theorem itc_congr {f g : Nat → Int} {N : Nat} (h : ∀ i, i < N → f i = g i) : itc f N = itc g N := by
  unfold itc
  exact List.map_congr_left (fun i hi => by rw [h i (List.mem_range.1 hi)])
/-- One number given. -/
def iF (f : Nat → Int) (k : Nat) (x : Int) : Nat → Int := fun i => if i = k then x else f i
theorem itc_set (f : Nat → Int) (N k : Nat) (x : Int) : (itc f N).set k (.int .i64 x) = itc (iF f k x) N := by
  apply List.ext_getElem?
  intro i
  rw [List.getElem?_set]
  by_cases h : i < N
  · rw [itc_get _ _ _ h, itc_get _ _ _ h, itc_len]
    unfold iF
    by_cases e : k = i
    · subst e; simp [h]
    · rw [if_neg e, if_neg (fun e' => e e'.symm)]
  · rw [List.getElem?_eq_none (by rw [itc_len]; omega), List.getElem?_eq_none (by rw [itc_len]; omega), itc_len]
    by_cases e : k = i
    · subst e; simp [h]
    · rw [if_neg e]

/-- Where a vector of the first device leads (-1: nowhere); is it masked? -/
def toV (T : List Ro) (v : Nat) : Int := if (T.getD v ro0).is then (T.getD v ro0).p else -1
def mV (T : List Ro) (v : Nat) : Bool := (T.getD v ro0).m
/-- The Unit and the law's table are alike; up: what was raised. -/
structure Iw (T : List Ro) (F up : Nat → Bool) : Prop where
  len : T.length = 32
  ent : ∀ v, v < 8 → ((T.getD v ro0).is = true → (T.getD v ro0).p = 0 ∨ (T.getD v ro0).p = 1) ∧ ((T.getD v ro0).m = true → (T.getD v ro0).is = true) ∧ (up v = true → (T.getD v ro0).is = true)
  wait : ∀ p k, p < 2 → k < 32 → F (p * 32 + k) = (decide (k < 8) && up k && decide (toV T k = (p : Int)))
theorem Iw.start : Iw newT noF noF := by
  have h : ∀ v, newT.getD v ro0 = ro0 := fun v => by
    unfold newT
    simp only [List.getD_eq_getElem?_getD, List.getElem?_replicate]
    split <;> rfl
  refine ⟨newT_len, fun v _ => ?_, fun p k _ _ => ?_⟩
  · rw [h]; exact ⟨(fun h => by cases h), (fun h => by cases h), (fun h => by cases h)⟩
  · simp [noF]
section
variable {T : List Ro} {F up : Nat → Bool} {v : Nat}
theorem getD_set8 (T : List Ro) (v i : Nat) (x : Ro) (hl : T.length = 32) (hv : v < 8) : (T.set v x).getD i ro0 = if i = v then x else T.getD i ro0 := by
  simp only [List.getD_eq_getElem?_getD, List.getElem?_set]
  by_cases e : i = v
  · subst e; rw [if_pos rfl, if_pos (by omega), if_pos rfl]; rfl
  · rw [if_neg (fun h => e h.symm), if_neg e]
theorem ix0 (v : Nat) : ixR 0 v = v := by unfold ixR; omega
theorem in0 (hv : v < 8) : inR 1 0 v = true := by unfold inR; simp; omega
theorem at0 (T : List Ro) (v : Nat) : atR T 0 v = T.getD v ro0 := by unfold atR; rw [ix0]
theorem re0 (hv : v < 8) : reC 1 T 0 v = if (T.getD v ro0).is then 0 else 1101 := by unfold reC; rw [in0 hv, at0]; rfl
theorem uu0 (hv : v < 8) : uuC 1 T 0 v = if (T.getD v ro0).is then 0 else 1301 := by
  unfold uuC; rw [re0 hv]; cases (T.getD v ro0).is <;> rfl
theorem toV_set (hl : T.length = 32) (hv : v < 8) (x : Ro) (i : Nat) : toV (T.set v x) i = iF (toV T) v (if x.is then x.p else -1) i := by
  unfold toV iF
  rw [getD_set8 T v i x hl hv]
  by_cases e : i = v
  · rw [if_pos e, if_pos e]
  · rw [if_neg e, if_neg e]
theorem mV_set (hl : T.length = 32) (hv : v < 8) (x : Ro) (i : Nat) : mV (T.set v x) i = bitF (mV T) v x.m i := by
  unfold mV bitF
  rw [getD_set8 T v i x hl hv]
  by_cases e : i = v
  · rw [if_pos e, if_pos e]
  · rw [if_neg e, if_neg e]

/-- Route. -/
theorem Iw.route (h : Iw T F up) (hv : v < 8) (p : Nat) (hp : p < 2) (hu : up v = true → toV T v = p) : Iw (T.set v ⟨true, p, false⟩) F up := by
  refine ⟨by simpa using h.len, fun i hi => ?_, fun q k hq hk => ?_⟩
  · rw [getD_set8 T v i _ h.len hv]
    by_cases e : i = v
    · rw [if_pos e]; exact ⟨fun _ => by show (p : Int) = 0 ∨ (p : Int) = 1; omega, fun h => rfl, fun _ => rfl⟩
    · rw [if_neg e]; exact h.ent i hi
  · rw [h.wait q k hq hk, toV_set h.len hv]
    unfold iF
    by_cases e : k = v
    · subst e
      rw [if_pos rfl]
      cases hk' : up k with
      | false => simp
      | true => rw [hu hk']; rfl
    · rw [if_neg e]
/-- Unroute, where it led somewhere. -/
theorem Iw.unroute (h : Iw T F up) (hv : v < 8) : Iw (T.set v ro0) (gvF F v 2) (bitF up v false) := by
  refine ⟨by simpa using h.len, fun i hi => ?_, fun q k hq hk => ?_⟩
  · rw [getD_set8 T v i _ h.len hv]
    unfold bitF
    by_cases e : i = v
    · rw [if_pos e, if_pos e]; exact ⟨(fun h => by cases h), (fun h => by cases h), (fun h => by cases h)⟩
    · rw [if_neg e, if_neg e]; exact h.ent i hi
  · rw [toV_set h.len hv]
    unfold iF gvF bitF
    by_cases e : k = v
    · subst e
      rw [if_pos (by omega), if_pos rfl]; simp
    · rw [if_neg (by omega), if_neg e, if_neg e]; exact h.wait q k hq hk
theorem Iw.none_ (h : Iw T F up) (hv : v < 8) (hi : (T.getD v ro0).is = false) : toV T v = -1 ∧ mV T v = false ∧ up v = false := by
  obtain ⟨h1, h2, h3⟩ := h.ent v hv
  refine ⟨by unfold toV; rw [hi]; rfl, ?_, ?_⟩
  · unfold mV; cases hm : (T.getD v ro0).m with
    | false => rfl
    | true => have := h2 hm; rw [hi] at this; cases this
  · cases hm : up v with
    | false => rfl
    | true => have := h3 hm; rw [hi] at this; cases this
theorem Iw.some_ (h : Iw T F up) (hv : v < 8) (hi : (T.getD v ro0).is = true) : (toV T v = 0 ∨ toV T v = 1) ∧ toV T v = (T.getD v ro0).p := by
  have e : toV T v = (T.getD v ro0).p := by unfold toV; rw [hi]; rfl
  exact ⟨by rw [e]; exact (h.ent v hv).1 hi, e⟩
/-- Mask, where it leads somewhere. -/
theorem Iw.mask (h : Iw T F up) (hv : v < 8) (m : Bool) (hi : (T.getD v ro0).is = true) : Iw (T.set v { T.getD v ro0 with m := m }) F up := by
  refine ⟨by simpa using h.len, fun i hi' => ?_, fun q k hq hk => ?_⟩
  · rw [getD_set8 T v i _ h.len hv]
    by_cases e : i = v
    · rw [if_pos e]; exact ⟨fun _ => (h.ent v hv).1 hi, fun _ => hi, fun _ => hi⟩
    · rw [if_neg e]; exact h.ent i hi'
  · rw [h.wait q k hq hk, toV_set h.len hv]
    unfold iF
    by_cases e : k = v
    · subst e
      rw [if_pos rfl]; simp only [hi, if_true, (h.some_ hv hi).2]
    · rw [if_neg e]
/-- Raise, where it leads there. -/
theorem Iw.raise_ (h : Iw T F up) (hv : v < 8) (p : Nat) (hp : p < 2) (ht : toV T v = p) : Iw T (putF F (p * 32 + v)) (bitF up v true) := by
  have his : (T.getD v ro0).is = true := by
    cases hi : (T.getD v ro0).is with
    | true => rfl
    | false => have := (h.none_ hv hi).1; omega
  refine ⟨h.len, fun i hi => ?_, fun q k hq hk => ?_⟩
  · obtain ⟨h1, h2, h3⟩ := h.ent i hi
    refine ⟨h1, h2, fun h4 => ?_⟩
    unfold bitF at h4
    by_cases e : i = v
    · rw [e]; exact his
    · rw [if_neg e] at h4; exact h3 h4
  · unfold putF bitF
    by_cases e : k = v
    · subst e
      by_cases e2 : q = p
      · subst e2
        rw [if_pos rfl, if_pos rfl, ht]; simp; omega
      · rw [if_neg (by omega), if_pos rfl, h.wait q k hq hk, ht]
        have : ¬ ((p : Int) = (q : Int)) := by omega
        simp [this]
    · rw [if_neg (by omega), if_neg e]; exact h.wait q k hq hk
/-- Which of the eight are handed over to p. -/
def dwB (T : List Ro) (up : Nat → Bool) (p : Nat) (k : Nat) : Bool := up k && decide (toV T k = (p : Int)) && !mV T k
theorem Iw.mb (h : Iw T F up) (k : Nat) (hk : k < 8) : mB 1 T k = mV T k := by
  unfold mB rlM
  rw [show k / 8 = 0 by omega, show k % 8 = k by omega]
  have hr := re0 (T := T) hk
  have ha := at0 T k
  rw [show ((0 : Nat) : Int) = 0 from rfl, hr, ha]
  unfold mV
  cases hi : (T.getD k ro0).is with
  | true => simp
  | false => have := (h.none_ hk hi).2.1; unfold mV at this; rw [this]; simp
theorem Iw.told (h : Iw T F up) (p : Nat) (hp : p < 2) : dlN 1 T F p = plN (dwB T up p) 8 := by
  have e : dlN 1 T F p = plN (fun k => decide (k < 8) && dwB T up p k) 32 := plN_congr (fun k hk => by
    rw [h.wait p k hp hk]
    unfold dwB
    by_cases h8 : k < 8
    · rw [h.mb k h8, decide_eq_true h8]; simp
    · rw [decide_eq_false h8]; simp)
  rw [e]
  unfold plN
  rw [show List.range 32 = List.range 8 ++ (List.range 24).map (8 + ·) from rfl, List.filter_append]
  rw [show ((List.range 24).map (8 + ·)).filter (fun k => decide (k < 8) && dwB T up p k) = [] by
    rw [List.filter_eq_nil_iff]; intro k hk; obtain ⟨j, _, rfl⟩ := List.mem_map.1 hk; simp; omega, List.append_nil]
  exact List.filter_congr (fun k hk => by rw [decide_eq_true (List.mem_range.1 hk)]; simp)
theorem Iw.deliver (h : Iw T F up) (p : Nat) (hp : p < 2) : Iw T (dlF 1 T F p) (fun k => up k && !dwB T up p k) := by
  refine ⟨h.len, fun i hi => ?_, fun q k hq hk => ?_⟩
  · obtain ⟨h1, h2, h3⟩ := h.ent i hi
    exact ⟨h1, h2, fun h4 => h3 (by simp only [Bool.and_eq_true] at h4; exact h4.1)⟩
  · unfold dlF
    by_cases e : q = p
    · subst e
      rw [if_pos (by omega), show (q * 32 + k) % 32 = k by omega, h.wait q k hq hk]
      by_cases h8 : k < 8
      · rw [h.mb k h8]
        unfold dwB
        cases up k <;> cases mV T k <;> cases decide (toV T k = (q : Int)) <;> simp
      · rw [decide_eq_false h8]; simp
    · rw [if_neg (by omega), h.wait q k hq hk]
      unfold dwB
      by_cases e3 : toV T k = (q : Int)
      · have : ¬ (toV T k = (p : Int)) := by omega
        rw [decide_eq_false this]; simp
      · rw [decide_eq_false e3]; simp
end

/-- The answers and what is left, at a vector of the first device. -/
theorem wroute {T : List Ro} {v p : Nat} (hv : v < 8) (hp : p < 2) : urC 1 2 0 v p = 0 ∧ urT 1 2 T 0 v p = T.set v ⟨true, p, false⟩ := by
  have := ur_ok (D := 1) (n := 2) (T := T) (d := 0) (v := v) (p := p) (by omega) (by omega) (by omega) (by omega)
  rw [ix0] at this; exact this
theorem wun_yes {T : List Ro} {F : Nat → Bool} {v : Nat} (hv : v < 8) (hi : (T.getD v ro0).is = true) : uuC 1 T 0 v = 0 ∧ ruT 1 T 0 v = T.set v ro0 ∧ uuF 1 2 T F 0 v = gvF F v 2 := by
  have hr : reC 1 T 0 v = 0 := by rw [re0 hv, hi]; rfl
  refine ⟨by rw [uu0 hv, hi]; rfl, by unfold ruT; rw [if_pos hr, ix0], by unfold uuF; rw [if_pos hr, ix0]⟩
theorem wun_no {T : List Ro} {F : Nat → Bool} {v : Nat} (hv : v < 8) (hi : (T.getD v ro0).is = false) : uuC 1 T 0 v = 1301 ∧ ruT 1 T 0 v = T ∧ uuF 1 2 T F 0 v = F := by
  have hr : reC 1 T 0 v = 1101 := by rw [re0 hv, hi]; rfl
  refine ⟨by rw [uu0 hv, hi]; rfl, by unfold ruT; rw [hr]; rfl, by unfold uuF; rw [hr]; rfl⟩
theorem wmask_yes {T : List Ro} {v : Nat} (hv : v < 8) (m : Bool) (hi : (T.getD v ro0).is = true) : rmT 1 T 0 v m = T.set v { T.getD v ro0 with m := m } := by
  have hr : reC 1 T 0 v = 0 := by rw [re0 hv, hi]; rfl
  unfold rmT; rw [if_pos hr, ix0, at0]
theorem wmask_no {T : List Ro} {v : Nat} (hv : v < 8) (m : Bool) (hi : (T.getD v ro0).is = false) : rmT 1 T 0 v m = T := by
  have hr : reC 1 T 0 v = 1101 := by rw [re0 hv, hi]; rfl
  unfold rmT; rw [hr]; rfl
theorem wraise_yes {T : List Ro} {F : Nat → Bool} {v p : Nat} (hv : v < 8) (hp : p < 2) (ht : toV T v = p) : uaC 1 2 T 0 v p = 0 ∧ uaF 1 2 T F 0 v p = putF F (p * 32 + v) := by
  have his : (T.getD v ro0).is = true := by
    cases hi : (T.getD v ro0).is with
    | true => rfl
    | false => unfold toV at ht; rw [hi] at ht; simp only [Bool.false_eq_true, if_false] at ht; omega
  have hr : reC 1 T 0 v = 0 := by rw [re0 hv, his]; rfl
  have h1 : hP 2 p = true := by unfold hP; simp; omega
  have h2 : rlP 1 T 0 v = p := by unfold rlP; rw [if_pos hr, at0, ← ht]; unfold toV; rw [his]; rfl
  have hc : uaC 1 2 T 0 v p = 0 := by unfold uaC; rw [h1, hr, h2]; simp
  exact ⟨hc, by unfold uaF; rw [hc, ix0]; rfl⟩
theorem wraise_no {T : List Ro} {F : Nat → Bool} {v p : Nat} (hv : v < 8) (hp : p < 2) (ht : toV T v ≠ p) : uaC 1 2 T 0 v p = 1301 ∧ uaF 1 2 T F 0 v p = F := by
  have h1 : hP 2 p = true := by unfold hP; simp; omega
  have hc : uaC 1 2 T 0 v p = 1301 := by
    unfold uaC
    rw [h1]
    cases hi : (T.getD v ro0).is with
    | true =>
      have hr : reC 1 T 0 v = 0 := by rw [re0 hv, hi]; rfl
      have h2 : rlP 1 T 0 v ≠ p := by unfold rlP; rw [if_pos hr, at0]; unfold toV at ht; rw [hi] at ht; exact ht
      rw [hr]; simp [h2]
    | false =>
      have hr : reC 1 T 0 v = 1101 := by rw [re0 hv, hi]; rfl
      rw [hr]; simp [toC]
  exact ⟨hc, by unfold uaF; rw [hc]; rfl⟩
end Go.Proofs.Ytjmdgjpepogogaa
