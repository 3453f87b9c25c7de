/-
  Plain words of layer 17: descriptors in a row, a ring's chain, which buffers may be reached. No Go function here.
-/
import Derived.Test.YtcjmgjdejljjkaaDe0
import Derived.Test.YtcjmgjdejljjkaaBitc
namespace Go.Proofs.Ytcjmgjdejljjkaa
open Go.RowKit
set_option linter.unusedVariables false
set_option maxRecDepth 100000

/-- A descriptor. -/
structure Ds where
  o : Int
  x : Int
  l : Int
  b : Int
  n : Int
instance : Inhabited Ds := ⟨⟨0, 0, 0, 0, 0⟩⟩
/-- Its numbers. -/
def ds5 (d : Ds) : List Int := [d.o, d.x, d.l, d.b, d.n]
/-- A row's numbers. -/
def dss (l : List Ds) : List Int := l.flatMap ds5
/-- May it be? -/
def deD (d : Ds) : Bool := deB d.o d.x d.l d.b d.n

theorem dss_nil : dss [] = [] := rfl
theorem dss_cons (x : Ds) (l : List Ds) : dss (x :: l) = x.o :: x.x :: x.l :: x.b :: x.n :: dss l := by simp [dss, ds5]
theorem dss_append (l m : List Ds) : dss (l ++ m) = dss l ++ dss m := by simp [dss, List.flatMap_append]
theorem dss_one (x : Ds) : dss [x] = [x.o, x.x, x.l, x.b, x.n] := by simp [dss, ds5]
theorem dss_len (l : List Ds) : (dss l).length = l.length * 5 := by
  induction l with
  | nil => rfl
  | cons x l ih => rw [dss_cons]; simp only [List.length_cons, ih]; omega
theorem dss_get (l : List Ds) : ∀ i (h : i < l.length), (dss l)[i * 5]? = some l[i].o ∧ (dss l)[i * 5 + 1]? = some l[i].x ∧ (dss l)[i * 5 + 2]? = some l[i].l ∧ (dss l)[i * 5 + 3]? = some l[i].b ∧ (dss l)[i * 5 + 4]? = some l[i].n := by
  induction l with
  | nil => intro i h; simp at h
  | cons x l ih =>
    intro i h
    match i with
    | 0 => rw [dss_cons]; simp
    | i + 1 =>
      have := ih i (by simpa using h)
      rw [dss_cons, show (i + 1) * 5 = i * 5 + 5 by omega]
      simpa using this
/-- Any row of fives is one of descriptors. -/
theorem dss_of (n : Nat) : ∀ zs : List Int, zs.length = n * 5 → ∃ l : List Ds, zs = dss l ∧ l.length = n := by
  induction n with
  | zero => intro zs h; exact ⟨[], List.length_eq_zero_iff.1 (by simpa using h), rfl⟩
  | succ n ih =>
    intro zs h
    match zs, h with
    | a :: b :: c :: d :: e :: zs, h =>
      obtain ⟨l, rfl, hl⟩ := ih zs (by simp at h; omega)
      exact ⟨⟨a, b, c, d, e⟩ :: l, by rw [dss_cons], by simp [hl]⟩
    | [], h => simp at h
    | [_], h => simp at h; omega
    | [_, _], h => simp at h; omega
    | [_, _, _], h => simp at h; omega
    | [_, _, _, _], h => simp at h; omega

/-- A descriptor's five cells in a slice that reads as a row. -/
theorem ds_at {w : World} {A : Option Addr} {n c : Nat} {l : List Ds} (h : Sl w (.slice A n c) n 5 (ints (dss l))) (hl : l.length = n) (k : Nat) (hk : k < l.length) :
    ∃ b o, A = some ⟨b, o, none⟩ ∧ b < w.heap.size ∧ w.cell? ⟨b, o + k * 5, none⟩ = some (.int .i64 l[k].o) ∧ w.cell? ⟨b, o + k * 5 + 1, none⟩ = some (.int .i64 l[k].x) ∧ w.cell? ⟨b, o + k * 5 + 2, none⟩ = some (.int .i64 l[k].l) ∧ w.cell? ⟨b, o + k * 5 + 3, none⟩ = some (.int .i64 l[k].b) ∧ w.cell? ⟨b, o + k * 5 + 4, none⟩ = some (.int .i64 l[k].n) := by
  obtain ⟨A', c', e, _, hxl, hA⟩ := h
  simp only [Value.slice.injEq] at e
  obtain ⟨rfl, _, rfl⟩ := e
  obtain ⟨b, o, rfl, hb, hcell⟩ := hA (by omega)
  have g := dss_get l k hk
  have key : ∀ j x, (dss l)[j]? = some x → w.cell? ⟨b, o + j, none⟩ = some (.int .i64 x) := fun j x hx => hcell j _ (by simp [ints, hx])
  refine ⟨b, o, rfl, hb, key _ _ g.1, ?_, ?_, ?_, ?_⟩
  · rw [Nat.add_assoc]; exact key _ _ g.2.1
  · rw [Nat.add_assoc]; exact key _ _ g.2.2.1
  · rw [Nat.add_assoc]; exact key _ _ g.2.2.2.1
  · rw [Nat.add_assoc]; exact key _ _ g.2.2.2.2
theorem ints_one1 (fs : List Int) : ∀ u ∈ ints fs, u.oneCell' = true := by intro u hu; obtain ⟨x, _, rfl⟩ := List.mem_map.1 hu; rfl

/-- The bytes of a ring's place. -/
def plB (t : List UInt8) (i : Nat) : List UInt8 := (t.drop (8 * i)).take 8
theorem plB_len (t : List UInt8) (i : Nat) (h : t.length = 64) (hi : i < 8) : (plB t i).length = 8 := by unfold plB; simp; omega
/-- What stands there. -/
def plD (t : List UInt8) (i : Nat) : Ds := ⟨fo (plB t i), fx (plB t i), fl (plB t i), fb (plB t i), fn (plB t i)⟩

/-- How many places have come. -/
def cnt (S : Nat → Bool) : Nat := ((List.range 8).filter S).length
theorem cnt_all {S : Nat → Bool} (h : cnt S = 8) (k : Nat) (hk : k < 8) : S k = true := by
  have h1 : ((List.range 8).filter S).length = (List.range 8).length := by rw [List.length_range]; exact h
  have := List.filter_eq_self.1 ((List.filter_sublist (p := S) (l := List.range 8)).eq_of_length h1)
  exact this k (List.mem_range.2 hk)
theorem cnt_no : cnt noB = 0 := by decide
theorem filt_succ (S : Nat → Bool) (m : Nat) : ((List.range (m + 1)).filter S).length = ((List.range m).filter S).length + (if S m then 1 else 0) := by
  rw [List.range_succ, List.filter_append, List.length_append]
  congr 1
  cases h : S m <;> simp [h]
theorem filt_put {S : Nat → Bool} {k : Nat} (h : S k = false) (m : Nat) : ((List.range m).filter (bitF S k true)).length = ((List.range m).filter S).length + (if k < m then 1 else 0) := by
  induction m with
  | zero => simp
  | succ m ih =>
    rw [filt_succ, filt_succ, ih]
    by_cases e : m = k
    · subst e
      rw [bitF_here, h, if_neg (show ¬ m < m by omega), if_pos (show m < m + 1 by omega)]
      simp
    · have : bitF S k true m = S m := by unfold bitF; rw [if_neg e]
      rw [this]
      by_cases hk : k < m
      · rw [if_pos hk, if_pos (show k < m + 1 by omega)]; omega
      · rw [if_neg hk, if_neg (show ¬ k < m + 1 by omega)]; omega
theorem cnt_put {S : Nat → Bool} {k : Nat} (hk : k < 8) (h : S k = false) : cnt (bitF S k true) = cnt S + 1 := by
  unfold cnt; rw [filt_put h, if_pos hk]

/-- The chain from a place on: which places have come, what is in it so far; f: how many have not come. -/
def chn (t : List UInt8) : Nat → Nat → (Nat → Bool) → List Ds → Int × List Ds
  | 0, a, _, acc => if a = 255 then (0, acc) else (1702, [])
  | f + 1, a, S, acc => if a = 255 then (0, acc) else if S a then (1702, []) else if dgB (plB t a) then chn t f (plD t a).x.toNat (bitF S a true) (acc ++ [plD t a]) else (1700, [])

theorem chn_end (t : List UInt8) (f : Nat) (S : Nat → Bool) (acc : List Ds) : chn t f 255 S acc = (0, acc) := by cases f <;> rfl
theorem chn_cyc {t : List UInt8} {f a : Nat} {S : Nat → Bool} {acc : List Ds} (h : a ≠ 255) (hS : S a = true) : chn t f a S acc = (1702, []) := by
  cases f with
  | zero => unfold chn; rw [if_neg h]
  | succ f => unfold chn; rw [if_neg h, if_pos hS]
theorem chn_fuel {f a : Nat} {S : Nat → Bool} (hf : f + cnt S = 8) (ha : a < 8) (hS : S a = false) : ∃ f', f = f' + 1 := by
  cases f with
  | zero => rw [cnt_all (S := S) (by omega) a ha] at hS; cases hS
  | succ f => exact ⟨f, rfl⟩
theorem chn_form {t : List UInt8} {f a : Nat} {S : Nat → Bool} {acc : List Ds} (hf : f + cnt S = 8) (ha : a < 8) (hS : S a = false) (hd : dgB (plB t a) = false) : chn t f a S acc = (1700, []) := by
  obtain ⟨f, rfl⟩ := chn_fuel hf ha hS
  unfold chn
  rw [if_neg (by omega), hS, hd]
  rfl
theorem chn_next {t : List UInt8} {f a : Nat} {S : Nat → Bool} {acc : List Ds} (hf : f + cnt S = 8) (ha : a < 8) (hS : S a = false) (hd : dgB (plB t a) = true) :
    ∃ f', f' + 1 = f ∧ f' + cnt (bitF S a true) = 8 ∧ chn t f a S acc = chn t f' (plD t a).x.toNat (bitF S a true) (acc ++ [plD t a]) := by
  obtain ⟨f, rfl⟩ := chn_fuel hf ha hS
  refine ⟨f, rfl, by rw [cnt_put ha hS]; omega, ?_⟩
  rw [chn, if_neg (by omega), hS, hd]
  rfl
/-- Where a descriptor leads. -/
theorem next_of {t : List UInt8} (h : dgB t = true) : ∃ a : Nat, fx t = (a : Int) ∧ (fx t).toNat = a ∧ (a < 8 ∨ a = 255) := by
  rcases dg_ways t with ⟨h', _⟩ | ⟨h', _⟩ | ⟨h', _⟩ | ⟨_, hl, h7, hd⟩
  · rw [h] at h'; cases h'
  · rw [h] at h'; cases h'
  · rw [h] at h'; cases h'
  · have := (de_iff ..).1 hd
    exact ⟨(fx t).toNat, by omega, rfl, by omega⟩

/-- What Chain answers. -/
def riP (t : List UInt8) (h : Int) : Int × List Ds := if t.length = 64 then (if 0 ≤ h ∧ h < 8 then chn t 8 h.toNat noB [] else (1701, [])) else (1700, [])
def riC (t : List UInt8) (h : Int) : Int := (riP t h).1
def riL (t : List UInt8) (h : Int) : List Ds := (riP t h).2
theorem riP_len {t : List UInt8} {h : Int} (hl : t.length ≠ 64) : riP t h = (1700, []) := by unfold riP; rw [if_neg hl]
theorem riP_head {t : List UInt8} {h : Int} (hl : t.length = 64) (hh : ¬ (0 ≤ h ∧ h < 8)) : riP t h = (1701, []) := by unfold riP; rw [if_pos hl, if_neg hh]
theorem riP_at {t : List UInt8} {h : Nat} (hl : t.length = 64) (hh : h < 8) : riP t h = chn t 8 h noB [] := by unfold riP; rw [if_pos hl, if_pos (by omega)]; rfl

/-- A list of descriptors that is in the chain stays ahead. -/
theorem chn_ahead (t : List UInt8) (f : Nat) : ∀ a S acc, (chn t f a S acc).1 = 0 → ∃ r, (chn t f a S acc).2 = acc ++ r ∧ (a ≠ 255 → r ≠ []) := by
  induction f with
  | zero =>
    intro a S acc
    unfold chn
    by_cases ha : a = 255
    · rw [if_pos ha]; intro _; exact ⟨[], by simp, fun h => absurd ha h⟩
    · rw [if_neg ha]; intro h; simp at h
  | succ f ih =>
    intro a S acc
    unfold chn
    by_cases ha : a = 255
    · rw [if_pos ha]; intro _; exact ⟨[], by simp, fun h => absurd ha h⟩
    · rw [if_neg ha]
      cases S a with
      | true => intro h; simp at h
      | false =>
        cases hd : dgB (plB t a) with
        | false => intro h; simp at h
        | true =>
          intro h
          obtain ⟨r, h1, _⟩ := ih _ _ _ h
          exact ⟨plD t a :: r, by simp [h1], fun _ => by simp⟩
/-- The codes, and what stands beside them. -/
theorem chn_code (t : List UInt8) (f : Nat) : ∀ a S acc, acc.length + f ≤ 8 → ((chn t f a S acc).1 = 0 ∨ ((chn t f a S acc).1 = 1700 ∨ (chn t f a S acc).1 = 1702) ∧ (chn t f a S acc).2 = []) ∧ (chn t f a S acc).2.length ≤ 8 := by
  induction f with
  | zero =>
    intro a S acc hl
    unfold chn
    by_cases ha : a = 255
    · rw [if_pos ha]; exact ⟨.inl rfl, by simpa using hl⟩
    · rw [if_neg ha]; exact ⟨.inr ⟨.inr rfl, rfl⟩, by simp⟩
  | succ f ih =>
    intro a S acc hl
    unfold chn
    by_cases ha : a = 255
    · rw [if_pos ha]; exact ⟨.inl rfl, by simp; omega⟩
    · rw [if_neg ha]
      cases S a with
      | true => exact ⟨.inr ⟨.inr rfl, rfl⟩, by simp⟩
      | false =>
        cases hd : dgB (plB t a) with
        | false => exact ⟨.inr ⟨.inl rfl, rfl⟩, by simp⟩
        | true => exact ih _ _ _ (by simp; omega)
theorem riL_len (t : List UInt8) (h : Int) : (riL t h).length ≤ 8 := by
  unfold riL riP
  split
  · split
    · exact (chn_code t 8 _ _ _ (by simp)).2
    · simp
  · simp

/-- The bytes of a ring's place, out of the ring. -/
theorem ext_list (s : ByteArray) (a b : Nat) : (s.extract a b).data.toList = (s.data.toList.drop a).take (b - a) := by
  rw [ByteArray.data_extract, Array.toList_extract, List.extract_eq_take_drop]
theorem ext_pl (s : ByteArray) (i : Nat) : (s.extract (8 * i) (8 * i + 8)).data.toList = plB s.data.toList i := by
  rw [ext_list]; unfold plB; congr 1; omega

/-- Are all the frames of these pieces among them? -/
def okF (fs : List Int) (ps : List (Nat × Nat × Nat)) : Bool := ps.all (fun p => fs.contains (p.1 : Int))
/-- May a buffer of n sectors from b on be reached? -/
def bufB (b n : Int) (fs : List Int) : Bool := decide (b + n * 16 ≤ 4096) && okF fs (spl b.toNat (n * 16).toNat)
def e17 (b : Bool) : Int := if b then 0 else 1703
/-- What is wrong with one descriptor. -/
def oneC (d : Ds) (rs ws : List Int) : Int :=
  if deD d && decide (1 ≤ d.n) && decide (d.n ≤ 4) then (if d.o = 1 then e17 (bufB d.b d.n rs) else if d.o = 0 then e17 (bufB d.b d.n ws) else 0) else 1700
/-- .. with some. -/
def ckC : List Ds → List Int → List Int → Int
  | [], _, _ => 0
  | d :: l, rs, ws => if oneC d rs ws = 0 then ckC l rs ws else oneC d rs ws
theorem ck_step (l : List Ds) (rs ws : List Int) : ∀ k (h : k < l.length), ckC (l.drop k) rs ws = if oneC l[k] rs ws = 0 then ckC (l.drop (k + 1)) rs ws else oneC l[k] rs ws := by
  intro k h
  rw [List.drop_eq_getElem_cons h]
  rfl
theorem ck_end (l : List Ds) (rs ws : List Int) (k : Nat) (h : l.length ≤ k) : ckC (l.drop k) rs ws = 0 := by rw [List.drop_eq_nil_of_le h]; rfl
theorem okF_step (fs : List Int) (ps : List (Nat × Nat × Nat)) (k : Nat) (h : k < ps.length) : okF fs (ps.drop k) = (fs.contains (ps[k].1 : Int) && okF fs (ps.drop (k + 1))) := by
  rw [List.drop_eq_getElem_cons h]
  unfold okF
  rw [List.all_cons]
theorem okF_end (fs : List Int) (ps : List (Nat × Nat × Nat)) (k : Nat) (h : ps.length ≤ k) : okF fs (ps.drop k) = true := by rw [List.drop_eq_nil_of_le h]; rfl

/-- A set of frames as bits: those of the first k. -/
def setB (fs : List Int) (F : Nat → Bool) : Prop := ∀ i : Nat, i < 64 → F i = fs.contains (i : Int)
theorem setB_nil : setB [] noB := fun i _ => rfl
theorem take_succ (fs : List Int) (k : Nat) (h : k < fs.length) : fs.take (k + 1) = fs.take k ++ [fs.getD k 0] := by
  rw [List.take_add_one, List.getElem?_eq_getElem h]; simp [List.getD, List.getElem?_eq_getElem h]
theorem setB_in {fs : List Int} {F : Nat → Bool} {k f : Nat} (h : setB (fs.take k) F) (hk : k < fs.length) (hf : fs.getD k 0 = (f : Int)) : setB (fs.take (k + 1)) (bitF F f true) := by
  intro i hi
  rw [take_succ fs k hk, hf, List.contains_append, ← h i hi]
  unfold bitF
  by_cases e : i = f
  · subst e; simp
  · rw [if_neg e]
    have : ([(f : Int)].contains (i : Int)) = false := by simp; omega
    rw [this, Bool.or_false]
theorem setB_out {fs : List Int} {F : Nat → Bool} {k : Nat} (h : setB (fs.take k) F) (hk : k < fs.length) (hf : fs.getD k 0 < 0 ∨ 64 ≤ fs.getD k 0) : setB (fs.take (k + 1)) F := by
  intro i hi
  rw [take_succ fs k hk, List.contains_append, ← h i hi]
  have : ([fs.getD k 0].contains (i : Int)) = false := by
    simp only [List.contains_cons, List.contains_nil, Bool.or_false, beq_eq_false_iff_ne, ne_eq]
    omega
  rw [this, Bool.or_false]

/-- The bytes of a descriptor, those of none: zeros. -/
def ringB (d : Ds) : List UInt8 := if deD d then deR d.o d.x d.l d.b d.n else [0, 0, 0, 0, 0, 0, 0, 0]
theorem ringB_len (d : Ds) : (ringB d).length = 8 := by unfold ringB; split <;> rfl
def ringA (l : List Ds) (i : Nat) : List UInt8 := if h : i < l.length then ringB l[i] else [0, 0, 0, 0, 0, 0, 0, 0]
theorem ringA_len (l : List Ds) (i : Nat) : (ringA l i).length = 8 := by
  unfold ringA; split
  · exact ringB_len _
  · rfl
/-- The bytes of a ring's first places. -/
def ringK (l : List Ds) : Nat → List UInt8
  | 0 => []
  | k + 1 => ringK l k ++ ringA l k
theorem ringK_len (l : List Ds) (k : Nat) : (ringK l k).length = 8 * k := by
  induction k with
  | zero => rfl
  | succ k ih => rw [ringK, List.length_append, ih, ringA_len]; omega
def rngL (l : List Ds) : List UInt8 := ringK l 8
theorem rngL_len (l : List Ds) : (rngL l).length = 64 := by unfold rngL; rw [ringK_len]
theorem ringK_pl (l : List Ds) (i : Nat) : ∀ k, i < k → plB (ringK l k) i = ringA l i := by
  intro k
  induction k with
  | zero => intro h; omega
  | succ k ih =>
    intro h
    have hl := ringK_len l k
    unfold plB at ih ⊢
    rw [ringK]
    by_cases e : i = k
    · subst e
      rw [List.drop_append_of_le_length (by omega), List.drop_eq_nil_of_le (by omega), List.nil_append, ← ringA_len l i, List.take_length]
    · rw [List.drop_append_of_le_length (by omega), List.take_append_of_le_length (by rw [List.length_drop]; omega)]
      exact ih (by omega)
theorem rng_pl (l : List Ds) (i : Nat) (h : i < 8) : plB (rngL l) i = ringA l i := ringK_pl l i 8 h

end Go.Proofs.Ytcjmgjdejljjkaa
