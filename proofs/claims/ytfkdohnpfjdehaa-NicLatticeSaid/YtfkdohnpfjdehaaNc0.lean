/-
  Layer 20, plain words: messages, the program's Switch in memory. And hasPart.
-/
import Derived.Test.YtfkdohnpfjdehaaInp
import Derived.Test.YtfkdohnpfjdehaaMid
import Derived.Test.YtfkdohnpfjdehaaPhys0
import Derived.Test.YtfkdohnpfjdehaaItc
import Derived.Test.YtfkdohnpfjdehaaOb
import Derived.Test.YtfkdohnpfjdehaaPlain2
import Derived.Test.YtfkdohnpfjdehaaLat0
namespace Go.Proofs.Ytfkdohnpfjdehaa
open Go.RowKit
set_option linter.unusedVariables false
set_option linter.unusedSimpArgs false
set_option maxRecDepth 100000

/-- A message: who sent it, its bytes. -/
structure Ms where
  f : Int
  s : List UInt8
/-- A message's two cells. -/
def mcs (m : Ms) : List Value := [.int .i64 m.f, .string (str m.s)]
/-- The 34 cells of a letter. -/
def ltc (m : Ms) : List Value := .int .i64 m.f :: .int .i64 m.s.length :: bts (m.s ++ List.replicate (32 - m.s.length) 0)
theorem ltc_len (m : Ms) (h : m.s.length ≤ 32) : (ltc m).length = 34 := by simp [ltc, bts_len]; omega
theorem ltc_one (m : Ms) : ∀ u ∈ ltc m, u.oneCell' = true := by
  intro u hu
  simp only [ltc, List.mem_cons, bts, List.mem_map] at hu
  rcases hu with rfl | rfl | ⟨x, _, rfl⟩ <;> rfl
/-- Letters, one behind the other. -/
def lcs (q : List Ms) : List Value := q.flatMap ltc
def okM (q : List Ms) : Prop := ∀ m ∈ q, m.s.length ≤ 32
theorem okM.head {m : Ms} {q : List Ms} (h : okM (m :: q)) : m.s.length ≤ 32 := h m (.head _)
theorem okM.tail {m : Ms} {q : List Ms} (h : okM (m :: q)) : okM q := fun x hx => h x (.tail _ hx)
theorem okM.snoc {m : Ms} {q : List Ms} (h : okM q) (hm : m.s.length ≤ 32) : okM (q ++ [m]) := by
  intro x hx
  rcases List.mem_append.1 hx with h1 | h1
  · exact h x h1
  · rw [List.mem_singleton.1 h1]; exact hm
theorem lcs_cons (m : Ms) (q : List Ms) : lcs (m :: q) = ltc m ++ lcs q := rfl
theorem lcs_append (q r : List Ms) : lcs (q ++ r) = lcs q ++ lcs r := by simp [lcs, List.flatMap_append]
theorem lcs_one1 (m : Ms) : lcs [m] = ltc m := by simp [lcs]
theorem lcs_len (q : List Ms) (h : okM q) : (lcs q).length = q.length * 34 := by
  induction q with
  | nil => rfl
  | cons m q ih => rw [lcs_cons, List.length_append, ltc_len m h.head, ih h.tail, List.length_cons]; omega
theorem lcs_oneCell (q : List Ms) : ∀ u ∈ lcs q, u.oneCell' = true := by
  intro u hu
  obtain ⟨m, _, h⟩ := List.mem_flatMap.1 hu
  exact ltc_one m u h
theorem lcs_at (q : List Ms) (h : okM q) (i : Nat) (hi : i < q.length) (j : Nat) (v : Value) (hj : (ltc q[i])[j]? = some v) : (lcs q)[i * 34 + j]? = some v := by
  induction q generalizing i with
  | nil => cases hi
  | cons m q ih =>
    have hl := ltc_len m h.head
    cases i with
    | zero =>
      simp only [List.getElem_cons_zero] at hj
      have : j < (ltc m).length := (List.getElem?_eq_some_iff.1 hj).1
      rw [lcs_cons, Nat.zero_mul, Nat.zero_add, List.getElem?_append_left this, hj]
    | succ i =>
      rw [lcs_cons, List.getElem?_append_right (by omega), hl, show (i + 1) * 34 + j - 34 = i * 34 + j by omega]
      exact ih h.tail i (by simpa using hi) (by simpa using hj)

/-- One of a family turned. -/
def upF {α : Type} (F : Nat → α) (k : Nat) (x : α) : Nat → α := fun i => if i = k then x else F i
theorem upF_here {α : Type} (F : Nat → α) (k : Nat) (x : α) : upF F k x k = x := by simp [upF]
theorem upF_far {α : Type} (F : Nat → α) {k i : Nat} (x : α) (h : i ≠ k) : upF F k x i = F i := by simp [upF, h]
/-- How many each queue has. -/
def kq (Q : Nat → List Ms) : Nat → Nat := fun p => (Q p).length
theorem kq_up (Q : Nat → List Ms) (k : Nat) (q : List Ms) : kq (upF Q k q) = upF (kq Q) k q.length := by
  funext i; unfold kq upF; split <;> rfl
/-- A label of several. -/
def labL (ls : List (Int × Int)) (p : Nat) : Int := (ls.getD p (0, 0)).1
def labC (ls : List (Int × Int)) (p : Nat) : Int := (ls.getD p (0, 0)).2

/-- What the cells of a Switch say: its labels, how many letters each queue has, the letters, how many were only counted. -/
structure Cs (cs : List Value) (ls : List (Int × Int)) (K : Nat → Nat) (Q : Nat → List Ms) (D : Nat → Int) : Prop where
  len : cs.length = 1105
  n : cs[0]? = some (.int .i64 ls.length)
  lab : ∀ i, i < ls.length → cs[1 + i * 2]? = some (.int .i64 (labL ls i)) ∧ cs[1 + i * 2 + 1]? = some (.int .i64 (labC ls i))
  cnt : ∀ p, p < 4 → cs[9 + p * 274]? = some (.int .i64 (K p))
  let_ : ∀ p, p < 4 → ∀ j v, (lcs (Q p))[j]? = some v → cs[9 + p * 274 + 1 + j]? = some v
  drp : ∀ p, p < 4 → cs[9 + p * 274 + 273]? = some (.int .i64 (D p))
/-- The program's Switch, at block g. -/
structure PS (w : World) (g : Nat) (ls : List (Int × Int)) (K : Nat → Nat) (Q : Nat → List Ms) (D : Nat → Int) : Prop where
  p4 : ls.length ≤ 4
  q8 : ∀ p, (Q p).length ≤ 8 ∧ okM (Q p)
  d0 : ∀ p, 0 ≤ D p ∧ D p ≤ 65535
  blk : ∃ cs, Blk w g 73 cs ∧ Cs cs ls K Q D
section
variable {w w' : World} {g : Nat} {ls : List (Int × Int)} {K K' : Nat → Nat} {Q Q' : Nat → List Ms} {D D' : Nat → Int}
theorem PS.lt (d : PS w g ls K Q D) : g < w.heap.size := by obtain ⟨cs, hb, _⟩ := d.blk; exact hb.lt
theorem PS.frozen (d : PS w g ls K Q D) (i : Nat) : w.frozen? ⟨g, i, none⟩ = false := by obtain ⟨cs, hb, _⟩ := d.blk; exact hb.frozen i
theorem PS.n (d : PS w g ls K Q D) : w.cell? ⟨g, 0, none⟩ = some (.int .i64 ls.length) := by obtain ⟨cs, hb, c⟩ := d.blk; rw [hb.cell]; exact c.n
theorem PS.lab (d : PS w g ls K Q D) (i : Nat) (hi : i < ls.length) : w.cell? ⟨g, 1 + i * 2, none⟩ = some (.int .i64 (labL ls i)) ∧ w.cell? ⟨g, 1 + i * 2 + 1, none⟩ = some (.int .i64 (labC ls i)) := by
  obtain ⟨cs, hb, c⟩ := d.blk; rw [hb.cell, hb.cell]; exact c.lab i hi
theorem PS.cnt (d : PS w g ls K Q D) (p : Nat) (hp : p < 4) : w.cell? ⟨g, 9 + p * 274, none⟩ = some (.int .i64 (K p)) := by obtain ⟨cs, hb, c⟩ := d.blk; rw [hb.cell]; exact c.cnt p hp
theorem PS.drp (d : PS w g ls K Q D) (p : Nat) (hp : p < 4) : w.cell? ⟨g, 9 + p * 274 + 273, none⟩ = some (.int .i64 (D p)) := by obtain ⟨cs, hb, c⟩ := d.blk; rw [hb.cell]; exact c.drp p hp
theorem PS.range (d : PS w g ls K Q D) (p : Nat) (hp : p < 4) (i : Nat) (hi : i < (Q p).length) : w.rangeAt g (9 + p * 274 + 1 + i * 34) (ltc (Q p)[i]) := by
  obtain ⟨cs, hb, c⟩ := d.blk
  intro j v hj
  rw [hb.cell, show 9 + p * 274 + 1 + i * 34 + j = 9 + p * 274 + 1 + (i * 34 + j) by omega]
  exact c.let_ p hp _ v (lcs_at _ (d.q8 p).2 i hi j v hj)
theorem PS.there (d : PS w g ls K Q D) (p : Nat) (hp : p < 4) (i : Nat) (hi : i < 8) : w.there g (9 + p * 274 + 1 + i * 34) 34 := by
  obtain ⟨cs, hb, c⟩ := d.blk
  intro j hj
  refine ⟨?_, hb.frozen _⟩
  rw [hb.cell, List.getElem?_eq_getElem (by rw [c.len]; omega)]; rfl
theorem PS.keep (d : PS w g ls K Q D) (hg : w'.heap[g]? = w.heap[g]?) : PS w' g ls K Q D := by
  obtain ⟨cs, hb, c⟩ := d.blk
  exact ⟨d.p4, d.q8, d.d0, cs, hg.trans hb, c⟩
theorem PS.below (d : PS w g ls K Q D) (hb : Below w.heap.size w w') : PS w' g ls K Q D := d.keep (hb.block g d.lt)
theorem PS.drewN (d : PS w g ls K Q D) (n : Nat) : PS (w.drewN n) g ls K Q D := d.below (bdrewN (Below.refl _ _) n)
/-- One number written. -/
theorem PS.setDrp (d : PS w g ls K Q D) (p : Nat) (hp : p < 4) (x : Int) (hx : 0 ≤ x ∧ x ≤ 65535) : PS (w.setCell ⟨g, 9 + p * 274 + 273, none⟩ (.int .i64 x)) g ls K Q (iF D p x) := by
  obtain ⟨cs, hb, c⟩ := d.blk
  have hl := c.len
  have e : ∀ i, i ≠ 9 + p * 274 + 273 → (cs.set (9 + p * 274 + 273) (.int .i64 x))[i]? = cs[i]? := fun i hi => by rw [List.getElem?_set, if_neg (fun e => hi e.symm)]
  have p4 := d.p4
  refine ⟨d.p4, d.q8, fun i => by unfold iF; split; exact hx; exact d.d0 i, _, hb.set _ _, ⟨by rw [List.length_set]; exact hl, by rw [e _ (by omega)]; exact c.n, fun i hi => by rw [e _ (by omega), e _ (by omega)]; exact c.lab i hi, fun i hi => by rw [e _ (by omega)]; exact c.cnt i hi, fun i hi j v hj => ?_, fun i hi => ?_⟩⟩
  · have h1 := (List.getElem?_eq_some_iff.1 hj).1
    rw [lcs_len _ (d.q8 i).2] at h1
    have h2 := (d.q8 i).1
    rw [e _ (by omega)]; exact c.let_ i hi j v hj
  · unfold iF
    by_cases hip : i = p
    · subst hip; rw [if_pos rfl, List.getElem?_set, if_pos rfl, if_pos (by omega)]
    · rw [if_neg hip, e _ (by omega)]; exact c.drp i hi
theorem PS.setCnt (d : PS w g ls K Q D) (p : Nat) (hp : p < 4) (x : Nat) : PS (w.setCell ⟨g, 9 + p * 274, none⟩ (.int .i64 x)) g ls (upF K p x) Q D := by
  obtain ⟨cs, hb, c⟩ := d.blk
  have hl := c.len
  have e : ∀ i, i ≠ 9 + p * 274 → (cs.set (9 + p * 274) (.int .i64 x))[i]? = cs[i]? := fun i hi => by rw [List.getElem?_set, if_neg (fun e => hi e.symm)]
  have p4 := d.p4
  refine ⟨d.p4, d.q8, d.d0, _, hb.set _ _, ⟨by rw [List.length_set]; exact hl, by rw [e _ (by omega)]; exact c.n, fun i hi => by rw [e _ (by omega), e _ (by omega)]; exact c.lab i hi, fun i hi => ?_, fun i hi j v hj => ?_, fun i hi => by rw [e _ (by omega)]; exact c.drp i hi⟩⟩
  · unfold upF
    by_cases hip : i = p
    · subst hip; rw [if_pos rfl, List.getElem?_set, if_pos rfl, if_pos (by omega)]
    · rw [if_neg hip, e _ (by omega)]; exact c.cnt i hi
  · have h1 := (List.getElem?_eq_some_iff.1 hj).1
    rw [lcs_len _ (d.q8 i).2] at h1
    have h2 := (d.q8 i).1
    rw [e _ (by omega)]; exact c.let_ i hi j v hj
/-- A queue's letters written over, from its first on: by a list of cells of which those of the new queue are told. -/
theorem PS.over (d : PS w g ls K Q D) (p : Nat) (hp : p < 4) (q : List Ms) (h8 : q.length ≤ 8) (hq : okM q) {cs' : List Value} (hb' : Blk w' g 73 cs') (hl' : cs'.length = 1105)
    (hout : ∀ cs, Blk w g 73 cs → ∀ i, i < 9 + p * 274 + 1 ∨ 9 + p * 274 + 273 ≤ i → cs'[i]? = cs[i]?)
    (hin : ∀ j v, (lcs q)[j]? = some v → cs'[9 + p * 274 + 1 + j]? = some v) : PS w' g ls K (upF Q p q) D := by
  obtain ⟨cs, hb, c⟩ := d.blk
  have hl := c.len
  have e := hout cs hb
  have p4 := d.p4
  refine ⟨d.p4, fun i => by unfold upF; split; exact ⟨h8, hq⟩; exact d.q8 i, d.d0, _, hb', ⟨hl', by rw [e _ (by omega)]; exact c.n, fun i hi => by rw [e _ (by omega), e _ (by omega)]; exact c.lab i hi, fun i hi => by rw [e _ (by omega)]; exact c.cnt i hi, fun i hi j v hj => ?_, fun i hi => by rw [e _ (by omega)]; exact c.drp i hi⟩⟩
  by_cases hip : i = p
  · subst hip; rw [upF_here] at hj; exact hin j v hj
  · rw [upF_far _ _ hip] at hj
    have h1 := (List.getElem?_eq_some_iff.1 hj).1
    rw [lcs_len _ (d.q8 i).2] at h1
    have h2 := (d.q8 i).1
    rw [e _ (by omega)]; exact c.let_ i hi j v hj
end
/-- As a thing: its state is whole. -/
def obPS (g : Nat) (ls : List (Int × Int)) (Q : Nat → List Ms) (D : Nat → Int) : Ob :=
  ⟨fun S w => PS w g ls (kq Q) Q D ∧ ∀ b, S b ↔ b = g, fun ⟨d, e⟩ hk hs => ⟨d.keep (hk g d.lt ((e g).2 rfl)), e⟩, fun ⟨d, e⟩ hb => ((e _).1 hb) ▸ d.lt⟩
section
variable {S : Nat → Prop} {W0 w w' : World} {os os' : List Ob} {i g : Nat} {ls : List (Int × Int)} {Q Q' : Nat → List Ms} {D D' : Nat → Int}
theorem Tk.ps (t : Tk S W0 os w) (hi : os[i]? = some (obPS g ls Q D)) : PS w g ls (kq Q) Q D ∧ ∀ w' Q' D', PS w' g ls (kq Q') Q' D' → w.grownBy w' (some g) → Tk S W0 (os.set i (obPS g ls Q' D')) w' := by
  obtain ⟨S1, q, _, k⟩ := t.call hi
  exact ⟨q.1, fun w' Q' D' hp hg => k w' _ [] ⟨S1, obs_one.2 ⟨hp, q.2⟩, fun _ _ h => h, (Fo.refl _ _).grown hg (fun x hx => .inl ((q.2 x).2 (by injection hx with hx; exact hx.symm)))⟩⟩
end

section
variable {w : World} {g : Nat} {ls : List (Int × Int)} {K : Nat → Nat} {Q : Nat → List Ms} {D : Nat → Int}
theorem shas_any (p : Int) (d : PS w g ls K Q D) :
    Calls Try.prog 30 #[.pointer (some ⟨g, 0, none⟩), .int .i64 p] w fun e w' => e = .returned (.bool (inP ls.length p)) ∧ w = w' := by
  have c0 := d.n
  clear d
  generalize ls.length = P at *
  have HB := Lib.hid (show inP P p = decide (0 ≤ p ∧ p < (P : Int)) from rfl)
  by_cases h0 : 0 ≤ p
  · by_cases h1 : p < (P : Int)
    · go_enter Try.func30, Try.ntmps30
      go_wp2
      go_ret
      exact ⟨by rw [HB.out, decide_eq_true (show 0 ≤ p ∧ p < (P : Int) from ⟨h0, h1⟩)]; rfl, rfl⟩
    · go_enter Try.func30, Try.ntmps30
      go_wp2
      go_ret
      exact ⟨by rw [HB.out, decide_eq_false (show ¬ (0 ≤ p ∧ p < (P : Int)) by omega)]; rfl, rfl⟩
  · go_enter Try.func30, Try.ntmps30
    go_wp2
    go_ret
    exact ⟨by rw [HB.out, decide_eq_false (show ¬ (0 ≤ p ∧ p < (P : Int)) by omega)]; rfl, rfl⟩
end

end Go.Proofs.Ytfkdohnpfjdehaa
