/-
  Layer 20, the document: its Switch in memory; there, Queue, Dropped.
-/
import Derived.Test.YtfkdohnpfjdehaaNcM
import Derived.Test.YtfkdohnpfjdehaaLbs
import Derived.Test.YtfkdohnpfjdehaaApn
import Derived.Laws.OwnMore
namespace Go.Proofs.Ytfkdohnpfjdehaa
open Go.RowKit
set_option linter.unusedVariables false
set_option linter.unusedSimpArgs false
set_option maxRecDepth 100000

/-- Values as cells, by a function. -/
def fam (F : Nat → Value) (N : Nat) : List Value := (List.range N).map F
theorem fam_len (F : Nat → Value) (N : Nat) : (fam F N).length = N := by simp [fam]
theorem fam_get (F : Nat → Value) (N i : Nat) (h : i < N) : (fam F N)[i]? = some (F i) := by simp [fam, List.getElem?_map, List.getElem?_range h]
theorem fam_set (F : Nat → Value) (N k : Nat) (x : Value) : (fam F N).set k x = fam (upF F k x) N := by
  apply List.ext_getElem?
  intro i
  rw [List.getElem?_set]
  by_cases h : i < N
  · rw [fam_get _ _ _ h, fam_get _ _ _ h, fam_len]
    unfold upF
    by_cases e : k = i
    · subst e; simp [h]
    · rw [if_neg e, if_neg (fun e' => e e'.symm)]
  · rw [List.getElem?_eq_none (by rw [fam_len]; omega), List.getElem?_eq_none (by rw [fam_len]; omega), fam_len]
    by_cases e : k = i
    · subst e; simp [h]
    · rw [if_neg e]

/-- The document's Switch, at block g: its labels at block a, each queue's row its own. -/
structure RS (w : World) (g a ca : Nat) (V : Nat → Value) (ls : List (Int × Int)) (Q : Nat → List Ms) (D : Nat → Int) : Prop where
  p4 : 1 ≤ ls.length ∧ ls.length ≤ 4
  q8 : ∀ p, (Q p).length ≤ 8
  d0 : ∀ p, 0 ≤ D p ∧ D p ≤ 65535
  blk : Blk w g 78 (.slice (some ⟨a, 0, none⟩) ls.length ca :: (fam V 4 ++ itc D 4))
  lab : w.ownsRow 0 54 2 (.slice (some ⟨a, 0, none⟩) ls.length ca) ls.length (ints (lbs ls))
  que : ∀ p, p < 4 → w.ownsRow 0 41 2 (V p) (Q p).length (mss (Q p))
  apart : ∀ p q, p < 4 → q < 4 → p ≠ q → ∀ b, (V p).ownBlock = some b → (V q).ownBlock ≠ some b
/-- Its blocks. -/
def sRS (g a : Nat) (V : Nat → Value) (b : Nat) : Prop := b = g ∨ b = a ∨ ∃ p, p < 4 ∧ (V p).ownBlock = some b
section
variable {w w' : World} {g a ca : Nat} {V : Nat → Value} {ls : List (Int × Int)} {Q : Nat → List Ms} {D : Nat → Int}
theorem RS.lt (d : RS w g a ca V ls Q D) {b : Nat} (h : sRS g a V b) : b < w.heap.size := by
  rcases h with rfl | rfl | ⟨p, hp, h⟩
  · exact d.blk.lt
  · exact (d.lab.lt _ rfl).2
  · exact ((d.que p hp).lt _ h).2
theorem RS.ga (d : RS w g a ca V ls Q D) : a ≠ g := fun e => own_apart_blk d.lab d.blk (by decide) (by rw [e]; rfl)
theorem RS.gq (d : RS w g a ca V ls Q D) (p : Nat) (hp : p < 4) : (V p).ownBlock ≠ some g := own_apart_blk (d.que p hp) d.blk (by decide)
theorem RS.aq (d : RS w g a ca V ls Q D) (p : Nat) (hp : p < 4) : (V p).ownBlock ≠ some a := fun e => own_types (d.que p hp) d.lab (by decide) a e rfl
theorem RS.head (d : RS w g a ca V ls Q D) : w.cell? ⟨g, 0, none⟩ = some (.slice (some ⟨a, 0, none⟩) ls.length ca) := by rw [d.blk.cell]; rfl
theorem RS.row (d : RS w g a ca V ls Q D) (p : Nat) (hp : p < 4) : w.cell? ⟨g, 1 + p, none⟩ = some (V p) := by
  rw [d.blk.cell, show 1 + p = p + 1 by omega, List.getElem?_cons_succ, List.getElem?_append_left (by rw [fam_len]; exact hp), fam_get _ _ _ hp]
theorem RS.drp (d : RS w g a ca V ls Q D) (p : Nat) (hp : p < 4) : w.cell? ⟨g, 5 + p, none⟩ = some (.int .i64 (D p)) := by
  rw [d.blk.cell, show 5 + p = 4 + p + 1 by omega, List.getElem?_cons_succ, List.getElem?_append_right (by rw [fam_len]; omega), fam_len, show 4 + p - 4 = p by omega, itc_get _ _ _ hp]
theorem RS.frozen (d : RS w g a ca V ls Q D) (i : Nat) : w.frozen? ⟨g, i, none⟩ = false := d.blk.frozen i
theorem RS.form (d : RS w g a ca V ls Q D) (p : Nat) (hp : p < 4) : ∃ A c, V p = .slice A (Q p).length c ∧ (Q p).length ≤ c := by obtain ⟨A, c, e, h, _⟩ := Sl.own (d.que p hp); exact ⟨A, c, e, h⟩
theorem RS.keep (d : RS w g a ca V ls Q D) (hk : ∀ b, sRS g a V b → w'.heap[b]? = w.heap[b]?) : RS w' g a ca V ls Q D :=
  ⟨d.p4, d.q8, d.d0, (hk g (.inl rfl)).trans d.blk, own_stay d.lab (fun b hb => hk b (.inr (.inl (by injection hb with hb; exact hb.symm)))), fun p hp => own_stay (d.que p hp) (fun b hb => hk b (.inr (.inr ⟨p, hp, hb⟩))), d.apart⟩
theorem RS.below (d : RS w g a ca V ls Q D) (h : Below w.heap.size w w') : RS w' g a ca V ls Q D := d.keep (fun b hb => h.block b (d.lt hb))
theorem RS.drewN (d : RS w g a ca V ls Q D) (n : Nat) : RS (w.drewN n) g a ca V ls Q D := d.below (bdrewN (Below.refl _ _) n)
/-- One count written. -/
theorem RS.setD (d : RS w g a ca V ls Q D) (p : Nat) (hp : p < 4) (x : Int) (hx : 0 ≤ x ∧ x ≤ 65535) : RS (w.setCell ⟨g, 5 + p, none⟩ (.int .i64 x)) g a ca V ls Q (iF D p x) := by
  have hb := d.blk.set (5 + p) (.int .i64 x)
  rw [show 5 + p = 4 + p + 1 by omega, List.set_cons_succ, List.set_append_right _ _ (by rw [fam_len]; omega), fam_len, show 4 + p - 4 = p by omega, itc_set, show 4 + p + 1 = 5 + p by omega] at hb
  have hk : ∀ b, b ≠ g → (w.setCell ⟨g, 5 + p, none⟩ (.int .i64 x)).heap[b]? = w.heap[b]? := fun b hb => Below.heap_setCell w ⟨g, 5 + p, none⟩ _ b hb
  exact ⟨d.p4, d.q8, fun i => by unfold iF; split; exact hx; exact d.d0 i, hb, own_stay d.lab (fun b hb => hk b (by injection hb with hb; rw [← hb]; exact d.ga)), fun q hq => own_stay (d.que q hq) (fun b hb => hk b (fun e => d.gq q hq (by rw [hb, e]))), d.apart⟩
/-- Another row in a queue's place. -/
theorem RS.putQ (d : RS w g a ca V ls Q D) (p : Nat) (hp : p < 4) (q : List Ms) (h8 : q.length ≤ 8) (v : Value) {w1 : World} (hg : w.grownBy w1 (V p).ownBlock) (own : w1.ownsRow 0 41 2 v q.length (mss q))
    (hv : ∀ b, v.ownBlock = some b → (V p).ownBlock = some b ∨ w.heap.size ≤ b) : RS (w1.setCell ⟨g, 1 + p, none⟩ v) g a ca (upF V p v) ls (upF Q p q) D := by
  have hb1 : Blk w1 g _ _ := d.blk.grown hg (fun e => d.gq p hp e.symm)
  have hb := hb1.set (1 + p) v
  rw [show 1 + p = p + 1 by omega, List.set_cons_succ, List.set_append_left _ _ (by rw [fam_len]; exact hp), fam_set, show p + 1 = 1 + p by omega] at hb
  have hk : ∀ b, b ≠ g → (w1.setCell ⟨g, 1 + p, none⟩ v).heap[b]? = w1.heap[b]? := fun b hb => Below.heap_setCell w1 ⟨g, 1 + p, none⟩ _ b hb
  have hvg : ∀ b, v.ownBlock = some b → b ≠ g := fun b h e => by
    rcases hv b h with h1 | h1
    · exact d.gq p hp (by rw [h1, e])
    · have := d.blk.lt; omega
  refine ⟨d.p4, fun i => by unfold upF; split; exact h8; exact d.q8 i, d.d0, hb, own_stay d.lab (fun b hb => ?_), fun i hi => ?_, fun i j hi hj hij b hbi hb2 => ?_⟩
  · have e : b = a := by injection hb with hb; exact hb.symm
    subst e
    exact (hk b d.ga).trans (hg.block b ((d.lab.lt b rfl).2) (fun e => d.aq p hp e.symm))
  · by_cases hip : i = p
    · subst hip
      rw [upF_here, upF_here]
      exact own_stay own (fun b hb => hk b (hvg b hb))
    · rw [upF_far _ _ hip, upF_far _ _ hip]
      exact own_stay (d.que i hi) (fun b hb => (hk b (fun e => d.gq i hi (by rw [hb, e]))).trans (hg.block b (((d.que i hi).lt b hb).2) (fun e => d.apart i p hi hp hip b hb e.symm)))
  · by_cases hip : i = p
    · subst hip
      rw [upF_here] at hbi
      rw [upF_far _ _ (fun e => hij e.symm)] at hb2
      rcases hv b hbi with h1 | h1
      · exact d.apart i j hi hj hij b h1 hb2
      · have := ((d.que j hj).lt b hb2).2; omega
    · rw [upF_far _ _ hip] at hbi
      by_cases hjp : j = p
      · subst hjp
        rw [upF_here] at hb2
        rcases hv b hb2 with h1 | h1
        · exact d.apart i j hi hj hij b hbi h1
        · have := ((d.que i hi).lt b hbi).2; omega
      · rw [upF_far _ _ hjp] at hb2
        exact d.apart i j hi hj hij b hbi hb2
/-- Its cells behind an append to a queue's row. -/
theorem RS.after (d : RS w g a ca V ls Q D) (p : Nat) (hp : p < 4) {v : Value} (hV : V p = v) {o : Obj} {w2 : World} (gr : (w.alloc o).drew.grownBy w2 v.ownBlock) : w2.cell? ⟨g, 1 + p, none⟩ = some v ∧ w2.frozen? ⟨g, 1 + p, none⟩ = false := by
  have hb : Blk w2 g _ _ := ((d.blk.alloc o).drewN 1).grown gr (fun e => d.gq p hp (by rw [hV]; exact e.symm))
  refine ⟨?_, hb.frozen _⟩
  rw [hb.cell, show 1 + p = p + 1 by omega, List.getElem?_cons_succ, List.getElem?_append_left (by rw [fam_len]; exact hp), fam_get _ _ _ hp, hV]
theorem Fo.putQ (d : RS w g a ca V ls Q D) (p : Nat) (hp : p < 4) (v : Value) {w1 : World} (hg : w.grownBy w1 (V p).ownBlock) : Fo (sRS g a V) w (w1.setCell ⟨g, 1 + p, none⟩ v) :=
  ((Fo.refl _ w).grown hg (fun b hb => .inl (.inr (.inr ⟨p, hp, hb⟩)))).set (.inl (.inl rfl)) _
end
/-- As a thing. -/
def obRS1 (g a ca : Nat) (V : Nat → Value) (ls : List (Int × Int)) (Q : Nat → List Ms) (D : Nat → Int) : Ob :=
  ⟨fun S w => RS w g a ca V ls Q D ∧ ∀ b, S b ↔ sRS g a V b, fun ⟨d, e⟩ hk hs => ⟨d.keep (fun b hb => hk b (d.lt hb) ((e b).2 hb)), e⟩, fun ⟨d, e⟩ hb => d.lt ((e _).1 hb)⟩
def obRS (g : Nat) (ls : List (Int × Int)) (Q : Nat → List Ms) (D : Nat → Int) : Ob := obX fun x : Nat × Nat × (Nat → Value) => obRS1 g x.1 x.2.1 x.2.2 ls Q D
section
variable {S : Nat → Prop} {W0 w w' : World} {os os' : List Ob} {i g : Nat} {ls : List (Int × Int)} {Q Q' : Nat → List Ms} {D D' : Nat → Int}
theorem Tk.rs (t : Tk S W0 os w) (hi : os[i]? = some (obRS g ls Q D)) : ∃ a ca V, RS w g a ca V ls Q D ∧ ∀ w' V' Q' D', RS w' g a ca V' ls Q' D' → Fo (sRS g a V) w w' → (∀ p, p < 4 → ∀ b, (V' p).ownBlock = some b → sRS g a V b ∨ w.heap.size ≤ b) → Tk S W0 (os.set i (obRS g ls Q' D')) w' := by
  obtain ⟨S1, ⟨⟨a, ca, V⟩, q⟩, _, k⟩ := t.call hi
  refine ⟨a, ca, V, q.1, fun w' V' Q' D' hp hf hv => k w' _ [] ⟨sRS g a V', obs_one.2 ⟨(a, ca, V'), hp, fun _ => Iff.rfl⟩, fun b hb hS => ?_, hf.mono (fun b _ hS => (q.2 b).2 hS)⟩⟩
  refine (q.2 b).2 ?_
  rcases hS with rfl | rfl | ⟨p, hp4, h⟩
  · exact .inl rfl
  · exact .inr (.inl rfl)
  · rcases hv p hp4 b h with h1 | h1
    · exact h1
    · omega
end

section
variable {w : World} {g a ca : Nat} {V : Nat → Value} {ls : List (Int × Int)} {Q : Nat → List Ms} {D : Nat → Int}
theorem rsthere_any (p : Int) (d : RS w g a ca V ls Q D) :
    Calls Try.prog 34 #[.pointer (some ⟨g, 0, none⟩), .int .i64 p] w fun e w' => e = .returned (.bool (inP ls.length p)) ∧ w = w' := by
  have c0 := d.head
  clear d
  generalize ls.length = P at *
  have HB := Lib.hid (show inP P p = decide (0 ≤ p ∧ p < (P : Int)) from rfl)
  by_cases h0 : 0 ≤ p
  · by_cases h1 : p < (P : Int)
    · go_enter Try.func34, Try.ntmps34
      go_wp2
      go_ret
      exact ⟨by rw [HB.out, decide_eq_true (show 0 ≤ p ∧ p < (P : Int) from ⟨h0, h1⟩)]; rfl, rfl⟩
    · go_enter Try.func34, Try.ntmps34
      go_wp2
      go_ret
      exact ⟨by rw [HB.out, decide_eq_false (show ¬ (0 ≤ p ∧ p < (P : Int)) by omega)]; rfl, rfl⟩
  · go_enter Try.func34, Try.ntmps34
    go_wp2
    go_ret
    exact ⟨by rw [HB.out, decide_eq_false (show ¬ (0 ≤ p ∧ p < (P : Int)) by omega)]; rfl, rfl⟩

theorem rsdrop_any (p : Int) (d : RS w g a ca V ls Q D) :
    Calls Try.prog 23 #[.pointer (some ⟨g, 0, none⟩), .int .i64 p] w fun e w' => e = .returned (.int .i64 (ndX ls D p)) ∧ w = w' := by
  have HD := Lib.hid d
  have hP4 := d.p4
  cases hin : inP ls.length p with
  | true =>
    have HX := Lib.hid (show ndX ls D p = D p.toNat by simp [ndX, hin])
    have HB := Lib.hid hin
    obtain ⟨k, rfl, hk⟩ := (inP_iff _ _).1 hin
    rw [Int.toNat_natCast] at HX
    have c0 := d.drp k (by omega)
    have hk4 : (k : Int) < 4 := by omega
    clear d hin
    go_enter Try.func23, Try.ntmps23
    go_wp2_with fail
    refine (rsthere_any _ HD.out).mono ?_
    rintro e w' ⟨rfl, rfl⟩
    rw [HB.out]
    go_wp2_with fail
    go_ret
    exact ⟨by rw [HX.out]; rfl, rfl⟩
  | false =>
    have HX := Lib.hid (show ndX ls D p = 0 by simp [ndX, hin])
    have HB := Lib.hid hin
    clear d hin
    go_enter Try.func23, Try.ntmps23
    go_wp2_with fail
    refine (rsthere_any _ HD.out).mono ?_
    rintro e w' ⟨rfl, rfl⟩
    rw [HB.out]
    go_wp2_with fail
    go_ret
    exact ⟨by rw [HX.out]; rfl, rfl⟩

theorem rsqueue_any (p : Int) (d : RS w g a ca V ls Q D) :
    Calls Try.prog 21 #[.pointer (some ⟨g, 0, none⟩), .int .i64 p] w fun e w' => ∃ v, e = .returned v ∧ w = w' ∧ Sl w v (nqX ls Q p).length 2 (mss (nqX ls Q p)) := by
  have HD := Lib.hid d
  have hP4 := d.p4
  cases hin : inP ls.length p with
  | true =>
    have HX := Lib.hid (show nqX ls Q p = Q p.toNat by simp [nqX, hin])
    have HB := Lib.hid hin
    obtain ⟨k, rfl, hk⟩ := (inP_iff _ _).1 hin
    rw [Int.toNat_natCast] at HX
    have c0 := d.row k (by omega)
    have HS := Lib.hid (Sl.own (d.que k (by omega)))
    have hk4 : (k : Int) < 4 := by omega
    clear d hin
    go_enter Try.func21, Try.ntmps21
    go_wp2_with fail
    refine (rsthere_any _ HD.out).mono ?_
    rintro e w' ⟨rfl, rfl⟩
    rw [HB.out]
    go_wp2_with fail
    go_ret
    exact ⟨_, rfl, rfl, by rw [HX.out]; exact HS.out⟩
  | false =>
    have HX := Lib.hid (show nqX ls Q p = [] by simp [nqX, hin])
    have HB := Lib.hid hin
    clear d hin
    go_enter Try.func21, Try.ntmps21
    go_wp2_with fail
    refine (rsthere_any _ HD.out).mono ?_
    rintro e w' ⟨rfl, rfl⟩
    rw [HB.out]
    go_wp2_with fail
    go_ret
    exact ⟨_, rfl, rfl, by rw [HX.out]; exact ⟨none, 0, rfl, Nat.le_refl _, rfl, fun h => absurd h (by decide)⟩⟩
end

end Go.Proofs.Ytfkdohnpfjdehaa
