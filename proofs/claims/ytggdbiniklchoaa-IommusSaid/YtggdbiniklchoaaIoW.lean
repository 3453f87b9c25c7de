/-
  The program's Iommu in a law: what stands (Wd), the calls in these words.
-/
import Derived.Test.YtggdbiniklchoaaIop12
import Derived.Test.YtggdbiniklchoaaIop10
namespace Go.Proofs.Ytggdbiniklchoaa
open Go.RowKit
set_option linter.unusedVariables false
set_option maxRecDepth 100000

/-- Somebody's memory g, Iommu x, cache t, all made since w0; the pools ps, the memory's bytes l. -/
structure Wd (w0 : World) (g x t : Nat) (ps : List (List Int)) (l : List UInt8) (w : World) : Prop where
  ix : ∃ B v, Ix B w x g t v ps l
  cw : Cw w t
  b : Below w0.heap.size w0 w
  wg : w0.heap.size ≤ g
  wt : w0.heap.size ≤ t

/-- Blocks that are no memory and no cache stay. -/
def Kp (w w' : World) : Prop := ∀ k T cs, T ≠ 57 → T ≠ 100 → Blk w k T cs → w'.heap[k]? = w.heap[k]?
section
variable {w w1 w2 : World}
theorem Kp.below (h : Below w.heap.size w w1) : Kp w w1 := fun k T cs _ _ hk => h.block k hk.lt
theorem Kp.blk (h : Kp w w1) {k : Nat} {T : TypeId} {cs : List Value} (hk : Blk w k T cs) (n1 : T ≠ 57) (n2 : T ≠ 100) : Blk w1 k T cs := (h k T cs n1 n2 hk).trans hk
theorem Kp.own (h : Kp w w1) {B n size : Nat} {T : TypeId} {v : Value} {xs : List Value} (ho : w.ownsRow B T size v n xs) (n1 : T ≠ 57) (n2 : T ≠ 100) : w1.ownsRow B T size v n xs := own_stay ho (fun k cs hk => h k T cs n1 n2 hk)
end

section
variable {w0 w w' : World} {g x t : Nat} {ps : List (List Int)} {l l' : List UInt8}
theorem Wd.size (h : Wd w0 g x t ps l w) : w0.heap.size ≤ w.heap.size := h.b.size
theorem Wd.pm (h : Wd w0 g x t ps l w) : PM w g l := by obtain ⟨B, v, i⟩ := h.ix; exact i.pm
theorem Wd.drewN (h : Wd w0 g x t ps l w) (n : Nat) : Wd w0 g x t ps l (w.drewN n) := ⟨by obtain ⟨B, v, i⟩ := h.ix; exact ⟨B, v, i.drewN n⟩, h.cw.drewN n, bdrewN h.b n, h.wg, h.wt⟩
theorem Wd.below (h : Wd w0 g x t ps l w) (hb : Below w.heap.size w w') : Wd w0 g x t ps l w' :=
  ⟨by obtain ⟨B, v, i⟩ := h.ix; exact ⟨B, v, i.below hb (Nat.le_refl _)⟩, h.cw.below hb, Below.down h.b hb h.b.size, h.wg, h.wt⟩
theorem Wd.alloc (h : Wd w0 g x t ps l w) (o : Obj) : Wd w0 g x t ps l (w.alloc o) := h.below ((Below.refl _ _).alloc (Nat.le_refl _) o)
theorem Wd.kp (h : Wd w0 g x t ps l w) (tn : Tn g t w w') : Kp w w' := by
  obtain ⟨B, v, i⟩ := h.ix
  obtain ⟨L, ⟨z, _, hb⟩, hL⟩ := h.cw
  obtain ⟨m, r, _, _, _, _, hg⟩ := i.pm
  exact fun k T cs n1 n2 hk => tn.block k hk.lt (hk.apart hg n1) (hk.apart hb n2)
/-- Another's. -/
theorem Wd.other {g' x' t' : Nat} {ps' : List (List Int)} (h : Wd w0 g x t ps l w) (k : Wd w0 g' x' t' ps' l' w) (tn : Tn g' t' w w') (hg : g ≠ g') (ht : t ≠ t') : Wd w0 g x t ps l w' := by
  obtain ⟨B, v, i⟩ := h.ix
  obtain ⟨B', v', i'⟩ := k.ix
  obtain ⟨L, hp, hL⟩ := h.cw
  obtain ⟨L', ⟨z', _, hb'⟩, hL'⟩ := k.cw
  obtain ⟨m', r', _, _, _, _, hg'⟩ := i'.pm
  obtain ⟨m, r, q1, q2, q3, q4, hgg⟩ := i.pm
  obtain ⟨z, qz, hb⟩ := hp
  have n1 : g ≠ t' := hgg.apart hb' (by decide)
  have n2 : t ≠ g' := hb.apart hg' (by decide)
  exact ⟨⟨B, v, ⟨tn.blk i.sx (i.sx.apart hg' (by decide)) (i.sx.apart hb' (by decide)), i.pl.tn tn hg' hb' (by decide) (by decide), ⟨m, r, q1, q2, q3, q4, tn.blk hgg hg n1⟩, i.n1, i.n4, i.lens, i.inr⟩⟩, ⟨L, ⟨z, qz, tn.blk hb n2 ht⟩, hL⟩, tn.below h.b h.b.size k.wg k.wt, h.wg, h.wt⟩

theorem Wd.next {B : Nat} {v : Value} (h : Wd w0 g x t ps l w) (i : Ix B w' x g t v ps l') (c : Cw w' t) (tn : Tn g t w w') : Wd w0 g x t ps l' w' := ⟨⟨B, v, i⟩, c, tn.below h.b h.b.size h.wg h.wt, h.wg, h.wt⟩

theorem map_w (d p f m c : Int) (h : Wd w0 g x t ps l w) (hc : ioMapC ps l d p f m = c) (hl : ioMapL ps l d p f m = l') :
    Calls Try.prog 16 #[.pointer (some ⟨x, 0, none⟩), .int .i64 d, .int .i64 p, .agg #[.int .i64 f, .int .i64 m]] w fun e w' => e = .returned (.int .i64 c) ∧ Wd w0 g x t ps l' w' ∧ Tn g t w w' := by
  subst hc hl
  obtain ⟨B, v, i⟩ := h.ix
  exact (map_any d p f m w i h.cw).mono fun e w' ⟨he, hi, hcw, tn⟩ => ⟨he, h.next hi hcw tn, tn⟩
theorem unmap_w (d p c : Int) (h : Wd w0 g x t ps l w) (hc : ioUnC ps l d p = c) (hl : ioUnL ps l d p = l') :
    Calls Try.prog 18 #[.pointer (some ⟨x, 0, none⟩), .int .i64 d, .int .i64 p] w fun e w' => e = .returned (.int .i64 c) ∧ Wd w0 g x t ps l' w' ∧ Tn g t w w' := by
  subst hc hl
  obtain ⟨B, v, i⟩ := h.ix
  exact (unmap_any d p w i h.cw).mono fun e w' ⟨he, hi, hcw, tn⟩ => ⟨he, h.next hi hcw tn, tn⟩
theorem clear_w (d c : Int) (h : Wd w0 g x t ps l w) (hc : ioClC ps d = c) (hl : ioClL ps l d = l') :
    Calls Try.prog 35 #[.pointer (some ⟨x, 0, none⟩), .int .i64 d] w fun e w' => e = .returned (.int .i64 c) ∧ Wd w0 g x t ps l' w' ∧ Tn g t w w' := by
  subst hc hl
  obtain ⟨B, v, i⟩ := h.ix
  exact (clear_any d w i h.cw).mono fun e w' ⟨he, hi, hcw, tn⟩ => ⟨he, h.next hi hcw tn, tn⟩
theorem tr_w (d a k c : Int) (write : Bool) (P : List (Nat × Nat × Nat)) (h : Wd w0 g x t ps l w) (hc : ioTrC ps l d a k write = c) (hP : ioTrP ps l d a k write = P) :
    Calls Try.prog 17 #[.pointer (some ⟨x, 0, none⟩), .int .i64 d, .int .i64 a, .int .i64 k, .bool write] w fun e w' => ∃ A cap, e = .returned (.tuple #[.slice A P.length cap, .int .i64 c]) ∧ w'.ownsRow w.heap.size 65 3 (.slice A P.length cap) P.length (flat P) ∧ Wd w0 g x t ps l w' ∧ Tn g t w w' := by
  subst hc hP
  obtain ⟨B, v, i⟩ := h.ix
  have fin : ∀ e w', TrP B x g t v ps l w (ioTrP ps l d a k write) (ioTrC ps l d a k write) e w' → ∃ A cap, e = .returned (.tuple #[.slice A (ioTrP ps l d a k write).length cap, .int .i64 (ioTrC ps l d a k write)]) ∧ w'.ownsRow w.heap.size 65 3 (.slice A (ioTrP ps l d a k write).length cap) (ioTrP ps l d a k write).length (flat (ioTrP ps l d a k write)) ∧ Wd w0 g x t ps l w' ∧ Tn g t w w' := by
    rintro e w' ⟨u, he, ho, hi, hcw, gr⟩
    obtain ⟨A, cap, rfl, _, _, _⟩ := own_slice ho
    have tn := (Tn.refl g t w).snd gr
    exact ⟨A, cap, he, ho, h.next hi hcw tn, tn⟩
  cases hB : ioTrB ps d a k with
  | false => exact (translate_no d a k write w i h.cw hB).mono fin
  | true =>
    have hB' := hB
    unfold ioTrB thB mayB at hB'
    simp only [Bool.and_eq_true, decide_eq_true_eq] at hB'
    obtain ⟨⟨⟨h0, h1, _⟩, h2, h3⟩, h4, _, h5, h6⟩ := hB'
    obtain ⟨a, rfl⟩ := Int.eq_ofNat_of_zero_le h4
    obtain ⟨k, rfl⟩ := Int.eq_ofNat_of_zero_le (by omega : 0 ≤ k)
    have e1 : ioTrC ps l d (a : Int) (k : Int) write = runC l (ioRoot ps d) write (spl a k) := by unfold ioTrC; rw [hB]; rfl
    have e2 : ioTrP ps l d (a : Int) (k : Int) write = if runC l (ioRoot ps d) write (spl a k) = 0 then (spl a k).map (fun x => ((wF l (ioRoot ps d) ((x.1 : Nat) : Int)).toNat, x.2.1, x.2.2)) else [] := by unfold ioTrP; rw [e1]; rfl
    refine (translate_yes d a k write w i h.cw h0 h1 (by omega) (by omega) (by omega)).mono ?_
    rw [← e1, ← e1] at *
    rw [← e2]
    exact fin
theorem new_w {Bp : Nat} {v : Value} (hp : PM w g l) (hb : Below w0.heap.size w0 w) (hg : w0.heap.size ≤ g) (ha : PL w Bp v ps) (hok : okP (frs l) ps = true) (hl : ps.flatten.foldl zeL l = l') :
    Calls Try.prog 11 #[.pointer (some ⟨g, 0, none⟩), v] w fun e w' => ∃ x t, e = .returned (.tuple #[.pointer (some ⟨x, 0, none⟩), .int .i64 0]) ∧ Wd w0 g x t ps l' w' ∧ w.grownBy w' (some g) ∧ w.heap.size ≤ t := by
  subst hl
  refine (new_yes7 g Bp v ps l w hp ha hok).mono ?_
  rintro e w' ⟨x, t, v', he, hi, hcw, gr, h1, h2⟩
  exact ⟨x, t, he, ⟨⟨_, _, hi⟩, hcw, bone hb gr hb.size hg, hg, Nat.le_trans hb.size h2⟩, gr, h2⟩
end

/-- Literal pools. -/
theorem PL.lit2 {w : World} {B a b c : Nat} {xs ys : List Int} (ha : Blk w a 3 (ints xs)) (hb : Blk w b 3 (ints ys)) (hc : Blk w c 35 [.slice (some ⟨a, 0, none⟩) xs.length xs.length, .slice (some ⟨b, 0, none⟩) ys.length ys.length]) (h1 : B ≤ a) (h2 : B ≤ b) (h3 : B ≤ c) (hx : xs.length ≤ 65536) (hy : ys.length ≤ 65536) :
    PL w B (.slice (some ⟨c, 0, none⟩) 2 2) [xs, ys] := by
  refine ⟨_, ⟨rfl, .inr ⟨c, 2, _, rfl, h3, hc, by simp, by unfold maxLen; omega, rfl, rfl⟩⟩, fun i hi => ?_⟩
  match i with
  | 0 => exact ⟨_, rfl, by simp [ints_len], .inr ⟨a, xs.length, _, rfl, h1, ha, Nat.le_refl _, by unfold maxLen; omega, by simp [ints_len], by simp [ints_len, List.getD, List.take_of_length_le]⟩⟩
  | 1 => exact ⟨_, rfl, by simp [ints_len], .inr ⟨b, ys.length, _, rfl, h2, hb, Nat.le_refl _, by unfold maxLen; omega, by simp [ints_len], by simp [ints_len, List.getD, List.take_of_length_le]⟩⟩
  | i + 2 => exact absurd hi (by simp only [List.length_cons, List.length_nil]; omega)
theorem PL.lit1 {w : World} {B a c : Nat} {xs : List Int} (ha : Blk w a 3 (ints xs)) (hc : Blk w c 35 [.slice (some ⟨a, 0, none⟩) xs.length xs.length]) (h1 : B ≤ a) (h3 : B ≤ c) (hx : xs.length ≤ 65536) :
    PL w B (.slice (some ⟨c, 0, none⟩) 1 1) [xs] := by
  refine ⟨_, ⟨rfl, .inr ⟨c, 1, _, rfl, h3, hc, by simp, by unfold maxLen; omega, rfl, rfl⟩⟩, fun i hi => ?_⟩
  match i with
  | 0 => exact ⟨_, rfl, by simp [ints_len], .inr ⟨a, xs.length, _, rfl, h1, ha, Nat.le_refl _, by unfold maxLen; omega, by simp [ints_len], by simp [ints_len, List.getD, List.take_of_length_le]⟩⟩
  | i + 1 => exact absurd hi (by simp only [List.length_cons, List.length_nil]; omega)

end Go.Proofs.Ytggdbiniklchoaa
