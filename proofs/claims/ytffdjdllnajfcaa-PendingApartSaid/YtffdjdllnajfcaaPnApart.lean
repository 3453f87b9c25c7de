/-
  Layer 12's law PendingApart: it answers true for every input.
-/
import Derived.Test.YtffdjdllnajfcaaPnOnce
namespace Go.Proofs.Ytffdjdllnajfcaa
open Go.RowKit Go.ChangeMaps
set_option linter.unusedVariables false
set_option maxRecDepth 100000

/-- Since W0: two Sets, at a (F waits) and at b (G waits). -/
def L2 (W0 : World) (a b : Nat) (F G : Nat → Bool) (us : List (Value × List Iq)) (w : World) : Prop := ∃ v xs O v' xs' O', Lg W0 [⟨b, 2, v', xs', O', G⟩, ⟨a, 2, v, xs, O, F⟩] us [] w
section
variable {W0 w w' : World} {a b : Nat} {F G : Nat → Bool} {us : List (Value × List Iq)}
theorem L2.next (h : L2 W0 a b F G us w) (hb : Below w.heap.size w w') : L2 W0 a b F G us w' := by obtain ⟨v, xs, O, v', xs', O', h⟩ := h; exact ⟨v, xs, O, v', xs', O', h.next hb⟩
theorem L2.drewN (h : L2 W0 a b F G us w) (q : Nat) : L2 W0 a b F G us (w.drewN q) := by obtain ⟨v, xs, O, v', xs', O', h⟩ := h; exact ⟨v, xs, O, v', xs', O', h.drewN q⟩
theorem L2.drop (h : L2 W0 a b F G us w) {us' : List (Value × List Iq)} (h1 : ∀ p ∈ us', p ∈ us) : L2 W0 a b F G us' w := by obtain ⟨v, xs, O, v', xs', O', h⟩ := h; exact ⟨v, xs, O, v', xs', O', h.drop h1 (fun _ h => h)⟩
theorem L2.below (h : L2 W0 a b F G us w) : Below W0.heap.size W0 w := by obtain ⟨v, xs, O, v', xs', O', h⟩ := h; exact h.below
theorem L2.sl (h : L2 W0 a b F G us w) {p : Value × List Iq} (hp : p ∈ us) : Sl w p.1 p.2.length 3 (iqs p.2) := by obtain ⟨v, xs, O, v', xs', O', h⟩ := h; exact Sl.own (h.held p hp).1
end
theorem l2new {W0 : World} {a : Nat} {F : Nat → Bool} (w : World) (h : L1 W0 a 2 F [] [] w) :
    Calls Try.prog 8 #[.int .i64 2] w fun e w' => ∃ b, e = .returned (.tuple #[.pointer (some ⟨b, 0, none⟩), .int .i64 0]) ∧ L2 W0 a b F (fun _ => false) [] w' := by
  obtain ⟨v, xs, O, h⟩ := h
  exact (pnew_yes 2 w (by decide) (by decide)).mono fun e w' ⟨he, v', xs', O', hn⟩ => ⟨_, he, v, xs, O, v', xs', O', h.made hn⟩
theorem l2raiseA {W0 : World} {a b : Nat} {F G : Nat → Bool} {us : List (Value × List Iq)} (p d k : Nat) (w : World) (h : L2 W0 a b F G us w) (hp : p < 2) (hd : d < 4) (hk : k < 8) :
    Calls Try.prog 12 #[.pointer (some ⟨a, 0, none⟩), .int .i64 p, .int .i64 d, .int .i64 k] w fun e w' => e = .returned (.tuple #[.bool (!F (p * 32 + (d * 8 + k))), .int .i64 0]) ∧ L2 W0 a b (putF F (p * 32 + (d * 8 + k))) G us w' := by
  obtain ⟨v, xs, O, v', xs', O', h⟩ := h
  refine (praise_yes a 2 v xs O F p d k w (h.ps ⟨a, 2, v, xs, O, F⟩ (by simp)) hp hd hk).mono ?_
  rintro e w' ⟨he, O2, hps, hO, fo⟩
  obtain ⟨h1, -⟩ := Lg.call (A := [⟨b, 2, v', xs', O', G⟩]) (B := []) h hps hO fo
  exact ⟨he, v, xs, O2, v', xs', O', h1⟩
theorem l2raiseB {W0 : World} {a b : Nat} {F G : Nat → Bool} {us : List (Value × List Iq)} (p d k : Nat) (w : World) (h : L2 W0 a b F G us w) (hp : p < 2) (hd : d < 4) (hk : k < 8) :
    Calls Try.prog 12 #[.pointer (some ⟨b, 0, none⟩), .int .i64 p, .int .i64 d, .int .i64 k] w fun e w' => e = .returned (.tuple #[.bool (!G (p * 32 + (d * 8 + k))), .int .i64 0]) ∧ L2 W0 a b F (putF G (p * 32 + (d * 8 + k))) us w' := by
  obtain ⟨v, xs, O, v', xs', O', h⟩ := h
  refine (praise_yes b 2 v' xs' O' G p d k w (h.ps ⟨b, 2, v', xs', O', G⟩ (by simp)) hp hd hk).mono ?_
  rintro e w' ⟨he, O2, hps, hO, fo⟩
  obtain ⟨h1, -⟩ := Lg.call (A := []) (B := [⟨a, 2, v, xs, O, F⟩]) h hps hO fo
  exact ⟨he, v, xs, O, v', xs', O2, h1⟩
theorem l2takeA {W0 : World} {a b : Nat} {F G : Nat → Bool} {us : List (Value × List Iq)} (p : Nat) (t : Int) (mv : Value) (M : List Iq) (nM : Nat) (w : World) (h : L2 W0 a b F G us w) (hp : p < 2) (hM : Sl w mv nM 3 (iqs M)) (hl : M.length = nM) (hn : nM ≤ 140737488355328) :
    Calls Try.prog 15 #[.pointer (some ⟨a, 0, none⟩), .int .i64 p, .int .i64 t, mv] w fun e w' => ∃ u, e = .returned u ∧ L2 W0 a b (takF F p M) G ((u, tks t (tkL (fun k => F (p * 32 + k)) M)) :: us) w' := by
  obtain ⟨v, xs, O, v', xs', O', h⟩ := h
  refine (ptake_yes a 2 v mv xs O F p t M nM w (h.ps ⟨a, 2, v, xs, O, F⟩ (by simp)) hp hM hl hn).mono ?_
  rintro e w' ⟨u, he, hu, O2, hps, hO, fo, hub⟩
  obtain ⟨h1, -⟩ := Lg.take (A := [⟨b, 2, v', xs', O', G⟩]) (B := []) (L := tks t (tkL (fun k => F (p * 32 + k)) M)) h hps hO fo (by rw [tks_len]; exact hu) hub
  exact ⟨u, he, v, xs, O2, v', xs', O', h1⟩
theorem l2takeB {W0 : World} {a b : Nat} {F G : Nat → Bool} {us : List (Value × List Iq)} (p : Nat) (t : Int) (mv : Value) (M : List Iq) (nM : Nat) (w : World) (h : L2 W0 a b F G us w) (hp : p < 2) (hM : Sl w mv nM 3 (iqs M)) (hl : M.length = nM) (hn : nM ≤ 140737488355328) :
    Calls Try.prog 15 #[.pointer (some ⟨b, 0, none⟩), .int .i64 p, .int .i64 t, mv] w fun e w' => ∃ u, e = .returned u ∧ L2 W0 a b F (takF G p M) ((u, tks t (tkL (fun k => G (p * 32 + k)) M)) :: us) w' := by
  obtain ⟨v, xs, O, v', xs', O', h⟩ := h
  refine (ptake_yes b 2 v' mv xs' O' G p t M nM w (h.ps ⟨b, 2, v', xs', O', G⟩ (by simp)) hp hM hl hn).mono ?_
  rintro e w' ⟨u, he, hu, O2, hps, hO, fo, hub⟩
  obtain ⟨h1, -⟩ := Lg.take (A := []) (B := [⟨a, 2, v, xs, O, F⟩]) (L := tks t (tkL (fun k => G (p * 32 + k)) M)) h hps hO fo (by rw [tks_len]; exact hu) hub
  exact ⟨u, he, v, xs, O, v', xs', O2, h1⟩

/-- The law's mask. -/
def mM : List Iq := [⟨0, 1, 2⟩]
theorem l2mA {W0 : World} {a b : Nat} {F G : Nat → Bool} {us : List (Value × List Iq)} (p : Nat) (t : Int) (w : World) (h : L2 W0 a b F G us w) (hp : p < 2) :
    Calls Try.prog 15 #[.pointer (some ⟨a, 0, none⟩), .int .i64 p, .int .i64 t, .slice (some ⟨w.heap.size, 0, none⟩) 1 1] (w.alloc (.cells #[.int .i64 0, .int .i64 1, .int .i64 2] 50)) fun e w' => ∃ u, e = .returned u ∧ L2 W0 a b (takF F p mM) G ((u, tks t (tkL (fun k => F (p * 32 + k)) mM)) :: us) w' :=
  l2takeA p t _ mM 1 _ (h.next ((Below.refl _ _).alloc (Nat.le_refl _) _)) hp (Sl.lit w (iqs mM) 1 3 50 rfl) rfl (by decide)
theorem l2mB {W0 : World} {a b : Nat} {F G : Nat → Bool} {us : List (Value × List Iq)} (p : Nat) (t : Int) (w : World) (h : L2 W0 a b F G us w) (hp : p < 2) :
    Calls Try.prog 15 #[.pointer (some ⟨b, 0, none⟩), .int .i64 p, .int .i64 t, .slice (some ⟨w.heap.size, 0, none⟩) 1 1] (w.alloc (.cells #[.int .i64 0, .int .i64 1, .int .i64 2] 50)) fun e w' => ∃ u, e = .returned u ∧ L2 W0 a b F (takF G p mM) ((u, tks t (tkL (fun k => G (p * 32 + k)) mM)) :: us) w' :=
  l2takeB p t _ mM 1 _ (h.next ((Below.refl _ _).alloc (Nat.le_refl _) _)) hp (Sl.lit w (iqs mM) 1 3 50 rfl) rfl (by decide)
theorem tkL_32 (F : Nat → Bool) (M : List Iq) (t : Int) : (tks t (tkL F M)).length ≤ 32 := by
  rw [tks_len]; unfold tkL; have := List.length_filter_le (fun k => F k && !mkB M k) (List.range 32); simpa using this

/-- What of the first part waits in both is the same; in the second one's other part nothing waits. -/
def Ag (F G : Nat → Bool) : Prop := (∀ k, k < 32 → G (0 * 32 + k) = F (0 * 32 + k)) ∧ ∀ k, k < 32 → G (1 * 32 + k) = false
/-- The law's state. -/
def Ap (W0 : World) (a b : Nat) (w : World) : Prop := ∃ F G, L2 W0 a b F G [] w ∧ Ag F G
theorem Ag.rF {F G : Nat → Bool} {k : Nat} (h : Ag F G) (hk : k < 32) : Ag (putF F (1 * 32 + k)) G := by
  refine ⟨fun i hi => ?_, h.2⟩
  unfold putF; rw [if_neg (by omega)]; exact h.1 i hi
theorem Ag.rB {F G : Nat → Bool} {k : Nat} (h : Ag F G) (hk : k < 32) : Ag (putF F (0 * 32 + k)) (putF G (0 * 32 + k)) := by
  refine ⟨fun i hi => ?_, fun i hi => ?_⟩
  · unfold putF
    by_cases e : 0 * 32 + i = 0 * 32 + k
    · rw [if_pos e, if_pos e]
    · rw [if_neg e, if_neg e]; exact h.1 i hi
  · unfold putF; rw [if_neg (by omega)]; exact h.2 i hi
theorem Ag.tF {F G : Nat → Bool} {M : List Iq} (h : Ag F G) : Ag (takF F 1 M) G := by
  refine ⟨fun i hi => ?_, h.2⟩
  rw [takF_far hi (by omega)]; exact h.1 i hi
theorem Ag.tB {F G : Nat → Bool} {M : List Iq} (h : Ag F G) : Ag (takF F 0 M) (takF G 0 M) := by
  refine ⟨fun i hi => ?_, fun i hi => ?_⟩
  · unfold takF
    rw [if_pos (by omega), if_pos (by omega), h.1 i hi]
  · rw [takF_far hi (by omega)]; exact h.2 i hi

set_option maxHeartbeats 4000000 in
theorem law_PendingApart (v : Value) (n : Nat) (zs : List Int) (w : World) (hv : Sl w v n 1 (ints zs)) (hn : n ≤ maxLen) :
    Calls Try.prog 7 #[v] w fun e w' => e = .returned (.bool true) ∧ Below w.heap.size w w' := by
  obtain ⟨A, cap, rfl⟩ : ∃ A cap, v = .slice A n cap := by obtain ⟨A, c, e, _⟩ := hv; exact ⟨A, c, e⟩
  unfold maxLen at hn
  have HV := Lib.hid hv; clear hv
  go_enter Try.func7, Try.ntmps7
  go_wp2_with fail
  refine (pawake_any _).mono ?_
  rintro e wa ⟨rfl, ba⟩
  have BA := Lib.hid ba
  clear ba
  go_wp2_with fail
  have c1 : Calls Try.prog 8 #[.int .i64 2] wa fun e w' => ∃ s, e = .returned (.tuple #[.pointer (some ⟨s, 0, none⟩), .int .i64 0]) ∧ L1 wa s 2 (fun _ => false) [] [] w' := l1new 2 wa (by decide) (by decide)
  refine c1.mono ?_
  clear c1
  rintro e w1 ⟨a, rfl, l1⟩
  have L := Lib.hid l1
  clear l1
  go_wp2_with fail
  refine (l2new w1 L.out).mono ?_
  clear L
  rintro e w2 ⟨b, rfl, l2⟩
  have A0 : Hid (Ap wa a b w2) := Lib.hid ⟨_, _, l2, fun _ _ => rfl, fun _ _ => rfl⟩
  clear l2
  go_wp2_with fail
  refine (num_any _ _).mono ?_
  rintro e w' ⟨rfl, rfl⟩
  go_wp2_with fail
  refine (num_any _ _).mono ?_
  rintro e w' ⟨rfl, rfl⟩
  go_wp2_with fail
  go_loopw [7] (fun i wr => ∃ (k : Nat), k ≤ n ∧ k ≤ 60 ∧ i = .int .i64 k ∧ Hid (Ap wa a b wr)) (fun i _ => 60 - (intOf i).toNat)
  case atStart => exact ⟨0, by omega, by omega, rfl, A0⟩
  case round =>
    clear A0
    obtain ⟨k, hkn, hk60, rfl, HA⟩ := hrel
    obtain ⟨F, G, l0, hag⟩ := HA.out
    have L0 := Lib.hid l0
    have AG := Lib.hid hag
    clear l0 hag HA
    have hbel : Below w.heap.size w wr := Below.down BA.out L0.out.below BA.out.size
    by_cases hgo : k < n ∧ k < 60
    · obtain ⟨hlt, h60⟩ := hgo
      obtain ⟨b5, o, cap', e, hbw, hcell⟩ := sl1_at (HV.out.below hbel) k hlt
      simp only [Value.slice.injEq] at e
      obtain ⟨rfl, -, -⟩ := e
      generalize zs.getD k 0 = q at *
      have hP := band q 1 (by omega) (by omega)
      have hK := band (q / 2) 31 (by omega) (by omega)
      have hX := band (q / 64) 7 (by omega) (by omega)
      generalize hP' : bits BinOp.and IntKind.i64 q 1 = P at hP
      generalize hK' : bits BinOp.and IntKind.i64 (q / 2) 31 = K at hK
      generalize hX' : bits BinOp.and IntKind.i64 (q / 64) 7 = X at hX
      obtain ⟨hP0, hP1⟩ := hP
      obtain ⟨hK0, hK1⟩ := hK
      obtain ⟨hX0, hX1⟩ := hX
      clear hbel
      have h60I : (k : Int) < 60 := by omega
      have hltI : (k : Int) < (n : Int) := by omega
      go_wp2_with fail
      go_quiet (fail)
      have L1_ := Lib.hid (L0.out.drewN nq)
      have hc1 : (wr.drewN nq).cell? ⟨b5, o + k, none⟩ = some (.int .i64 q) := hcell
      have hbw1 : b5 < (wr.drewN nq).heap.size := hbw
      clear L0 hcell hbw
      generalize wr.drewN nq = wd at *
      obtain ⟨p, c, d, v, -, rfl, hcd, -, hd4, hv8, e1, e2⟩ := parts_of 0 K (by omega) (by omega) hK0 hK1
      have hc32 : c < 32 := by omega
      have HCD := Lib.hid hcd
      clear hcd hP' hK'
      by_cases hX2 : X = 0
      · subst hX2
        rcases (show P = 0 ∨ P = 1 by omega) with rfl | rfl
        · have cA : Calls Try.prog 15 #[.pointer (some ⟨a, 0, none⟩), .int .i64 0, .int .i64 k, .slice (some ⟨wd.heap.size, 0, none⟩) 1 1] (wd.alloc (.cells #[.int .i64 0, .int .i64 1, .int .i64 2] 50)) fun e w' => ∃ u, e = .returned u ∧ L2 wa a b (takF F 0 mM) G [(u, tks k (tkL (fun k => F (0 * 32 + k)) mM))] w' := l2mA 0 k wd L1_.out (by decide)
          clear hX0 hX1 hP0 hP1
          go_wp2_with fail
          refine cA.mono ?_
          clear cA
          rintro e w3 ⟨x3, rfl, l3⟩
          have cB : Calls Try.prog 15 #[.pointer (some ⟨b, 0, none⟩), .int .i64 0, .int .i64 k, .slice (some ⟨w3.heap.size, 0, none⟩) 1 1] (w3.alloc (.cells #[.int .i64 0, .int .i64 1, .int .i64 2] 50)) fun e w' => ∃ u, e = .returned u ∧ L2 wa a b (takF F 0 mM) (takF G 0 mM) [(u, tks k (tkL (fun k => F (0 * 32 + k)) mM)), (x3, tks k (tkL (fun k => F (0 * 32 + k)) mM))] w' := by
            have h := l2mB 0 k w3 l3 (by decide)
            rw [tkL_congr (F := fun k => G (0 * 32 + k)) (G := fun k => F (0 * 32 + k)) mM (fun i hi => AG.out.1 i hi)] at h
            exact h
          clear L1_ l3 hc1 hbw1
          go_wp2_with fail
          refine cB.mono ?_
          clear cB
          rintro e w4 ⟨x4, rfl, l4⟩
          have hT32 := tkL_32 (fun k => F (0 * 32 + k)) mM k
          have cS := same_iqs x3 x4 _ (tks k (tkL (fun k => F (0 * 32 + k)) mM)) w4 (l4.sl (p := (x3, tks k (tkL (fun k => F (0 * 32 + k)) mM))) (by simp)) (l4.sl (p := (x4, tks k (tkL (fun k => F (0 * 32 + k)) mM))) (by simp)) rfl (by unfold maxLen; simp only; omega)
          have L4 := Lib.hid l4
          clear l4 hT32
          go_wp2_with fail
          refine cS.mono ?_
          clear cS
          rintro e w' ⟨rfl, qs, rfl⟩
          have A5 : Hid (Ap wa a b (w4.drewN qs)) := Lib.hid ⟨_, _, (L4.out.drewN qs).drop (by simp), AG.out.tB⟩
          clear L4
          generalize w4.drewN qs = w5 at *
          go_wp2_with fail
          go_roundw
          case rel => exact ⟨k + 1, by omega, by omega, by go_num, A5⟩
          case measure => simp [intOf]; omega
        · have cA : Calls Try.prog 15 #[.pointer (some ⟨a, 0, none⟩), .int .i64 1, .int .i64 k, .slice (some ⟨wd.heap.size, 0, none⟩) 1 1] (wd.alloc (.cells #[.int .i64 0, .int .i64 1, .int .i64 2] 50)) fun e w' => ∃ u, e = .returned u ∧ L2 wa a b (takF F 1 mM) G [(u, tks k (tkL (fun k => F (1 * 32 + k)) mM))] w' := l2mA 1 k wd L1_.out (by decide)
          clear hX0 hX1 hP0 hP1
          go_wp2_with fail
          refine cA.mono ?_
          clear cA
          rintro e w3 ⟨x3, rfl, l3⟩
          have A5 : Hid (Ap wa a b w3) := Lib.hid ⟨_, _, l3.drop (by simp), AG.out.tF⟩
          clear l3 L1_ hc1 hbw1
          go_wp2_with fail
          go_roundw
          case rel => exact ⟨k + 1, by omega, by omega, by go_num, A5⟩
          case measure => simp [intOf]; omega
      · have hXb : (X == 0) = false := by simpa using hX2
        clear hX2
        rcases (show P = 0 ∨ P = 1 by omega) with rfl | rfl
        · have cA : Calls Try.prog 12 #[.pointer (some ⟨a, 0, none⟩), .int .i64 0, .int .i64 d, .int .i64 v] wd fun e w' => e = .returned (.tuple #[.bool (!F (0 * 32 + c)), .int .i64 0]) ∧ L2 wa a b (putF F (0 * 32 + c)) G [] w' := by
            have h := l2raiseA 0 d v wd L1_.out (by decide) hd4 hv8
            rw [← HCD.out] at h
            exact h
          clear hP0 hP1
          go_wp2_with fail
          refine cA.mono ?_
          clear cA
          rintro e w3 ⟨rfl, l3⟩
          have cB : Calls Try.prog 12 #[.pointer (some ⟨b, 0, none⟩), .int .i64 0, .int .i64 d, .int .i64 v] w3 fun e w' => e = .returned (.tuple #[.bool (!F (0 * 32 + c)), .int .i64 0]) ∧ L2 wa a b (putF F (0 * 32 + c)) (putF G (0 * 32 + c)) [] w' := by
            have h := l2raiseB 0 d v w3 l3 (by decide) hd4 hv8
            rw [← HCD.out, AG.out.1 c hc32] at h
            exact h
          clear l3 L1_ hc1 hbw1
          obtain ⟨r, hr⟩ : ∃ r, (!F (0 * 32 + c)) = r := ⟨_, rfl⟩
          rw [hr] at cB ⊢
          clear hr
          go_wp2_with fail
          refine cB.mono ?_
          clear cB
          rintro e w4 ⟨rfl, l4⟩
          have A5 : Hid (Ap wa a b w4) := Lib.hid ⟨_, _, l4, AG.out.rB hc32⟩
          have hrr : (r != r) = false := by simp
          clear l4
          go_wp2_with fail
          refine (num_any _ _).mono ?_
          rintro e w' ⟨rfl, rfl⟩
          go_wp2_with fail
          refine (num_any _ _).mono ?_
          rintro e w' ⟨rfl, rfl⟩
          go_wp2_with fail
          go_roundw
          case rel => exact ⟨k + 1, by omega, by omega, by go_num, A5⟩
          case measure => simp [intOf]; omega
        · have cA : Calls Try.prog 12 #[.pointer (some ⟨a, 0, none⟩), .int .i64 1, .int .i64 d, .int .i64 v] wd fun e w' => e = .returned (.tuple #[.bool (!F (1 * 32 + c)), .int .i64 0]) ∧ L2 wa a b (putF F (1 * 32 + c)) G [] w' := by
            have h := l2raiseA 1 d v wd L1_.out (by decide) hd4 hv8
            rw [← HCD.out] at h
            exact h
          clear hP0 hP1
          go_wp2_with fail
          refine cA.mono ?_
          clear cA
          rintro e w3 ⟨rfl, l3⟩
          have A5 : Hid (Ap wa a b w3) := Lib.hid ⟨_, _, l3, AG.out.rF hc32⟩
          clear l3 L1_ hc1 hbw1
          go_wp2_with fail
          go_roundw
          case rel => exact ⟨k + 1, by omega, by omega, by go_num, A5⟩
          case measure => simp [intOf]; omega
    · have hx : (k : Int) ≥ n ∨ ((k : Int) < n ∧ decide ((k : Int) < 60) = false) := by
        by_cases h1 : k < n
        · exact .inr ⟨by omega, by simp; omega⟩
        · exact .inl (by omega)
      clear hgo hbel
      rcases hx with hx | ⟨hx, hx2⟩
      all_goals
        have cA : Calls Try.prog 15 #[.pointer (some ⟨a, 0, none⟩), .int .i64 0, .int .i64 99, .slice none 0 0] wr fun e w' => ∃ u, e = .returned u ∧ L2 wa a b (takF F 0 []) G [(u, tks 99 (tkL (fun k => F (0 * 32 + k)) []))] w' := l2takeA 0 99 _ [] 0 wr L0.out (by decide) (sl_nil wr) rfl (by decide)
        go_wp2_with fail
        refine cA.mono ?_
        clear cA
        rintro e w3 ⟨x3, rfl, l3⟩
        have cB : Calls Try.prog 15 #[.pointer (some ⟨b, 0, none⟩), .int .i64 0, .int .i64 99, .slice none 0 0] w3 fun e w' => ∃ u, e = .returned u ∧ L2 wa a b (takF F 0 []) (takF G 0 []) [(u, tks 99 (tkL (fun k => F (0 * 32 + k)) [])), (x3, tks 99 (tkL (fun k => F (0 * 32 + k)) []))] w' := by
          have h := l2takeB 0 99 _ [] 0 w3 l3 (by decide) (sl_nil w3) rfl (by decide)
          rw [tkL_congr (F := fun k => G (0 * 32 + k)) (G := fun k => F (0 * 32 + k)) [] (fun i hi => AG.out.1 i hi)] at h
          exact h
        clear l3
        go_wp2_with fail
        refine cB.mono ?_
        clear cB
        rintro e w4 ⟨x4, rfl, l4⟩
        have hT32 := tkL_32 (fun k => F (0 * 32 + k)) [] 99
        have cS := same_iqs x3 x4 _ (tks 99 (tkL (fun k => F (0 * 32 + k)) [])) w4 (l4.sl (p := (x3, tks 99 (tkL (fun k => F (0 * 32 + k)) []))) (by simp)) (l4.sl (p := (x4, tks 99 (tkL (fun k => F (0 * 32 + k)) []))) (by simp)) rfl (by unfold maxLen; simp only; omega)
        have L4 := Lib.hid l4
        clear l4 hT32
        go_wp2_with fail
        refine cS.mono ?_
        clear cS
        rintro e w' ⟨rfl, qs, rfl⟩
        have l5 := L4.out.drewN qs
        generalize w4.drewN qs = w5 at *
        have cC : Calls Try.prog 15 #[.pointer (some ⟨b, 0, none⟩), .int .i64 1, .int .i64 99, .slice none 0 0] w5 fun e w' => ∃ A c, e = .returned (.slice A 0 c) ∧ Below wa.heap.size wa w' := by
          have h := l2takeB 1 99 _ [] 0 w5 l5 (by decide) (sl_nil w5) rfl (by decide)
          rw [tkL_none [] (fun i hi => by rw [takF_far hi (by omega)]; exact AG.out.2 i hi)] at h
          refine h.mono ?_
          rintro e w' ⟨u, rfl, h1⟩
          obtain ⟨A, c, hu, -⟩ := h1.sl (p := (u, tks 99 [])) (by simp)
          have hu' : u = .slice A 0 c := hu
          exact ⟨A, c, by rw [hu'], h1.below⟩
        clear l5 L4
        go_wp2_with fail
        refine cC.mono ?_
        clear cC
        rintro e w6 ⟨A6, cp6, rfl, b6⟩
        have HB := Lib.hid (Below.down BA.out b6 BA.out.size)
        clear b6
        go_wp2_with fail
        go_ret
        exact ⟨rfl, HB.out⟩
end Go.Proofs.Ytffdjdllnajfcaa
