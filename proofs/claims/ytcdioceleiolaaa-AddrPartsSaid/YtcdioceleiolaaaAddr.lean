/-
  Layer 1's five laws: each answers true for every input.
-/
import Derived.Test.YtcdioceleiolaaaAwake
import Derived.Test.YtcdioceleiolaaaPlain2
namespace Go.Proofs.Ytcdioceleiolaaa
open Go.RowKit
set_option linter.unusedVariables false

theorem own_apart {wa wb : World} {B n m size size' : Nat} {e e' : TypeId} {va vb : Value} {xs ys : List Value} (oa : wa.ownsRow B e size va n xs) (ob : wb.ownsRow wa.heap.size e' size' vb m ys) : vb.ownBlock = none ∨ vb.ownBlock ≠ va.ownBlock := by
  cases h : vb.ownBlock with
  | none => exact .inl rfl
  | some k => exact .inr fun e => by have h1 := (ob.lt k h).1; have h2 := (oa.lt k e.symm).2; omega

/-- What is asked of a run. Kept closed to the walk. -/
def fitB (a n s : Int) : Bool := decide (0 ≤ a ∧ 0 ≤ n ∧ a ≤ s ∧ n ≤ s - a)
theorem fitB_yes {a n s : Int} (h : 0 ≤ a ∧ 0 ≤ n ∧ a ≤ s ∧ n ≤ s - a) : fitB a n s = true := by unfold fitB; exact decide_eq_true h
theorem fitB_no {a n s : Int} (h : ¬ (0 ≤ a ∧ 0 ≤ n ∧ a ≤ s ∧ n ≤ s - a)) : fitB a n s = false := by unfold fitB; exact decide_eq_false h

theorem may_any (a n s : Int) (w : World) (h4 : s ≤ 9223372036854775807) :
    Calls Try.prog 12 #[.int .i64 a, .int .i64 n, .int .i64 s] w fun e w' => e = .returned (.bool (fitB a n s)) ∧ w = w' := by
  by_cases h : 0 ≤ a ∧ 0 ≤ n ∧ a ≤ s ∧ n ≤ s - a
  · rw [fitB_yes h]; exact may_yes a n s w h.1 h.2.1 h.2.2.1 h.2.2.2 h4
  · rw [fitB_no h]; exact may_no a n s w h h4

theorem rmay_any (a n s : Int) (w : World) (h4 : s ≤ 9223372036854775807) :
    Calls Try.prog 13 #[.int .i64 a, .int .i64 n, .int .i64 s] w fun e w' => e = .returned (.bool (fitB a n s)) ∧ w = w' := by
  by_cases h : 0 ≤ a ∧ 0 ≤ n ∧ a ≤ s ∧ n ≤ s - a
  · rw [fitB_yes h]; exact rmay_yes a n s w h.1 h.2.1 h.2.2.1 h.2.2.2 h4
  · rw [fitB_no h]; exact rmay_no a n s w h h4

/-- What Split answers: pieces and a code. -/
def Ans (L : List (Nat × Nat × Nat)) (c : Int) (w : World) (e : Ending) (w' : World) : Prop :=
  ∃ v, e = .returned (.tuple #[v, .int .i64 c]) ∧ w'.ownsRow w.heap.size 35 3 v L.length (flat L) ∧ Below w.heap.size w w'

def ansL (a n : Int) : List (Nat × Nat × Nat) := if 0 ≤ a ∧ 0 ≤ n ∧ a ≤ 4096 ∧ n ≤ 4096 - a then spl a.toNat n.toNat else []
def ansC (a n : Int) : Int := if 0 ≤ a ∧ 0 ≤ n ∧ a ≤ 4096 ∧ n ≤ 4096 - a then 0 else 100

theorem ansL_len (a n : Int) : (ansL a n).length ≤ 65536 := by
  unfold ansL
  split
  · have := spl_len n.toNat a.toNat; omega
  · simp

theorem split_any (a n : Int) (w : World) : Calls Try.prog 8 #[.int .i64 a, .int .i64 n] w (Ans (ansL a n) (ansC a n) w) := by
  unfold ansL ansC
  by_cases h : 0 ≤ a ∧ 0 ≤ n ∧ a ≤ 4096 ∧ n ≤ 4096 - a
  · rw [if_pos h, if_pos h]
    exact split_yes a n w h.1 h.2.1 (by omega)
  · rw [if_neg h, if_neg h]
    refine (split_no a n w h).mono ?_
    rintro e w' ⟨rfl, rfl⟩
    exact ⟨_, rfl, World.ownsRow_nil _ _ _ _, Below.refl _ _⟩

theorem rsplit_any (a n : Int) (w : World) : Calls Try.prog 9 #[.int .i64 a, .int .i64 n] w (Ans (ansL a n) (ansC a n) w) := by
  unfold ansL ansC
  by_cases h : 0 ≤ a ∧ 0 ≤ n ∧ a ≤ 4096 ∧ n ≤ 4096 - a
  · rw [if_pos h, if_pos h]
    exact rsplit_yes a n w h.1 h.2.1 (by omega)
  · rw [if_neg h, if_neg h]
    refine (rsplit_no a n w h).mono ?_
    rintro e w' ⟨rfl, rfl⟩
    exact ⟨_, rfl, World.ownsRow_nil _ _ _ _, Below.refl _ _⟩

theorem law_Addrs (a n s : Int) (w0 : (Lit.int .i64 a).wf = true) (w1 : (Lit.int .i64 n).wf = true) (w2 : (Lit.int .i64 s).wf = true) (w : World) :
    Calls Try.prog 3 #[.int .i64 a, .int .i64 n, .int .i64 s] w fun e w' => e = .returned (.bool true) ∧ Below w.heap.size w w' := by
  have hs := (wfb w2).2
  clear w0 w1 w2
  have hll := ansL_len a n
  generalize hL : ansL a n = L at hll
  have HL := Lib.hid hL; clear hL
  generalize hC : ansC a n = C
  have HC := Lib.hid hC; clear hC
  go_enter Try.func3, Try.ntmps3
  go_wp2_with fail
  refine (split_any _ _ _).mono ?_
  rw [HL.out, HC.out]
  rintro e wa ⟨va, rfl, oa, ba⟩
  go_wp2_with fail
  refine (rsplit_any _ _ _).mono ?_
  rw [HL.out, HC.out]
  rintro e wb ⟨vb, rfl, ob, bb⟩
  have sa := Sl.own (own_below oa bb)
  have sb := Sl.own ob
  go_wp2_with fail
  refine (same_yes _ _ L _ sa sb hll).mono ?_
  rintro e w2 ⟨rfl, q, rfl⟩
  have OA := Lib.hid oa; have OB := Lib.hid ob; have SA := Lib.hid sa; have SB := Lib.hid sb; clear oa ob sa sb
  go_wp2_with (first
    | (go_at_call 11; refine (num_any _ _).mono ?_; rintro e w2 ⟨rfl, rfl⟩)
    | (go_at_call 12; refine (may_any _ _ _ _ (by omega)).mono ?_; rintro e w2 ⟨rfl, rfl⟩)
    | (go_at_call 13; refine (rmay_any _ _ _ _ (by omega)).mono ?_; rintro e w2 ⟨rfl, rfl⟩))
  refine (spoil_any va w.heap.size L.length (flat L) _ (own_drewN (own_below OA.out bb) q) (AllInts.flat L) hll).mono ?_
  rintro e w3 ⟨rfl, hg⟩
  have ob3 : w3.ownsRow wa.heap.size 35 3 vb L.length (flat L) := (own_drewN OB.out q).kept hg (own_apart OA.out OB.out)
  have b3 : Below w.heap.size w w3 := gbelow (bdrewN (Below.down ba bb ba.size) q) hg (Nat.le_trans ba.size bb.size) (fun k hk => (OA.out.lt k hk).1)
  have OB3 := Lib.hid ob3; clear ob3 hg
  go_wp2_with fail
  refine (split_any _ _ _).mono ?_
  rw [HL.out, HC.out]
  rintro e w4 ⟨vc, rfl, oc, bc⟩
  have sb := (Sl.own OB3.out).below bc
  have sc := Sl.own oc
  go_wp2_with fail
  refine (same_yes _ _ L _ sc sb hll).mono ?_
  rintro e w2 ⟨rfl, q2, rfl⟩
  clear sb sc oc
  go_wp2_with fail
  refine (awake_any _).mono ?_
  rintro e w5 ⟨rfl, b5⟩
  have b5' := Below.down (bdrewN (Below.down b3 bc b3.size) q2) b5 (Nat.le_trans b3.size bc.size)
  clear b5 b3 bc ba bb
  go_wp2_with fail
  go_ret
  exact ⟨rfl, b5'⟩

theorem law_AddrWhole (a n : Int) (w0 : (Lit.int .i64 a).wf = true) (w1 : (Lit.int .i64 n).wf = true) (w : World) :
    Calls Try.prog 4 #[.int .i64 a, .int .i64 n] w fun e w' => e = .returned (.bool true) ∧ Below w.heap.size w w' := by
  have hA := u64b a
  have hN := u64b n
  generalize hA' : IntKind.u64.wrap a = A at hA
  generalize hN' : IntKind.u64.wrap n = N at hN
  obtain ⟨hA0, hA1⟩ := hA
  obtain ⟨hN0, hN1⟩ := hN
  have hX0 : 0 ≤ A % 4096 := by omega
  have hX1 : A % 4096 ≤ 4095 := by omega
  generalize hX' : A % 4096 = X at hX0 hX1
  have hM0 : 0 ≤ N % (4096 - X + 1) := Int.emod_nonneg _ (by omega)
  have hM1 : N % (4096 - X + 1) < 4096 - X + 1 := Int.emod_lt_of_pos _ (by omega)
  generalize hM' : N % (4096 - X + 1) = M at hM0 hM1
  clear w0 w1
  go_enter Try.func4, Try.ntmps4
  go_wp2_with fail
  refine (awake_any _).mono ?_
  rintro e wa ⟨rfl, ba⟩
  go_wp2_with fail
  clear hA' hN' hX' hM' hA0 hA1 hN0 hN1
  obtain ⟨X, rfl⟩ := Int.eq_ofNat_of_zero_le hX0
  obtain ⟨M, rfl⟩ := Int.eq_ofNat_of_zero_le hM0
  refine (split_yes _ _ _ (by omega) (by omega) (by omega)).mono ?_
  rintro e wb ⟨v, rfl, ho, bb⟩
  simp only [Int.toNat_natCast] at ho
  have HP := pcs_of X M
  generalize hlen : (spl X M).length = len at *
  generalize spl X M = L at *
  have hs := Sl.own ho
  have bb' := Below.down ba bb ba.size
  clear ho bb ba hlen
  obtain ⟨Aa, c, rfl, hc, _, hcell⟩ := hs
  have hln := HP.short
  have HC := Lib.hid hcell; clear hcell
  go_wp2_with (go_at_call 11; refine (num_any _ _).mono ?_; rintro e w2 ⟨rfl, rfl⟩)
  go_loopw [9, 10] (fun t i wr => ∃ k Q : Nat, k ≤ len ∧ i = .int .i64 k ∧ t = .int .i64 ((X : Int) + Q) ∧ Q ≤ M ∧ Hid (pre L k = Q) ∧ Below wb.heap.size wb wr) (fun _ i _ => len - (intOf i).toNat)
  case atStart => exact ⟨0, 0, by omega, rfl, by simp, by omega, Lib.hid (pre_zero L), Below.refl _ _⟩
  case round =>
    obtain ⟨k, Q, hk, rfl, rfl, hQM, HQ, hb⟩ := hrel
    by_cases hlt : k < len
    · obtain ⟨b, o, rfl, hbl, hcell⟩ := HC.out (by omega)
      obtain ⟨p1, p2, p3, f1, f2, f3, g1, g2, g3, g4⟩ := HP.at_ k hlt
      have g5 := HP.le (k + 1) (by omega)
      rw [HQ.out] at g1 g4
      have HQ1 := Lib.hid g4
      rw [g4] at g5
      clear g4
      have a0 := (hb.cell (p := ⟨b, o + k * 3, none⟩) hbl).trans (hcell _ _ f1)
      have a1 := (hb.cell (p := ⟨b, o + (k * 3 + 1), none⟩) hbl).trans (hcell _ _ f2)
      have a2 := (hb.cell (p := ⟨b, o + (k * 3 + 2), none⟩) hbl).trans (hcell _ _ f3)
      simp only [← Nat.add_assoc] at a1 a2
      have hbx := hb.size
      have G1 : (p1 : Int) * 64 + p2 ≤ (X : Int) + Q := by omega
      have G2 : (X : Int) + Q ≤ (p1 : Int) * 64 + p2 := by omega
      have p1b : p1 ≤ 64 := by omega
      clear hcell f1 f2 f3 g1
      go_wp2
      go_roundw
      case rel => exact ⟨k + 1, Q + p3, by omega, by go_num, by go_num, g5, HQ1, hb.alloc hbx _⟩
      case measure => simp [intOf]; omega
    · have hlk : k = len := by omega
      have hQe : Q = M := by rw [← HQ.out, hlk]; exact HP.all
      have HQE := Lib.hid hQe
      clear hlk hQe
      have q1 : (X : Int) + Q ≤ X + M := by omega
      have q2 : (X : Int) + M ≤ X + Q := by have := HQE.out; omega
      go_wp2_with (go_at_call 12; refine (may_yes _ _ _ _ (by omega) (by omega) (by omega) (by omega) (by omega)).mono ?_; rintro e w2 ⟨rfl, rfl⟩)
      go_ret
      exact ⟨rfl, Below.down bb' hb bb'.size⟩

end Go.Proofs.Ytcdioceleiolaaa
