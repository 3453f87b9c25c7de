/-
  Layer 2's law OwnerRows: it answers true for every input.
-/
import Derived.Test.YtcplbjidilddiaaOwnLast
import Derived.StillTailTactics
namespace Go.Proofs.Ytcplbjidilddiaa
open Go.RowKit
set_option linter.unusedVariables false

/-- A table at g (said by l) beside an array of the law's own at h (said by l too), another table at f. -/
def Trip (h g f : Nat) (q : List Int) (w wq : World) : Prop := ∃ l : List Int, Hid (l.length = 16) ∧ Hid (∀ x ∈ l, -2 ≤ x ∧ x ≤ 3) ∧ Blk wq h 49 (ints l) ∧ Tab wq g l ∧ Tab wq f q ∧ Below w.heap.size w wq

/-- The first table done; the second on the way: the places C, C+1, .. (k of them, mod 16) have l's owners. -/
def Round (l q : List Int) (C k : Nat) : Prop := q.length = 16 ∧ ∀ j, j < k → q.getD ((j + C) % 16) 0 = l.getD ((j + C) % 16) 0
theorem Round.step {l q : List Int} {C k : Nat} (h : Round l q C k) (hk : k < 16) : Round l (q.set ((k + C) % 16) (l.getD ((k + C) % 16) 0)) C (k + 1) := by
  refine ⟨by simpa using h.1, fun j hj => ?_⟩
  have hl := h.1
  simp only [List.getD, List.getElem?_set]
  by_cases e : (k + C) % 16 = (j + C) % 16
  · rw [e, if_pos rfl, if_pos (by omega), Option.getD_some]
  · rw [if_neg e]
    exact h.2 j (by omega)
theorem Round.done {l q : List Int} {C : Nat} (h : Round l q C 16) (hl : l.length = 16) : q = l := by
  apply List.ext_getElem (by rw [h.1, hl])
  intro i h1 h2
  have hi : i < 16 := by omega
  have := h.2 ((i + 16 - C % 16) % 16) (by omega)
  rw [show ((i + 16 - C % 16) % 16 + C) % 16 = i by omega] at this
  simpa [List.getD, List.getElem?_eq_getElem h1, List.getElem?_eq_getElem h2] using this

/-- The second table on the way. -/
def Half2 (f : Nat) (l : List Int) (C k : Nat) (w : World) : Prop := ∃ q : List Int, Tab w f q ∧ Round l q C k

/-- A sum masked by 15. -/
theorem band15 (x : Int) (h0 : 0 ≤ x) (h1 : x ≤ 1000) : bits BinOp.and IntKind.i64 x 15 = x % 16 := by
  obtain ⟨n, rfl⟩ := Int.eq_ofNat_of_zero_le h0
  have e1 : (BitVec.ofInt 64 (n : Int)).toNat = n := by rw [BitVec.ofInt_natCast, BitVec.toNat_ofNat]; exact Nat.mod_eq_of_lt (by omega)
  have e2 : (BitVec.ofInt 64 (15 : Int)).toNat = 2 ^ 4 - 1 := by decide
  show IntKind.i64.wrap ((BitVec.ofInt 64 (n : Int) &&& BitVec.ofInt 64 (15 : Int)).toNat : Int) = _
  rw [BitVec.toNat_and, e1, e2, Nat.and_two_pow_sub_one_eq_mod, IntKind.wrap_i64]
  omega

set_option maxRecDepth 100000 in
set_option maxHeartbeats 2000000 in
theorem law_OwnerRows (v : Value) (n : Nat) (zs : List Int) (cut : Int) (w : World) (hv : Sl w v n 2 (ints zs)) (hn : n ≤ maxLen) :
    Calls Try.prog 6 #[v, .int .i64 cut] w fun e w' => e = .returned (.bool true) ∧ Below w.heap.size w w' := by
  obtain ⟨A, cap, rfl⟩ : ∃ A cap, v = .slice A n cap := by obtain ⟨A, c, e, _⟩ := hv; exact ⟨A, c, e⟩
  unfold maxLen at hn
  have HV := Lib.hid hv; clear hv
  have hC := band cut 15 (by omega) (by omega)
  generalize hC' : bits BinOp.and IntKind.i64 cut 15 = C at hC
  obtain ⟨hC0, hC1⟩ := hC
  obtain ⟨C, rfl⟩ := Int.eq_ofNat_of_zero_le hC0
  go_enter Try.func6, Try.ntmps6
  go_wp2_with fail
  refine (awake_any _).mono ?_
  rintro e wa ⟨rfl, ba⟩
  have hsa := ba.size
  go_wp2_with fail
  refine (pnew 16 _ (by omega) (by omega)).mono ?_
  rintro e w1 ⟨rfl, t1, b1⟩
  have b1' := Below.down ba b1 hsa
  have hs1 := b1.size
  have hs1' := b1'.size
  generalize hg : wa.heap.size = g at *
  have HG := Lib.hid hg; clear hg b1 ba
  have hgl := t1.lt
  go_wp2_with fail
  refine (pnew 16 _ (by omega) (by omega)).mono ?_
  rintro e w2 ⟨rfl, t2, b2⟩
  have t1' := t1.below b2 t1.lt
  have b2' := Below.down b1' b2 hs1'
  have hs2 := b2.size
  have hs2' := b2'.size
  generalize hf : w1.heap.size = f at *
  have HF := Lib.hid hf; clear hf b2 b1' t1
  have hfl := t2.lt
  have hgf : g ≠ f := by omega
  go_wp2_with (go_at_call 9; refine (num_any _ _).mono ?_; rintro e w' ⟨rfl, rfl⟩)
  have hz : Blk (w2.alloc (.cells #[.int .i64 0, .int .i64 0, .int .i64 0, .int .i64 0, .int .i64 0, .int .i64 0, .int .i64 0, .int .i64 0, .int .i64 0, .int .i64 0, .int .i64 0, .int .i64 0, .int .i64 0, .int .i64 0, .int .i64 0, .int .i64 0] 49)) w2.heap.size 49 (ints (fillN 16 0)) := Blk.new _ _ _
  have tz := t1'.below ((Below.refl _ _).alloc (Nat.le_refl _) (.cells #[.int .i64 0, .int .i64 0, .int .i64 0, .int .i64 0, .int .i64 0, .int .i64 0, .int .i64 0, .int .i64 0, .int .i64 0, .int .i64 0, .int .i64 0, .int .i64 0, .int .i64 0, .int .i64 0, .int .i64 0, .int .i64 0] 49)) t1'.lt
  have uz := t2.below ((Below.refl _ _).alloc (Nat.le_refl _) (.cells #[.int .i64 0, .int .i64 0, .int .i64 0, .int .i64 0, .int .i64 0, .int .i64 0, .int .i64 0, .int .i64 0, .int .i64 0, .int .i64 0, .int .i64 0, .int .i64 0, .int .i64 0, .int .i64 0, .int .i64 0, .int .i64 0] 49)) t2.lt
  have bz := b2'.alloc hs2' (.cells #[.int .i64 0, .int .i64 0, .int .i64 0, .int .i64 0, .int .i64 0, .int .i64 0, .int .i64 0, .int .i64 0, .int .i64 0, .int .i64 0, .int .i64 0, .int .i64 0, .int .i64 0, .int .i64 0, .int .i64 0, .int .i64 0] 49)
  generalize (w2.alloc (.cells #[.int .i64 0, .int .i64 0, .int .i64 0, .int .i64 0, .int .i64 0, .int .i64 0, .int .i64 0, .int .i64 0, .int .i64 0, .int .i64 0, .int .i64 0, .int .i64 0, .int .i64 0, .int .i64 0, .int .i64 0, .int .i64 0] 49)) = wz at *
  generalize hh : w2.heap.size = h at *
  have HH := Lib.hid hh; clear hh t1' t2 b2'
  have hgh : g ≠ h := by omega
  have hfh : f ≠ h := by omega
  have hwh : w.heap.size ≤ h := by omega
  have hwg : w.heap.size ≤ g := by omega
  have hwf : w.heap.size ≤ f := by omega
  go_loopw [10] (fun i wr => ∃ k : Nat, k ≤ 16 ∧ i = .int .i64 k ∧ Blk wr h 49 (ints (fillN 16 k)) ∧ Tab wr g (free 16) ∧ Tab wr f (free 16) ∧ Below w.heap.size w wr) (fun i _ => 16 - (intOf i).toNat)
  case atStart => exact ⟨0, by omega, rfl, hz, tz, uz, bz⟩
  case round =>
    obtain ⟨k, hk, rfl, hb, ht, hu, hbel⟩ := hrel
    by_cases hlt : k < 16
    · have hc := hb.int (k := k) (by rw [fillN_len 16 k hk]; exact hlt)
      generalize (fillN 16 k).getD k 0 = u at hc
      have hf := hb.frozen k
      have hb' := hb.setInt k (-1)
      rw [fillN_set 16 k hlt] at hb'
      have ht' : Tab (wr.setCell ⟨h, k, none⟩ (.int .i64 (-1))) g (free 16) := by obtain ⟨hl, r, hr, hh⟩ := ht; exact ⟨hl, r, hr, hh.far hgh _⟩
      have hu' : Tab (wr.setCell ⟨h, k, none⟩ (.int .i64 (-1))) f (free 16) := by obtain ⟨hl, r, hr, hh⟩ := hu; exact ⟨hl, r, hr, hh.far hfh _⟩
      have hbel' := hbel.setCell (p := ⟨h, k, none⟩) hwh (.int .i64 (-1))
      clear hz tz uz bz hb ht hu hbel
      go_wp2
      go_roundw
      case rel => exact ⟨k + 1, by omega, by go_num, hb', ht', hu', hbel'⟩
      case measure => simp [intOf]; omega
    · obtain rfl : k = 16 := by omega
      rw [fillN_all] at hb
      have hfl := free_len 16
      have hfr := free_range 16
      generalize hq : free 16 = q at *
      clear hz tz uz bz hlt
      have HFL := Lib.hid hfl; have HFR := Lib.hid hfr; clear hfl hq hfr
      have HQ : Hid (q.length = 16) := HFL
      rw [show ((16 : Nat) : Int) = 16 from rfl]
      go_wp2_with fail
      go_loopw [11] (fun i wq => ∃ (k : Nat), k ≤ n ∧ i = .int .i64 k ∧ Trip h g f q w wq) (fun i _ => n - (intOf i).toNat)
      case atStart => exact ⟨0, by omega, rfl, q, HFL, HFR, hb, ht, hu, hbel⟩
      case round =>
        clear ht hb hu hbel HFL HFR
        obtain ⟨k, hk, rfl, l, HFL, HFR, hb, ht, hu, hbel⟩ := hrel
        by_cases hgo : k < n ∧ k < 40
        · obtain ⟨hkn, hk40⟩ := hgo
          have hd : decide ((k : Int) < 40) = true := by simp; omega
          obtain ⟨b, o, rfl, hblt, c0, c1⟩ := rec2 HV.out k hkn
          replace c0 := (hbel.cell (p := ⟨b, o + k * 2, none⟩) hblt).trans c0
          replace c1 := (hbel.cell (p := ⟨b, o + k * 2 + 1, none⟩) hblt).trans c1
          generalize zs.getD (k * 2) 0 = F at c0
          generalize zs.getD (k * 2 + 1) 0 = O at c1
          have hX := band F 15 (by omega) (by omega)
          have hY := band O 3 (by omega) (by omega)
          generalize hX' : bits BinOp.and IntKind.i64 F 15 = X at hX
          generalize hY' : bits BinOp.and IntKind.i64 O 3 = Y at hY
          obtain ⟨hX0, hX1⟩ := hX
          obtain ⟨hY0, hY1⟩ := hY
          obtain ⟨x, rfl⟩ := Int.eq_ofNat_of_zero_le hX0
          go_wp2_with fail
          go_still_tail 13, (by kernel_rfl)
          change wpList _ _ _ _ _ wr.drew
          have ht1 : Tab wr.drew g l := ht
          have hb1 : Blk wr.drew h 49 (ints l) := hb
          have hu1 : Tab wr.drew f q := hu
          have bel1 : Below w.heap.size w wr.drew := hbel.drew
          have d0 : wr.drew.cell? ⟨b, o + k * 2, none⟩ = some (.int .i64 F) := c0
          have d1 : wr.drew.cell? ⟨b, o + k * 2 + 1, none⟩ = some (.int .i64 O) := c1
          clear ht hb hu hbel c0 c1
          generalize wr.drew = wd at *
          go_wp2_with fail
          refine (pset_is g l (l.set x Y) _ _ 0 _ ht1 (by rw [(set_yes l x Y (by have := HFL.out; omega)).1, Int.toNat_natCast]) (set_yes l x Y (by have := HFL.out; omega)).2).mono ?_
          rintro e w3 ⟨rfl, t3, g3⟩
          have hb3 := hb1.grown g3 (by intro e; injection e with e; omega)
          have hu3 := hu1.grown g3 (by intro e; injection e with e; omega)
          have bel3 := bone bel1 g3 bel1.size hwg
          have e0 : w3.cell? ⟨b, o + k * 2, none⟩ = some (.int .i64 F) := (World.cell?_of_block (g3.block b (Nat.lt_of_lt_of_le hblt bel1.size) (by intro e; injection e with e; omega))).trans d0
          have e1 : w3.cell? ⟨b, o + k * 2 + 1, none⟩ = some (.int .i64 O) := (World.cell?_of_block (g3.block b (Nat.lt_of_lt_of_le hblt bel1.size) (by intro e; injection e with e; omega))).trans d1
          have hc := hb3.int (k := x) (by have := HFL.out; omega)
          generalize l.getD x 0 = u at hc
          have hf := hb3.frozen x
          have hx16 : (x : Int) < 16 := by omega
          have hx17 : x < 16 := by omega
          clear ht1 hb1 hu1 bel1 d0 d1 g3
          go_wp2_with fail
          go_still_tail 13, (by kernel_rfl)
          change wpList _ _ _ _ _ w3.drew
          have t4 : Tab w3.drew g (l.set x Y) := t3
          have u4 : Tab w3.drew f q := hu3
          have hc4 : w3.drew.cell? ⟨h, x, none⟩ = some (.int .i64 u) := hc
          have hf4 : w3.drew.frozen? ⟨h, x, none⟩ = false := hf
          have hb5 : Blk (w3.drew.setCell ⟨h, x, none⟩ (.int .i64 Y)) h 49 (ints (l.set x Y)) := Blk.setInt (w := w3.drew) hb3 x Y
          have t5 : Tab (w3.drew.setCell ⟨h, x, none⟩ (.int .i64 Y)) g (l.set x Y) := by obtain ⟨hl, r, hr, hh⟩ := t4; exact ⟨hl, r, hr, hh.far hgh _⟩
          have u5 : Tab (w3.drew.setCell ⟨h, x, none⟩ (.int .i64 Y)) f q := by obtain ⟨hl, r, hr, hh⟩ := u4; exact ⟨hl, r, hr, hh.far hfh _⟩
          have bel5 : Below w.heap.size w (w3.drew.setCell ⟨h, x, none⟩ (.int .i64 Y)) := bel3.drew.setCell hwh _
          have HL : Hid ((l.set x Y).length = 16) := Lib.hid (by have := HFL.out; simpa using this)
          have HR : Hid (∀ z ∈ l.set x Y, -2 ≤ z ∧ z ≤ 3) := Lib.hid (fun z hz => by
            rcases List.mem_or_eq_of_mem_set hz with hz | rfl
            · exact HFR.out z hz
            · omega)
          clear t3 hb3 hu3 bel3 e0 e1 hc hf t4 u4
          generalize l.set x Y = l5 at *
          generalize w3.drew = w4 at *
          go_wp2_with fail
          go_roundw
          case rel => exact ⟨k + 1, by omega, by go_num, l5, HL, HR, hb5, t5, u5, bel5⟩
          case measure => simp [intOf]; omega
        · have hx : (k : Int) ≥ n ∨ ((k : Int) < n ∧ decide ((k : Int) < 40) = false) := by
            by_cases h1 : k < n
            · exact .inr ⟨by omega, by simp; omega⟩
            · exact .inl (by omega)
          have hq0 : Round l q C 0 := ⟨HQ.out, fun j hj => absurd hj (by omega)⟩
          clear hgo
          rcases hx with hx | ⟨hx, hx2⟩
          all_goals
            go_wp2_with fail
            go_loopw [12] (fun i wq => ∃ (k : Nat), k ≤ 16 ∧ i = .int .i64 k ∧ Blk wq h 49 (ints l) ∧ Tab wq g l ∧ Half2 f l C k wq ∧ Below w.heap.size w wq) (fun i _ => 16 - (intOf i).toNat)
            case atStart => exact ⟨0, by omega, rfl, hb, ht, ⟨q, hu, hq0⟩, hbel⟩
            case round =>
              clear ht hb hu hbel hq0
              obtain ⟨k, hk, rfl, hb, ht, ⟨q, hu, hqr⟩, hbel⟩ := hrel
              by_cases hk16 : k < 16
              · have hK := band15 ((k : Int) + C) (by omega) (by omega)
                obtain ⟨x, hx⟩ : ∃ x : Nat, x = (k + C) % 16 := ⟨_, rfl⟩
                have hx16 : (x : Int) < 16 := by omega
                rw [show ((k : Int) + C) % 16 = (x : Int) by omega] at hK
                have hc := hb.int (k := x) (by have := HFL.out; omega)
                have hrg := getD_range l (-2) 3 HFR.out x (by have := HFL.out; omega)
                have hqs := hqr.step hk16
                rw [← hx] at hqs
                generalize l.getD x 0 = Y at hc hrg hqs
                have hql := hqr.1
                have hsy := set_yes q (x : Int) Y (by omega)
                rw [Int.toNat_natCast] at hsy
                have HS := Lib.hid hsy; clear hsy hx hqr hql
                go_wp2_with fail
                refine (pset_is f q (q.set x Y) _ _ 0 _ hu HS.out.1 HS.out.2).mono ?_
                rintro e w3 ⟨rfl, t3, g3⟩
                have hb3 := hb.grown g3 (by intro e; injection e with e; omega)
                have ht3 := ht.grown g3 (by intro e; injection e with e; omega)
                have bel3 := bone hbel g3 hbel.size hwf
                clear hb ht hu hbel g3 hc
                go_wp2_with fail
                go_roundw
                case rel => exact ⟨k + 1, by omega, by go_num, hb3, ht3, ⟨_, t3, hqs⟩, bel3⟩
                case measure => simp [intOf]; omega
              · obtain rfl : k = 16 := by omega
                obtain rfl : q = l := hqr.done HFL.out
                clear hqr hb hk16
                rw [show ((16 : Nat) : Int) = 16 from rfl]
                have hmany := many_all q HFR.out
                have HM := Lib.hid hmany; clear hmany
                go_wp2_with fail
                go_loopw [14, 15] (fun s i wq => ∃ (m : Nat), m ≤ 6 ∧ i = .int .i64 (-2 + m) ∧ s = .int .i64 (manyTo q (-2) m) ∧ Tab wq g q ∧ Tab wq f q ∧ Below w.heap.size w wq) (fun _ i _ => (4 - intOf i).toNat)
                case atStart => exact ⟨0, by omega, rfl, rfl, ht, hu, hbel⟩
                case round =>
                  clear ht hu hbel
                  obtain ⟨m, hm, rfl, rfl, ht, hu, hbel⟩ := hrel
                  by_cases hm6 : m < 6
                  · have hol := ownL_len q (-2 + (m : Int))
                    rw [HFL.out] at hol
                    have hml := many_le q (-2) m
                    rw [HFL.out] at hml
                    have hms : Hid (manyTo q (-2) (m + 1) = manyTo q (-2) m + (ownL q (-2 + (m : Int))).length) := Lib.hid rfl
                    generalize hM : manyTo q (-2) m = M at hml hms
                    clear hM
                    go_wp2_with fail
                    refine (all_any g q _ _ ht).mono ?_
                    rintro e w3 ⟨v3, rfl, o3, b3⟩
                    go_wp2_with fail
                    refine (all_any f q _ _ (hu.below b3 hu.lt)).mono ?_
                    rintro e w4 ⟨v4, rfl, o4, b4⟩
                    have s3 := (Sl.own o3).below b4
                    have s4 := Sl.own o4
                    have ht4 := (ht.below b3 ht.lt).below b4 (Nat.lt_of_lt_of_le ht.lt b3.size)
                    have hu4 := (hu.below b3 hu.lt).below b4 (Nat.lt_of_lt_of_le hu.lt b3.size)
                    have bel4 := Below.down (Below.down hbel b3 hbel.size) b4 (Nat.le_trans hbel.size b3.size)
                    obtain ⟨A3, c3, hv3, _⟩ := s3
                    subst hv3
                    have s3 := (Sl.own o3).below b4
                    clear ht hu hbel o3 o4 b3 b4
                    generalize ownL q (-2 + (m : Int)) = L at *
                    go_wp2_with fail
                    refine (same_ints _ _ L _ s3 s4 (by omega)).mono ?_
                    rintro e w' ⟨rfl, nq, rfl⟩
                    clear s3 s4
                    replace ht4 := ht4.drewN nq
                    replace hu4 := hu4.drewN nq
                    replace bel4 := bdrewN bel4 nq
                    generalize w4.drewN nq = w5 at *
                    go_wp2_with fail
                    go_roundw
                    case rel => exact ⟨m + 1, by omega, by go_num, by rw [hms.out]; go_num, ht4, hu4, bel4⟩
                    case measure => simp [intOf]; omega
                  · obtain rfl : m = 6 := by omega
                    rw [HM.out, HFL.out]
                    go_wp2_with fail
                    go_ret
                    exact ⟨rfl, hbel⟩

end Go.Proofs.Ytcplbjidilddiaa
