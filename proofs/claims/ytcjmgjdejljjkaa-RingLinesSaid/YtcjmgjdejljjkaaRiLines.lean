/-
  Layer 17's law RingLines: it answers true for every input.
-/
import Derived.Test.YtcjmgjdejljjkaaRiAwake
import Derived.BigQuiet
namespace Go.Proofs.Ytcjmgjdejljjkaa
open Go.RowKit
set_option linter.unusedVariables false
set_option linter.unusedSimpArgs false
set_option maxRecDepth 100000

/-- Where the law's i-th descriptor leads. -/
def nxN (zs : List Int) (i : Nat) : Nat := if i < zs.length ∧ bits BinOp.and IntKind.i64 (zs.getD i 0) 15 < 8 then (bits BinOp.and IntKind.i64 (zs.getD i 0) 7).toNat else 255
def lnD (zs : List Int) (i : Nat) : Ds := ⟨0, nxN zs i, i, 0, 1⟩
/-- The first k. -/
def lnL (zs : List Int) : Nat → List Ds
  | 0 => []
  | k + 1 => lnL zs k ++ [lnD zs k]
theorem lnL_len (zs : List Int) (k : Nat) : (lnL zs k).length = k := by
  induction k with
  | zero => rfl
  | succ k ih => rw [lnL, List.length_append, ih]; rfl
theorem lnL_get (zs : List Int) (k : Nat) : ∀ i, i < k → (lnL zs k)[i]? = some (lnD zs i) := by
  induction k with
  | zero => intro i h; omega
  | succ k ih =>
    intro i h
    have hl := lnL_len zs k
    rw [lnL]
    by_cases e : i = k
    · subst e; rw [List.getElem?_append_right (by omega), hl, Nat.sub_self]; rfl
    · rw [List.getElem?_append_left (by omega)]; exact ih i (by omega)
theorem nxN_or (zs : List Int) (i : Nat) : nxN zs i < 8 ∨ nxN zs i = 255 := by
  unfold nxN
  split
  · have := band (zs.getD i 0) 7 (by omega) (by omega)
    omega
  · exact .inr rfl
theorem lnD_may (zs : List Int) (i : Nat) (h : i < 8) : deD (lnD zs i) = true := by
  have := nxN_or zs i
  unfold deD lnD
  exact (de_iff ..).2 (by simp only; omega)
/-- What stands in the law's ring. -/
theorem ln_pl (zs : List Int) (i : Nat) (h : i < 8) : dgB (plB (rngL (lnL zs 8)) i) = true ∧ plD (rngL (lnL zs 8)) i = lnD zs i := by
  have e : plB (rngL (lnL zs 8)) i = deR (lnD zs i).o (lnD zs i).x (lnD zs i).l (lnD zs i).b (lnD zs i).n := by
    rw [rng_pl _ _ h]
    have hl := lnL_len zs 8
    have hg := lnL_get zs 8 i h
    unfold ringA
    rw [dif_pos (by omega)]
    have e2 : (lnL zs 8)[i]'(by omega) = lnD zs i := by rw [List.getElem?_eq_getElem (by omega)] at hg; injection hg
    rw [e2]
    unfold ringB
    rw [lnD_may zs i h]
    rfl
  obtain ⟨hd, h0, h1, h2, h3, h4⟩ := de_back (lnD_may zs i h)
  obtain ⟨g0, g1, g2, g3, g4⟩ := dg_yes hd
  refine ⟨by rw [e]; exact hd, ?_⟩
  unfold plD
  rw [e, ← g0, ← g1, ← g2, ← g3, ← g4, h0, h1, h2, h3, h4]

/-- A chain on the way grows, where the new one stands in no block of its own. -/
theorem Cs.grow1 {w0 w w2 : World} {g : Nat} {v v' : Value} {acc : List Ds} {S : Nat → Bool} {d : Ds} (h : Cs w0 g v acc S w) (o : Obj) (hg : (w.alloc o).grownBy w2 v.ownBlock) (ho : w2.ownsRow w0.heap.size 42 5 v' (acc.length + 1) (ints (dss acc) ++ ints (dss [d]))) :
    Cs w0 g v' (acc ++ [d]) S w2 := by
  refine ⟨by rw [dss_append, ints_append, List.length_append]; exact ho, ?_, h.hg, below_one _ h.own h.bel.size h.bel hg⟩
  exact (h.blk.alloc o).grown hg (fun e => own_apart_blk h.own h.blk (by decide) e.symm)

set_option maxHeartbeats 4000000 in
theorem law_RingLines (u : Value) (n : Nat) (zs : List Int) (h : Int) (w : World) (hs : Sl w u n 1 (ints zs)) (hn : n ≤ maxLen) (hl : zs.length = n) :
    Calls Try.prog 5 #[u, .int .i64 h] w fun e w' => e = .returned (.bool true) ∧ Below w.heap.size w w' := by
  obtain ⟨A, cap, rfl, -, -, -⟩ := id hs
  have HU := Lib.hid hs
  unfold maxLen at hn
  have HL := Lib.hid hl
  clear hs hl
  have hF := band h 7 (by omega) (by omega)
  generalize hF' : bits BinOp.and IntKind.i64 h 7 = F at hF
  obtain ⟨hF0, hF1⟩ := hF
  obtain ⟨F, rfl⟩ := Int.eq_ofNat_of_zero_le hF0
  obtain ⟨R, hR⟩ : ∃ R, str (rngL (lnL zs 8)) = R := ⟨_, rfl⟩
  have HRZ : Hid (R.size = 64) := Lib.hid (by rw [← hR, str_size, rngL_len])
  have HPL : Hid (∀ i, i < 8 → dgB (plB R.data.toList i) = true ∧ plD R.data.toList i = lnD zs i) := Lib.hid (by rw [← hR, str_list]; exact ln_pl zs)
  have HR := Lib.hid hR
  have hF8 : F < 8 := by omega
  obtain ⟨i0, hi, hz0, hz1, hz2⟩ := info_parts infoDs
  have HI := Lib.hid hi; have HZ0 := Lib.hid hz0; have HZ1 := Lib.hid hz1; have HZ2 := Lib.hid hz2
  clear hR hF0 hi hz0 hz1 hz2
  have HF' := Lib.hid hF'
  clear hF'
  go_enter Try.func5, Try.ntmps5
  go_wp2_with fail
  refine (riawake_any _).mono ?_
  rintro e w1 ⟨rfl, b1⟩
  have HB := Lib.hid b1
  clear b1
  go_wp2_with fail
  go_loopw [5, 6] (fun v i wr => ∃ k : Nat, k ≤ 8 ∧ i = .int .i64 (k : Int) ∧ Hid (wr.ownsRow w1.heap.size 42 5 v k (ints (dss (lnL zs k))) ∧ Below w1.heap.size w1 wr)) (fun _ i _ => 8 - (intOf i).toNat)
  case atStart => exact ⟨0, by omega, rfl, Lib.hid ⟨World.ownsRow_nil _ _ _ _, Below.refl _ _⟩⟩
  case round =>
    obtain ⟨k, hk, rfl, H⟩ := hrel
    by_cases hlt : k < 8
    · have hsz := H.out.2.size
      have HO := Lib.hid H.out.1
      have HBr := Lib.hid H.out.2
      by_cases hkn : k < n
      · have hSl := HU.out.below (Below.down HB.out H.out.2 HB.out.size)
        obtain ⟨Ax, cx, ec, -, -, hcA⟩ := hSl
        simp only [Value.slice.injEq] at ec
        obtain ⟨rfl, -, rfl⟩ := ec
        obtain ⟨bb, oo, rfl, -, hcell⟩ := hcA (by omega)
        have hc0 := hcell k _ (ints_get zs k (by rw [HL.out]; exact hkn))
        have hNX : nxN zs k = if bits BinOp.and IntKind.i64 (zs.getD k 0) 15 < 8 then (bits BinOp.and IntKind.i64 (zs.getD k 0) 7).toNat else 255 := by
          unfold nxN
          have : k < zs.length := by rw [HL.out]; exact hkn
          by_cases hx : bits BinOp.and IntKind.i64 (zs.getD k 0) 15 < 8
          · rw [if_pos ⟨this, hx⟩, if_pos hx]
          · rw [if_neg (fun h => hx h.2), if_neg hx]
        obtain ⟨z, hz⟩ : ∃ z, zs.getD k 0 = z := ⟨_, rfl⟩
        rw [hz] at hc0 hNX
        have hX := band z 15 (by omega) (by omega)
        have hY := band z 7 (by omega) (by omega)
        generalize hX' : bits BinOp.and IntKind.i64 z 15 = X at hX hNX
        generalize hY' : bits BinOp.and IntKind.i64 z 7 = Y at hY hNX
        obtain ⟨hY0, hY1⟩ := hY
        obtain ⟨hX0, hX1⟩ := hX
        clear hcell hcA hz H
        by_cases hx : X < 8
        · have HLD : Hid (lnD zs k = ⟨0, Y, (k : Int), 0, 1⟩) := Lib.hid (by unfold lnD; rw [hNX, if_pos hx, Int.toNat_of_nonneg hY0])
          clear hNX
          have H1 := Lib.hid (ints_one1 (dss [(⟨0, Y, (k : Int), 0, 1⟩ : Ds)]))
          have HNW : Hid (∀ j u, (ints (dss [(⟨0, Y, (k : Int), 0, 1⟩ : Ds)]))[j]? = some u → (wr.alloc (.cells (ints (dss [(⟨0, Y, (k : Int), 0, 1⟩ : Ds)])).toArray 42)).cell? ((⟨wr.heap.size, 0, none⟩ : Addr).add j) = some u) := Lib.hid (row_new wr (ints (dss [(⟨0, Y, (k : Int), 0, 1⟩ : Ds)])) 42)
          go_wp2_with (at_builtin; refine wpList_append_own _ rfl _ _ 22 rfl w1.heap.size 42 i0 _ 5 40 Try.underlying22 HI.out HZ0.out HZ1.out HZ2.out rfl (by decide) _ k (ints (dss (lnL zs k))) rfl (HO.out.alloc _) ⟨wr.heap.size, 0, none⟩ 1 1 (ints (dss [(⟨0, Y, (k : Int), 0, 1⟩ : Ds)])) rfl rfl (by exact HNW.out) H1.out (by unfold maxLen; omega) (by omega) (by simp; omega) ?_)
          intro v' w2 hown' hgrow _
          have HB2 := Lib.hid (below_one _ HO.out hsz HBr.out hgrow)
          have HO2 : Hid (w2.ownsRow w1.heap.size 42 5 v' (k + 1) (ints (dss (lnL zs (k + 1))))) := Lib.hid (by rw [lnL, HLD.out, dss_append, ints_append]; exact hown')
          clear hgrow hown'
          go_wp2
          go_roundw
          case rel => exact ⟨k + 1, by omega, by go_num, Lib.hid ⟨HO2.out, HB2.out⟩⟩
          case measure => simp [intOf]; omega
        · have HLD : Hid (lnD zs k = ⟨0, 255, (k : Int), 0, 1⟩) := Lib.hid (by unfold lnD; rw [hNX, if_neg hx]; rfl)
          have hx8 : 8 ≤ X := by omega
          clear hNX hx
          have H1 := Lib.hid (ints_one1 (dss [(⟨0, 255, (k : Int), 0, 1⟩ : Ds)]))
          have HNW : Hid (∀ j u, (ints (dss [(⟨0, 255, (k : Int), 0, 1⟩ : Ds)]))[j]? = some u → (wr.alloc (.cells (ints (dss [(⟨0, 255, (k : Int), 0, 1⟩ : Ds)])).toArray 42)).cell? ((⟨wr.heap.size, 0, none⟩ : Addr).add j) = some u) := Lib.hid (row_new wr (ints (dss [(⟨0, 255, (k : Int), 0, 1⟩ : Ds)])) 42)
          go_wp2_with (at_builtin; refine wpList_append_own _ rfl _ _ 22 rfl w1.heap.size 42 i0 _ 5 40 Try.underlying22 HI.out HZ0.out HZ1.out HZ2.out rfl (by decide) _ k (ints (dss (lnL zs k))) rfl (HO.out.alloc _) ⟨wr.heap.size, 0, none⟩ 1 1 (ints (dss [(⟨0, 255, (k : Int), 0, 1⟩ : Ds)])) rfl rfl (by exact HNW.out) H1.out (by unfold maxLen; omega) (by omega) (by simp; omega) ?_)
          intro v' w2 hown' hgrow _
          have HB2 := Lib.hid (below_one _ HO.out hsz HBr.out hgrow)
          have HO2 : Hid (w2.ownsRow w1.heap.size 42 5 v' (k + 1) (ints (dss (lnL zs (k + 1))))) := Lib.hid (by rw [lnL, HLD.out, dss_append, ints_append]; exact hown')
          clear hgrow hown'
          go_wp2
          go_roundw
          case rel => exact ⟨k + 1, by omega, by go_num, Lib.hid ⟨HO2.out, HB2.out⟩⟩
          case measure => simp [intOf]; omega
      · have HLD : Hid (lnD zs k = ⟨0, 255, (k : Int), 0, 1⟩) := Lib.hid (by
          unfold lnD nxN
          rw [if_neg (fun h => hkn (by rw [← HL.out]; exact h.1))]; rfl)
        clear H
        have H1 := Lib.hid (ints_one1 (dss [(⟨0, 255, (k : Int), 0, 1⟩ : Ds)]))
        have HNW : Hid (∀ j u, (ints (dss [(⟨0, 255, (k : Int), 0, 1⟩ : Ds)]))[j]? = some u → (wr.alloc (.cells (ints (dss [(⟨0, 255, (k : Int), 0, 1⟩ : Ds)])).toArray 42)).cell? ((⟨wr.heap.size, 0, none⟩ : Addr).add j) = some u) := Lib.hid (row_new wr (ints (dss [(⟨0, 255, (k : Int), 0, 1⟩ : Ds)])) 42)
        go_wp2_with (at_builtin; refine wpList_append_own _ rfl _ _ 22 rfl w1.heap.size 42 i0 _ 5 40 Try.underlying22 HI.out HZ0.out HZ1.out HZ2.out rfl (by decide) _ k (ints (dss (lnL zs k))) rfl (HO.out.alloc _) ⟨wr.heap.size, 0, none⟩ 1 1 (ints (dss [(⟨0, 255, (k : Int), 0, 1⟩ : Ds)])) rfl rfl (by exact HNW.out) H1.out (by unfold maxLen; omega) (by omega) (by simp; omega) ?_)
        intro v' w2 hown' hgrow _
        have HB2 := Lib.hid (below_one _ HO.out hsz HBr.out hgrow)
        have HO2 : Hid (w2.ownsRow w1.heap.size 42 5 v' (k + 1) (ints (dss (lnL zs (k + 1))))) := Lib.hid (by rw [lnL, HLD.out, dss_append, ints_append]; exact hown')
        clear hgrow hown'
        go_wp2
        go_roundw
        case rel => exact ⟨k + 1, by omega, by go_num, Lib.hid ⟨HO2.out, HB2.out⟩⟩
        case measure => simp [intOf]; omega
    · obtain rfl : k = 8 := by omega
      have hz := zRing_run
      have hne := zRing_ne
      rw [show ((8 : Nat) : Int) = 8 from rfl]
      have hF' := HF'.out
      have HSl := Lib.hid (Sl.own H.out.1)
      have HB := Lib.hid (Below.down HB.out H.out.2 HB.out.size)
      clear H
      go_wp2_with fail
      refine (ringed_is _ 8 (lnL zs 8) R _ HSl.out (lnL_len zs 8) (by decide) HR.out).mono ?_
      rintro e w2 ⟨rfl, b2⟩
      have HB := Lib.hid (Below.down HB.out b2 HB.out.size)
      have HSl := Lib.hid (HSl.out.below b2)
      clear b2
      go_wp2_with fail
      obtain ⟨P, hP⟩ : ∃ P, riP R.data.toList (F : Int) = P := ⟨_, rfl⟩
      refine (chain_is R F P _ hP).mono ?_
      rintro e w3 ⟨v, rfl, ho, b⟩
      have HB := Lib.hid (Below.down HB.out b HB.out.size)
      have HSl := Lib.hid (HSl.out.below b)
      have hRL : R.data.toList.length = 64 := by rw [list_len]; exact HRZ.out
      rw [riP_at hRL hF8] at hP
      have HP := Lib.hid hP
      obtain ⟨E, L⟩ := P
      simp only at ho
      have HS := Lib.hid (Sl.own ho)
      have hform : ∃ A' c', v = .slice A' L.length c' := by obtain ⟨A', c', e, _⟩ := Sl.own ho; exact ⟨A', c', e⟩
      have hform5 : ∃ A' c', u5 = .slice A' 8 c' := by obtain ⟨A', c', e, _⟩ := HSl.out; exact ⟨A', c', e⟩
      obtain ⟨A', c', rfl⟩ := hform
      obtain ⟨Ad, cd, rfl⟩ := hform5
      have HLL : Hid (L.length ≤ 8) := Lib.hid (by have := (chn_code R.data.toList 8 F noB [] (by simp)).2; rw [hP] at this; exact this)
      clear b hP hRL ho
      go_wp2_with fail
      have HC0 := Lib.hid (Cs.start w3)
      clear hz hne hF'
      go_loopw [12, 13] (fun v t wr => ∃ (a f : Nat) (S : Nat → Bool) (acc : List Ds), t = .int .i64 (a : Int) ∧ (a < 8 ∨ a = 255) ∧ acc.length + f = 8 ∧ Hid (f + cnt S = 8 ∧ chn R.data.toList f a S acc = (E, L) ∧ Cs w3 w3.heap.size v acc S wr))
        (fun v _ _ => 8 - lenOf v)
      case atStart => exact ⟨F, 8, noB, [], rfl, .inl hF8, rfl, Lib.hid ⟨by rw [cnt_no], HP.out, HC0.out⟩⟩
      case round =>
        obtain ⟨a, f, S, acc, rfl, ha, hlen, H⟩ := hrel
        have HBB := Lib.hid (Below.down HB.out H.out.2.2.bel HB.out.size)
        rcases ha with ha | rfl
        · have ha255 : ((a : Int) == 255) = false := by simp; omega
          have ha0 : (0 : Int) ≤ (a : Int) := by omega
          have ha8 : (a : Int) < 8 := by omega
          have hcell := H.out.2.2.cell ha
          have hfz := H.out.2.2.frozen a
          have hsz := H.out.2.2.size
          cases hSa : S a
          · rw [hSa] at hcell
            obtain ⟨hd, hpl⟩ := HPL.out a ha
            obtain ⟨f', hf0, hf1, hf2⟩ := chn_next (acc := acc) H.out.1 ha hSa hd
            rw [H.out.2.1, hpl] at hf2
            have HC := Lib.hid (H.out.2.2.mark a)
            have hx : (lnD zs a).x.toNat = nxN zs a := rfl
            rw [hx] at hf2
            have HLX : Hid ((lnD zs a).x = (nxN zs a : Int)) := Lib.hid rfl
            have HF := Lib.hid (And.intro hf1 hf2)
            have HNX := nxN_or zs a
            obtain ⟨bb, oo, rfl, hbb, c0, c1, c2, c3, c4⟩ := ds_at HSl.out (lnL_len zs 8) a (by rw [lnL_len]; exact ha)
            have hg := lnL_get zs 8 a ha
            rw [List.getElem?_eq_getElem (by rw [lnL_len]; exact ha)] at hg
            have hg2 : (lnL zs 8)[a]'(by rw [lnL_len]; exact ha) = lnD zs a := by injection hg
            rw [hg2] at c0 c1 c2 c3 c4
            have HCD := Lib.hid (fun (wx : World) (hb : Below w3.heap.size w3 wx) => (hb.cell (p := ⟨bb, oo + a * 5 + 1, none⟩) hbb).trans c1)
            have c0 := (HC.out.bel.cell (p := ⟨bb, oo + a * 5, none⟩) hbb).trans c0
            have c1 := (HC.out.bel.cell (p := ⟨bb, oo + a * 5 + 1, none⟩) hbb).trans c1
            have c2 := (HC.out.bel.cell (p := ⟨bb, oo + a * 5 + 2, none⟩) hbb).trans c2
            have c3 := (HC.out.bel.cell (p := ⟨bb, oo + a * 5 + 3, none⟩) hbb).trans c3
            have c4 := (HC.out.bel.cell (p := ⟨bb, oo + a * 5 + 4, none⟩) hbb).trans c4
            have hown := HC.out.own
            have HN0 := Lib.hid (own_len H.out.2.2.own)
            have hws := HC.out.size
            have hbl := Lib.hid HC.out.bel
            clear hf1 hf2 hd hpl hx hg hg2 H hSa
            generalize hN : nxN zs a = N at *
            generalize hD : lnD zs a = d at *
            obtain ⟨q0, q1, q2, q3, q4⟩ := d
            simp only at c0 c1 c2 c3 c4 HLX HF HCD
            have H1 := Lib.hid (ints_one1 (dss [(⟨q0, q1, q2, q3, q4⟩ : Ds)]))
            have HNW : Hid (∀ j u, (ints (dss [(⟨q0, q1, q2, q3, q4⟩ : Ds)]))[j]? = some u → ((wr.setCell ⟨w3.heap.size, a, none⟩ (.bool true)).alloc (.cells (ints (dss [(⟨q0, q1, q2, q3, q4⟩ : Ds)])).toArray 42)).cell? ((⟨wr.heap.size, 0, none⟩ : Addr).add j) = some u) := Lib.hid (by
              have h := row_new (wr.setCell ⟨w3.heap.size, a, none⟩ (.bool true)) (ints (dss [(⟨q0, q1, q2, q3, q4⟩ : Ds)])) 42
              rw [show (wr.setCell ⟨w3.heap.size, a, none⟩ (.bool true)).heap.size = wr.heap.size by simp [World.setCell]] at h
              exact h)
            go_wp2_with (at_builtin; refine wpList_append_own _ rfl _ _ 22 rfl w3.heap.size 42 i0 _ 5 40 Try.underlying22 HI.out HZ0.out HZ1.out HZ2.out rfl (by decide) _ acc.length (ints (dss acc)) rfl (hown.alloc _) ⟨wr.heap.size, 0, none⟩ 1 1 (ints (dss [(⟨q0, q1, q2, q3, q4⟩ : Ds)])) rfl rfl (by exact HNW.out) H1.out (by unfold maxLen; omega) (by omega) (by simp at hws ⊢; omega) ?_)
            intro v' w4 hown' hgrow _
            have hc2 := HC.out.grow1 (d := (⟨q0, q1, q2, q3, q4⟩ : Ds)) _ hgrow hown'
            have hcx := HCD.out w4 hc2.bel
            rw [HLX.out] at hcx
            have HC2 := Lib.hid hc2
            have hn1 := own_len hc2.own
            have hn0 := HN0.out
            clear hgrow hown hown' hc2 c0 c1 c2 c3 c4 hD hN
            go_wp2
            go_roundw
            case rel => exact ⟨N, f', bitF S a true, acc ++ [(⟨q0, q1, q2, q3, q4⟩ : Ds)], rfl, HNX, by simp; omega, Lib.hid ⟨HF.out.1, HF.out.2.symm, HC2.out⟩⟩
            case measure => rw [hn0, hn1]; simp; omega
          · rw [hSa] at hcell
            have hPE : (E, L) = (1702, []) := by rw [← H.out.2.1]; exact chn_cyc (by omega) hSa
            simp only [Prod.mk.injEq] at hPE
            obtain ⟨rfl, rfl⟩ := hPE
            clear H hSa
            go_wp2_with fail
            refine (num_any _ _).mono ?_; rintro e w' ⟨rfl, rfl⟩
            go_wp2_with fail
            go_ret
            exact ⟨rfl, HBB.out⟩
        · have hPE : (E, L) = (0, acc) := by rw [← H.out.2.1]; exact chn_end _ _ _ _
          simp only [Prod.mk.injEq] at hPE
          obtain ⟨rfl, rfl⟩ := hPE
          have HC := Lib.hid H.out.2.2
          have HS2 := Lib.hid (HS.out.below HC.out.bel)
          clear H
          go_wp2_with fail
          refine (num_any _ _).mono ?_; rintro e w' ⟨rfl, rfl⟩
          go_wp2_with fail
          refine (same_descs _ _ L.length L _ HS2.out (Sl.own HC.out.own) rfl (by have := HLL.out; unfold maxLen; omega)).mono ?_
          rintro e w4 ⟨rfl, k, rfl⟩
          have HBB := Lib.hid (bdrewN HBB.out k)
          generalize wr.drewN k = w5 at *
          go_wp2_with fail
          go_ret
          exact ⟨rfl, HBB.out⟩

end Go.Proofs.Ytcjmgjdejljjkaa
