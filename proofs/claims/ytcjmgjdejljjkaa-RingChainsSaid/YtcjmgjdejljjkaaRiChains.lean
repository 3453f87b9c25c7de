/-
  Layer 17's law RingChains: it answers true for every input.
-/
import Derived.Test.YtcjmgjdejljjkaaRiAwake
import Derived.BigQuiet
namespace Go.Proofs.Ytcjmgjdejljjkaa
open Go.RowKit
set_option linter.unusedVariables false
set_option linter.unusedSimpArgs false
set_option maxRecDepth 100000

/-- What stands at the k-th one of a chain that has been followed so far. -/
theorem chn_walk {t : List UInt8} {f a k : Nat} {S : Nat → Bool} {L : List Ds} (hf : f + cnt S = 8) (ha : a < 8 ∨ a = 255) (h : chn t f a S (L.take k) = (0, L)) (hk : k < L.length) :
    a < 8 ∧ S a = false ∧ dgB (plB t a) = true ∧ L[k] = plD t a ∧ ∃ f', f' + cnt (bitF S a true) = 8 ∧ chn t f' (plD t a).x.toNat (bitF S a true) (L.take (k + 1)) = (0, L) := by
  rcases ha with ha | rfl
  · cases hS : S a with
    | true => rw [chn_cyc (by omega) hS] at h; simp at h
    | false =>
      cases hd : dgB (plB t a) with
      | false => rw [chn_form hf ha hS hd] at h; simp at h
      | true =>
        obtain ⟨f', -, h1, h2⟩ := chn_next (acc := L.take k) hf ha hS hd
        rw [h2] at h
        obtain ⟨r, h3, -⟩ := chn_ahead t f' (plD t a).x.toNat (bitF S a true) (L.take k ++ [plD t a]) (by rw [h])
        rw [h] at h3
        have e : L[k]? = some (plD t a) := by
          have hlk : (L.take k).length = k := by rw [List.length_take]; omega
          have h4 : L = L.take k ++ ([plD t a] ++ r) := by rw [← List.append_assoc]; exact h3
          rw [h4, List.getElem?_append_right (by omega), hlk, Nat.sub_self]; rfl
        have e2 : L[k] = plD t a := by rw [List.getElem?_eq_getElem hk] at e; injection e
        refine ⟨ha, rfl, rfl, e2, f', h1, ?_⟩
        rw [List.take_add_one, e]
        exact h
  · rw [chn_end] at h
    have := congrArg (fun p => p.2.length) h
    simp at this
    omega
theorem chn_stop {t : List UInt8} {f a : Nat} {S : Nat → Bool} {L : List Ds} (h : chn t f a S L = (0, L)) : a = 255 := by
  by_cases ha : a = 255
  · exact ha
  · obtain ⟨r, h1, h2⟩ := chn_ahead t f a S L (by rw [h])
    rw [h] at h1
    have : r = [] := by
      have := congrArg List.length h1
      simp at this
      exact this
    exact absurd this (h2 ha)

set_option maxHeartbeats 4000000 in
theorem law_RingChains (u : Value) (n : Nat) (zs : List Int) (h : Int) (w : World) (hs : Sl w u n 5 (ints zs)) (hn : n ≤ maxLen) (hl : zs.length = n * 5) :
    Calls Try.prog 4 #[u, .int .i64 h] w fun e w' => e = .returned (.bool true) ∧ Below w.heap.size w w' := by
  obtain ⟨l, rfl, hll⟩ := dss_of n zs hl
  obtain ⟨A, cap, rfl, -, -, -⟩ := id hs
  have HU := Lib.hid hs
  clear hs hl
  have hF := band h 7 (by omega) (by omega)
  generalize hF' : bits BinOp.and IntKind.i64 h 7 = F at hF
  obtain ⟨hF0, hF1⟩ := hF
  obtain ⟨F, rfl⟩ := Int.eq_ofNat_of_zero_le hF0
  obtain ⟨R, hR⟩ : ∃ R, str (rngL l) = R := ⟨_, rfl⟩
  have HRZ : Hid (R.size = 64) := Lib.hid (by rw [← hR, str_size, rngL_len])
  have HR := Lib.hid hR
  have hz := zRing_run
  have hne := zRing_ne
  clear hR hF0
  have hF8 : F < 8 := by omega
  go_enter Try.func4, Try.ntmps4
  go_wp2_with fail
  refine (riawake_any _).mono ?_
  rintro e w1 ⟨rfl, b1⟩
  have HB := Lib.hid b1
  clear b1
  go_wp2_with fail
  refine (ringed_is _ n l R _ (HU.out.below HB.out) hll hn HR.out).mono ?_
  rintro e w2 ⟨rfl, b⟩
  have HB := Lib.hid (Below.down HB.out b HB.out.size)
  clear b
  go_wp2_with fail
  obtain ⟨P, hP⟩ : ∃ P, riP R.data.toList (F : Int) = P := ⟨_, rfl⟩
  refine (chain_is R F P _ hP).mono ?_
  rintro e w3 ⟨v, rfl, ho, b⟩
  have HB := Lib.hid (Below.down HB.out b HB.out.size)
  have hRL : R.data.toList.length = 64 := by rw [list_len]; exact HRZ.out
  rw [riP_at hRL hF8] at hP
  have hcode := (chn_code R.data.toList 8 F noB [] (by simp)).1
  rw [hP] at hcode
  have hA := chn_ahead R.data.toList 8 F noB []
  rw [hP] at hA
  have HP := Lib.hid hP
  obtain ⟨E, L⟩ := P
  simp only at ho hcode hA
  have HA := Lib.hid hA
  have HS := Lib.hid (Sl.own ho)
  obtain ⟨A', c', rfl, -, -, -⟩ := Sl.own ho
  clear b hP hRL hA ho
  rcases hcode with rfl | ⟨hE, rfl⟩
  · have HLn : Hid (L ≠ []) := Lib.hid (by
      obtain ⟨r, h1, h2⟩ := HA.out rfl
      rw [h1]; simpa using h2 (by omega))
    go_wp2_with fail
    refine (num_any _ _).mono ?_; rintro e w' ⟨rfl, rfl⟩
    go_wp2_with fail
    clear hz hne
    have hb0 := Blk.new w3 40 (bitc noB 8)
    have hbl : Below w3.heap.size w3 (w3.alloc (.cells (bitc noB 8).toArray 40)) := (Below.refl _ _).alloc (Nat.le_refl _) _
    have HLL : Hid (L.length ≤ 8) := Lib.hid (by have := (chn_code R.data.toList 8 F noB [] (by simp)).2; rw [HP.out] at this; exact this)
    have hLL := HLL.out
    have hL1 : (1 : Int) ≤ (L.length : Int) := by have := HLn.out; cases L with | nil => exact absurd rfl this | cons _ _ => simp; omega
    go_loopw [9, 11] (fun t i wr => ∃ (a k f : Nat) (S : Nat → Bool), t = .int .i64 (a : Int) ∧ i = .int .i64 (k : Int) ∧ k ≤ L.length ∧ Hid ((a < 8 ∨ a = 255) ∧ f + cnt S = 8 ∧ chn R.data.toList f a S (L.take k) = (0, L) ∧ Blk wr w3.heap.size 40 (bitc S 8) ∧ Below w3.heap.size w3 wr))
      (fun _ i _ => L.length - (intOf i).toNat)
    case atStart => exact ⟨F, 0, 8, noB, rfl, rfl, by omega, Lib.hid ⟨.inl hF8, by rw [cnt_no], by rw [List.take_zero]; exact HP.out, hb0, hbl⟩⟩
    case round =>
      clear hb0 hbl
      obtain ⟨a, k, f, S, rfl, rfl, hk, H⟩ := hrel
      by_cases hlt : k < L.length
      · obtain ⟨ha, hSa, hd, hLk, f', hf1, hf2⟩ := chn_walk H.out.2.1 H.out.1 H.out.2.2.1 hlt
        have ha0 : (0 : Int) ≤ (a : Int) := by omega
        have ha8 : (a : Int) < 8 := by omega
        have hcell : wr.cell? ⟨w3.heap.size, a, none⟩ = some (.bool false) := by rw [H.out.2.2.2.1.cell, bitc_get _ _ _ ha, hSa]
        have hfz := H.out.2.2.2.1.frozen a
        have hsz := H.out.2.2.2.2.size
        have HM : Hid (Blk (wr.setCell ⟨w3.heap.size, a, none⟩ (.bool true)) w3.heap.size 40 (bitc (bitF S a true) 8) ∧ Below w3.heap.size w3 (wr.setCell ⟨w3.heap.size, a, none⟩ (.bool true))) := Lib.hid ⟨by rw [← bitc_set]; exact H.out.2.2.2.1.set a _, H.out.2.2.2.2.setCell (Nat.le_refl _) _⟩
        have hsl := slice_at R a HRZ.out ha
        obtain ⟨b, hb1, hb2, hb3⟩ := next_of hd
        have HD := Lib.hid hd
        have HF := Lib.hid (show f' + cnt (bitF S a true) = 8 ∧ chn R.data.toList f' b (bitF S a true) (L.take (k + 1)) = (0, L) from ⟨hf1, by rw [← hb2]; exact hf2⟩)
        have HB3 := Lib.hid hb3
        have HX := Lib.hid (show (plD R.data.toList a).x = (b : Int) from hb1)
        have HLK := Lib.hid hLk
        clear hSa hd hLk hf1 hf2 hb1 hb2 hb3 H
        go_wp2_with fail
        generalize wr.setCell ⟨w3.heap.size, a, none⟩ (.bool true) = wm at *
        refine (rget_yes R a _ HD.out).mono ?_
        rintro e w4 ⟨rfl, b4⟩
        have HM := Lib.hid (show Blk w4 w3.heap.size 40 (bitc (bitF S a true) 8) ∧ Below w3.heap.size w3 w4 from ⟨HM.out.1.below b4 HM.out.1.lt, Below.down HM.out.2 b4 HM.out.2.size⟩)
        clear b4 hcell hfz hsl
        generalize hdd : plD R.data.toList a = d at *
        have hs4 := HM.out.2.size
        have hbl4 : Below w3.heap.size w3 (w4.alloc (.cells #[.int .i64 d.o, .int .i64 d.x, .int .i64 d.l, .int .i64 d.b, .int .i64 d.n] 42)) := HM.out.2.alloc hs4 _
        obtain ⟨bb, oo, rfl, -, c0, c1, c2, c3, c4⟩ := ds_at (HS.out.below hbl4) rfl k hlt
        rw [HLK.out] at c0 c1 c2 c3 c4
        obtain ⟨e0, e1, e2, e3, e4⟩ := five_at (box_at w4 d.o d.x d.l d.b d.n)
        have HM := Lib.hid (show Blk (w4.alloc (.cells #[.int .i64 d.o, .int .i64 d.x, .int .i64 d.l, .int .i64 d.b, .int .i64 d.n] 42)) w3.heap.size 40 (bitc (bitF S a true) 8) ∧ Below w3.heap.size w3 (w4.alloc (.cells #[.int .i64 d.o, .int .i64 d.x, .int .i64 d.l, .int .i64 d.b, .int .i64 d.n] 42)) from ⟨HM.out.1.alloc _, hbl4⟩)
        clear hbl4
        have HDD := Lib.hid hdd
        clear hdd
        obtain ⟨q0, q1, q2, q3, q4⟩ := d
        simp only at HX c0 c1 c2 c3 c4 e0 e1 e2 e3 e4 HM ⊢
        go_wp2_with fail
        generalize w4.alloc (.cells #[.int .i64 q0, .int .i64 q1, .int .i64 q2, .int .i64 q3, .int .i64 q4] 42) = w5 at *
        go_quiet (fail)
        rw [HX.out] at e1
        have HM := Lib.hid (show Blk (w5.drewN nq) w3.heap.size 40 (bitc (bitF S a true) 8) ∧ Below w3.heap.size w3 (w5.drewN nq) from ⟨HM.out.1.drewN nq, bdrewN HM.out.2 nq⟩)
        have e1 : (w5.drewN nq).cell? ⟨w4.heap.size, 1, none⟩ = some (.int .i64 (b : Int)) := e1
        generalize w5.drewN nq = w6 at *
        go_wp2
        go_roundw
        case rel => exact ⟨b, k + 1, f', bitF S a true, rfl, by go_num, by omega, Lib.hid ⟨HB3.out, HF.out.1, HF.out.2, HM.out.1, HM.out.2⟩⟩
        case measure => simp [intOf]; omega
      · obtain rfl : k = L.length := by omega
        have hst := H.out.2.2.1
        rw [List.take_length] at hst
        obtain rfl := chn_stop hst
        have HBB := Lib.hid (Below.down HB.out H.out.2.2.2.2 HB.out.size)
        clear hst
        generalize L.length = m at *
        go_wp2_with fail
        go_ret
        exact ⟨rfl, HBB.out⟩
  · rcases hE with rfl | rfl
    · go_wp2_with fail
      refine (num_any _ _).mono ?_; rintro e w' ⟨rfl, rfl⟩
      go_wp2_with fail
      refine (num_any _ _).mono ?_; rintro e w' ⟨rfl, rfl⟩
      go_wp2_with fail
      refine (num_any _ _).mono ?_; rintro e w' ⟨rfl, rfl⟩
      go_wp2_with fail
      go_ret
      exact ⟨rfl, HB.out⟩
    · go_wp2_with fail
      refine (num_any _ _).mono ?_; rintro e w' ⟨rfl, rfl⟩
      go_wp2_with fail
      refine (num_any _ _).mono ?_; rintro e w' ⟨rfl, rfl⟩
      go_wp2_with fail
      go_ret
      exact ⟨rfl, HB.out⟩

end Go.Proofs.Ytcjmgjdejljjkaa
