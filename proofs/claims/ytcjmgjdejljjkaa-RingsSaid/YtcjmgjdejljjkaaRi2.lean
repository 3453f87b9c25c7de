/-
  Contracts: a ring's chain, the document's.
-/
import Derived.Test.YtcjmgjdejljjkaaRi1
namespace Go.Proofs.Ytcjmgjdejljjkaa
open Go.RowKit
set_option linter.unusedVariables false
set_option linter.unusedSimpArgs false
set_option maxRecDepth 100000

theorem rdeget_is (s : ByteArray) (D : Value) (w : World) (h : degV s.data.toList = D) :
    Calls Try.prog 21 #[.string s] w fun e w' => e = .returned D ∧ Below w.heap.size w w' := by
  subst h; exact rdeget_any s w
theorem slice_at (s : ByteArray) (a : Nat) (hs : s.size = 64) (ha : a < 8) : ∀ wx : World, (Instr.slice 9 (.string s) (some (.int .i64 ((a : Int) * 8))) (some (.int .i64 ((a : Int) * 8 + 8))) none).run Try.prog wx = .ok (.string (s.extract (8 * a) (8 * a + 8))) wx := by
  intro wx
  have := run_slice_string (P := Try.prog) wx 9 s .i64 .i64 ((a : Int) * 8) ((a : Int) * 8 + 8) Try.underlying9 (by omega) (by omega) (by omega)
  rw [show ((a : Int) * 8).toNat = 8 * a by omega, show ((a : Int) * 8 + 8).toNat = 8 * a + 8 by omega] at this
  exact this
/-- What Get answers of a ring's place. -/
theorem rget_no (s : ByteArray) (a : Nat) (w : World) (h : dgB (plB s.data.toList a) = false) :
    Calls Try.prog 21 #[.string (s.extract (8 * a) (8 * a + 8))] w fun e w' => e = .returned (.tuple #[.agg #[.int .i64 0, .int .i64 0, .int .i64 0, .int .i64 0, .int .i64 0], .int .i64 1600]) ∧ Below w.heap.size w w' :=
  rdeget_is _ _ w (by rw [ext_pl]; exact degV_no h)
theorem rget_yes (s : ByteArray) (a : Nat) (w : World) (h : dgB (plB s.data.toList a) = true) :
    Calls Try.prog 21 #[.string (s.extract (8 * a) (8 * a + 8))] w fun e w' => e = .returned (.tuple #[.agg #[.int .i64 (plD s.data.toList a).o, .int .i64 (plD s.data.toList a).x, .int .i64 (plD s.data.toList a).l, .int .i64 (plD s.data.toList a).b, .int .i64 (plD s.data.toList a).n], .int .i64 0]) ∧ Below w.heap.size w w' :=
  rdeget_is _ _ w (by rw [ext_pl]; exact degV_yes h)

set_option maxHeartbeats 2000000 in
theorem rchain_any (s : ByteArray) (h : Int) (w : World) :
    Calls Try.prog 9 #[.string s, .int .i64 h] w (ChainOf (riP s.data.toList h) w) := by
  by_cases hs : s.size = 64
  · have hl : s.data.toList.length = 64 := by rw [list_len]; exact hs
    have hS : ((s.size : Int) == 64) = true := by simp; omega
    by_cases hh : 0 ≤ h ∧ h < 8
    · obtain ⟨h0, h1⟩ := hh
      obtain ⟨h, rfl⟩ := Int.eq_ofNat_of_zero_le h0
      rw [riP_at hl (by omega)]
      obtain ⟨P, hP⟩ : ∃ P, chn s.data.toList 8 h noB [] = P := ⟨_, rfl⟩
      rw [hP]
      have HP := Lib.hid hP; have HSZ := Lib.hid hs
      have hh8 : h < 8 := by omega
      obtain ⟨i0, hi, hz0, hz1, hz2⟩ := info_parts infoDs
      have HI := Lib.hid hi; have HZ0 := Lib.hid hz0; have HZ1 := Lib.hid hz1; have HZ2 := Lib.hid hz2
      have hz := zRing_run w
      have hne := zRing_ne
      clear hi hz0 hz1 hz2 hP hl hs
      go_enter Try.func9, Try.ntmps9
      go_wp2_with fail
      have c0 := Cs.start w
      clear hz hne
      go_loopw [1, 7] (fun t v wr => ∃ (a f : Nat) (S : Nat → Bool) (acc : List Ds), t = .int .i64 (a : Int) ∧ (a < 8 ∨ a = 255) ∧ acc.length + f = 8 ∧ Hid (f + cnt S = 8 ∧ chn s.data.toList f a S acc = P ∧ Cs w w.heap.size v acc S wr))
        (fun _ v _ => 8 - lenOf v)
      case atStart => exact ⟨h, 8, noB, [], rfl, .inl hh8, rfl, Lib.hid ⟨by rw [cnt_no], HP.out, c0⟩⟩
      case round =>
        obtain ⟨a, f, S, acc, rfl, ha, hlen, H⟩ := hrel
        rcases ha with ha | rfl
        · have ha255 : ((a : Int) == 255) = false := by simp; omega
          have hcell := H.out.2.2.cell ha
          have hfz := H.out.2.2.frozen a
          have hsz := H.out.2.2.size
          by_cases hSa : S a = true
          · have hP : P = (1702, []) := by rw [← H.out.2.1]; exact chn_cyc (by omega) hSa
            rw [hSa] at hcell
            have HB := Lib.hid H.out.2.2.bel
            have HPE := Lib.hid hP
            clear hP hSa H
            go_wp2_with fail
            go_ret2
            rw [HPE.out]
            exact ⟨_, rfl, World.ownsRow_nil _ _ _ _, HB.out⟩
          · have hSa : S a = false := by simpa using hSa
            rw [hSa] at hcell
            have hm := Lib.hid (H.out.2.2.mark a)
            have HSa := Lib.hid hSa
            clear hSa
            have hsl := slice_at s a HSZ.out ha
            go_wp2_with fail
            cases hd : dgB (plB s.data.toList a)
            · have hP : P = (1700, []) := by rw [← H.out.2.1]; exact chn_form H.out.1 ha HSa.out hd
              have HPE := Lib.hid hP
              clear hP hcell hfz H
              generalize wr.setCell ⟨w.heap.size, a, none⟩ (.bool true) = wm at *
              go_wp2_with fail
              refine (rget_no s a _ hd).mono ?_
              rintro e w1 ⟨rfl, b1⟩
              have HB := Lib.hid (hm.out.next b1).bel
              have hB1 := HB.out.size
              clear hm b1
              go_wp2_with fail
              go_ret2
              rw [HPE.out]
              exact ⟨_, rfl, World.ownsRow_nil _ _ _ _, HB.out.alloc hB1 _⟩
            · have HN := Lib.hid (chn_next (acc := acc) H.out.1 ha HSa.out hd)
              have HD := Lib.hid hd
              obtain ⟨b, hb1, hb2, hb3⟩ := next_of hd
              have HE := Lib.hid H.out.2.1
              clear hcell hfz H hd
              generalize wr.setCell ⟨w.heap.size, a, none⟩ (.bool true) = wm at *
              go_wp2_with fail
              refine (rget_yes s a _ HD.out).mono ?_
              rintro e w1 ⟨rfl, b1⟩
              have hc1 := hm.out.next b1
              clear hm b1
              have HX : Hid ((plD s.data.toList a).x = (b : Int)) := Lib.hid hb1
              generalize hdd : plD s.data.toList a = d at *
              obtain ⟨q0, q1, q2, q3, q4⟩ := d
              simp only at HX HN ⊢
              have H1 := Lib.hid (ints_one1 (dss [(⟨q0, q1, q2, q3, q4⟩ : Ds)]))
              have hsz1 := hc1.size
              have HC := Lib.hid hc1
              have hown := hc1.own
              clear hc1
              go_wp2_with (at_builtin; refine wpList_append_own _ rfl _ _ 22 rfl w.heap.size 42 i0 _ 5 40 Try.underlying22 HI.out HZ0.out HZ1.out HZ2.out rfl (by decide) _ acc.length (ints (dss acc)) rfl ((hown.alloc _).alloc _) ⟨w1.heap.size + 1, 0, none⟩ 1 1 (ints (dss [(⟨q0, q1, q2, q3, q4⟩ : Ds)])) rfl rfl (by exact row_new2 w1 _ (ints (dss [(⟨q0, q1, q2, q3, q4⟩ : Ds)])) _) H1.out (by unfold maxLen; omega) (by omega) (by simp; omega) ?_)
              intro v' w2 hown' hgrow _
              obtain ⟨hc2, hob⟩ := HC.out.grow (d := (⟨q0, q1, q2, q3, q4⟩ : Ds)) _ _ hgrow hown'
              obtain ⟨f', hf0, hf1, hf2⟩ := HN.out
              have hcx : w2.cell? ⟨w1.heap.size, 1, none⟩ = some (.int .i64 q1) := by
                rw [cell_of_row w2 _ 1 _ _ (0, 0) hob]; rfl
              rw [HX.out] at hcx
              have hcq := HX.out
              have HC2 := Lib.hid hc2
              have HF : Hid (f' + cnt (bitF S a true) = 8 ∧ chn s.data.toList f' b (bitF S a true) (acc ++ [(⟨q0, q1, q2, q3, q4⟩ : Ds)]) = P) := Lib.hid ⟨hf1, by rw [← HE.out, hf2, hcq]; rfl⟩
              have hn0 := own_len hown
              have hn1 := own_len hc2.own
              clear hgrow hown hown' hc2 hob hf2 HE HN hdd hcq hb1 hb2
              go_wp2
              go_roundw
              case rel => exact ⟨b, f', bitF S a true, acc ++ [(⟨q0, q1, q2, q3, q4⟩ : Ds)], rfl, hb3, by simp; omega, Lib.hid ⟨HF.out.1, HF.out.2, HC2.out⟩⟩
              case measure => rw [hn0, hn1]; simp; omega
        · have hP : P = (0, acc) := by rw [← H.out.2.1]; exact chn_end _ _ _ _
          have HPE := Lib.hid hP
          have HC := Lib.hid H.out.2.2
          clear hP H
          go_wp2_with fail
          go_ret2
          rw [HPE.out]
          exact ⟨_, rfl, HC.out.own, HC.out.bel⟩
    · rw [riP_head hl hh]
      have hq : h < 0 ∨ (0 ≤ h ∧ 8 ≤ h) := by omega
      clear hl hs hh
      rcases hq with hq | ⟨hq, hq2⟩
      · go_enter Try.func9, Try.ntmps9
        go_wp2
        go_ret2
        exact ⟨_, rfl, World.ownsRow_nil _ _ _ _, Below.refl _ _⟩
      · go_enter Try.func9, Try.ntmps9
        go_wp2
        go_ret2
        exact ⟨_, rfl, World.ownsRow_nil _ _ _ _, Below.refl _ _⟩
  · rw [riP_len (by rw [list_len]; exact hs)]
    have hS : ((s.size : Int) == 64) = false := by simp; omega
    clear hs
    go_enter Try.func9, Try.ntmps9
    go_wp2
    go_ret2
    exact ⟨_, rfl, World.ownsRow_nil _ _ _ _, Below.refl _ _⟩

end Go.Proofs.Ytcjmgjdejljjkaa
