/-
  Contracts: a ring's chain, the program's (bytesAt, Chain).
-/
import Derived.Test.YtcjmgjdejljjkaaRi0
import Derived.Test.YtcjmgjdejljjkaaOb
import Derived.Test.YtcjmgjdejljjkaaDeAwake
import Derived.Test.YtcjmgjdejljjkaaChecked
import Derived.Lib.SliceRun
namespace Go.Proofs.Ytcjmgjdejljjkaa
open Go.RowKit
set_option linter.unusedVariables false
set_option linter.unusedSimpArgs false
set_option maxRecDepth 100000

theorem infoDs : (Try.prog.info? 42).map (fun i => (i.zero, i.size, i.bytes)) = some (some (.agg #[.int .i64 0, .int .i64 0, .int .i64 0, .int .i64 0, .int .i64 0]), 5, 40) := by kernel_rfl

def zRing : Array Value := (bitc noB 8).toArray
theorem zRing_ne : ¬ (zRing = #[]) := by simp [zRing, bitc]
theorem zRing_run (w : World) : Sem.run Try.prog (zeroValue 40) w = .ok (.agg zRing) w := by
  have hi : (Try.prog.info? 40).map (fun i => i.zero) = some (some (.agg zRing)) := by kernel_rfl
  cases h : Try.prog.info? 40 with
  | none => rw [h] at hi; cases hi
  | some i =>
    rw [h] at hi
    simp only [Option.map_some, Option.some.injEq] at hi
    simp [zeroValue, typeInfo, h, hi]

/-- A chain on the way: its row, which places have come. -/
structure Cs (w0 : World) (g : Nat) (v : Value) (acc : List Ds) (S : Nat → Bool) (w : World) : Prop where
  own : w.ownsRow w0.heap.size 42 5 v acc.length (ints (dss acc))
  blk : Blk w g 40 (bitc S 8)
  hg : w0.heap.size ≤ g
  bel : Below w0.heap.size w0 w

section
variable {w0 w w1 w2 : World} {g a : Nat} {v v' : Value} {acc : List Ds} {S : Nat → Bool} {d : Ds}
theorem Cs.start (w : World) : Cs w w.heap.size (.slice none 0 0) [] noB (w.alloc (.cells zRing 40)) :=
  ⟨World.ownsRow_nil _ _ _ _, Blk.new w 40 (bitc noB 8), Nat.le_refl _, (Below.refl _ _).alloc (Nat.le_refl _) _⟩
theorem Cs.drewN (h : Cs w0 g v acc S w) (n : Nat) : Cs w0 g v acc S (w.drewN n) := ⟨h.own, h.blk.drewN n, h.hg, bdrewN h.bel n⟩
theorem Cs.next (h : Cs w0 g v acc S w) (hb : Below w.heap.size w w1) : Cs w0 g v acc S w1 :=
  ⟨own_below h.own hb, h.blk.below hb h.blk.lt, h.hg, Below.down h.bel hb h.bel.size⟩
theorem Cs.mark (h : Cs w0 g v acc S w) (a : Nat) : Cs w0 g v acc (bitF S a true) (w.setCell ⟨g, a, none⟩ (.bool true)) :=
  ⟨own_stay h.own (fun b hb => Below.heap_setCell w ⟨g, a, none⟩ _ b (fun e => own_apart_blk h.own h.blk (by decide) (by rw [hb]; exact congrArg some e))),
   by rw [← bitc_set]; exact h.blk.set a _, h.hg, h.bel.setCell h.hg _⟩
theorem Cs.grow (h : Cs w0 g v acc S w) (o o' : Obj) (hg : ((w.alloc o).alloc o').grownBy w2 v.ownBlock) (ho : w2.ownsRow w0.heap.size 42 5 v' (acc.length + 1) (ints (dss acc) ++ ints (dss [d]))) :
    Cs w0 g v' (acc ++ [d]) S w2 ∧ w2.heap[w.heap.size]? = some o := by
  refine ⟨⟨by rw [dss_append, ints_append, List.length_append]; exact ho, ?_, h.hg, below_two _ _ h.own h.bel.size h.bel (Below.refl _ _) hg⟩, kept_first _ _ h.own (Nat.le_refl _) hg⟩
  exact ((h.blk.alloc o).alloc o').grown hg (fun e => own_apart_blk h.own h.blk (by decide) e.symm)
theorem Cs.cell (h : Cs w0 g v acc S w) (ha : a < 8) : w.cell? ⟨g, a, none⟩ = some (.bool (S a)) := by rw [h.blk.cell, bitc_get _ _ _ ha]
theorem Cs.frozen (h : Cs w0 g v acc S w) (a : Nat) : w.frozen? ⟨g, a, none⟩ = false := h.blk.frozen a
theorem Cs.size (h : Cs w0 g v acc S w) : w0.heap.size ≤ w.heap.size := h.bel.size
end

theorem bytesAt_any (s : ByteArray) (a : Nat) (w : World) (hs : s.size = 64) (ha : a < 8) :
    Calls Try.prog 23 #[.string s, .int .i64 a] w fun e w' => e = .returned (.string (s.extract (8 * a) (8 * a + 8))) ∧ w = w' := by
  have hsl : ∀ wx : World, (Instr.slice 9 (.string s) (some (.int .i64 ((a : Int) * 8))) (some (.int .i64 (((a : Int) + 1) * 8))) none).run Try.prog wx = .ok (.string (s.extract (8 * a) (8 * a + 8))) wx := by
    intro wx
    have := run_slice_string (P := Try.prog) wx 9 s .i64 .i64 ((a : Int) * 8) (((a : Int) + 1) * 8) Try.underlying9 (by omega) (by omega) (by omega)
    rw [show ((a : Int) * 8).toNat = 8 * a by omega, show (((a : Int) + 1) * 8).toNat = 8 * a + 8 by omega] at this
    exact this
  go_enter Try.func23, Try.ntmps23
  go_wp2
  go_ret
  exact ⟨rfl, rfl⟩

theorem row_new2 (w : World) (o : Obj) (cs : List Value) (t : TypeId) : ∀ j u, cs[j]? = some u → ((w.alloc o).alloc (.cells cs.toArray t)).cell? ((⟨w.heap.size + 1, 0, none⟩ : Addr).add j) = some u := by
  intro j u hj
  have h := row_new (w.alloc o) cs t j u hj
  have e : (w.alloc o).heap.size = w.heap.size + 1 := by simp
  rw [e] at h
  exact h
/-- A slice's length. -/
def lenOf : Value → Nat
  | .slice _ n _ => n
  | _ => 0
theorem own_len {w : World} {B size n : Nat} {e : TypeId} {v : Value} {xs : List Value} (h : w.ownsRow B e size v n xs) : lenOf v = n := by
  rcases h.2 with ⟨rfl, h0⟩ | ⟨g, cap, cur, rfl, _⟩
  · exact h0.symm
  · rfl

/-- What Get answers of a ring's place. -/
theorem get_no (s : ByteArray) (a : Nat) (w : World) (h : dgB (plB s.data.toList a) = false) :
    Calls Try.prog 22 #[.string (s.extract (8 * a) (8 * a + 8))] w fun e w' => e = .returned (.tuple #[.agg #[.int .i64 0, .int .i64 0, .int .i64 0, .int .i64 0, .int .i64 0], .int .i64 1600]) ∧ Below w.heap.size w w' :=
  deget_is _ _ w (by rw [ext_pl]; exact degV_no h)
theorem get_yes (s : ByteArray) (a : Nat) (w : World) (h : dgB (plB s.data.toList a) = true) :
    Calls Try.prog 22 #[.string (s.extract (8 * a) (8 * a + 8))] w fun e w' => e = .returned (.tuple #[.agg #[.int .i64 (plD s.data.toList a).o, .int .i64 (plD s.data.toList a).x, .int .i64 (plD s.data.toList a).l, .int .i64 (plD s.data.toList a).b, .int .i64 (plD s.data.toList a).n], .int .i64 0]) ∧ Below w.heap.size w w' :=
  deget_is _ _ w (by rw [ext_pl]; exact degV_yes h)

/-- What a call that answers a chain leaves. -/
def ChainOf (P : Int × List Ds) (w : World) (e : Ending) (w' : World) : Prop :=
  ∃ v, e = .returned (.tuple #[v, .int .i64 P.1]) ∧ w'.ownsRow w.heap.size 42 5 v P.2.length (ints (dss P.2)) ∧ Below w.heap.size w w'

set_option maxHeartbeats 2000000 in
theorem chain_any (s : ByteArray) (h : Int) (w : World) :
    Calls Try.prog 8 #[.string s, .int .i64 h] w (ChainOf (riP s.data.toList h) w) := by
  by_cases hs : s.size = 64
  · have hl : s.data.toList.length = 64 := by rw [list_len]; exact hs
    have hS : ((s.size : Int) == 64) = true := by simp; omega
    by_cases hh : 0 ≤ h ∧ h < 8
    · obtain ⟨h0, h1⟩ := hh
      obtain ⟨h, rfl⟩ := Int.eq_ofNat_of_zero_le h0
      rw [riP_at hl (by omega)]
      obtain ⟨P, hP⟩ : ∃ P, chn s.data.toList 8 h noB [] = P := ⟨_, rfl⟩
      rw [hP]
      have HP := Lib.hid hP; have HSZ := Lib.hid hs
      have hh8 : h < 8 := by omega
      obtain ⟨i0, hi, hz0, hz1, hz2⟩ := info_parts infoDs
      have HI := Lib.hid hi; have HZ0 := Lib.hid hz0; have HZ1 := Lib.hid hz1; have HZ2 := Lib.hid hz2
      have hz := zRing_run w
      have hne := zRing_ne
      clear hi hz0 hz1 hz2 hP hl hs
      go_enter Try.func8, Try.ntmps8
      go_wp2_with fail
      have c0 := Cs.start w
      clear hz hne
      go_loopw [6, 8] (fun v t wr => ∃ (a f : Nat) (S : Nat → Bool) (acc : List Ds), t = .int .i64 (a : Int) ∧ (a < 8 ∨ a = 255) ∧ acc.length + f = 8 ∧ Hid (f + cnt S = 8 ∧ chn s.data.toList f a S acc = P ∧ Cs w w.heap.size v acc S wr))
        (fun v _ _ => 8 - lenOf v)
      case atStart => exact ⟨h, 8, noB, [], rfl, .inl hh8, rfl, Lib.hid ⟨by rw [cnt_no], HP.out, c0⟩⟩
      case round =>
        obtain ⟨a, f, S, acc, rfl, ha, hlen, H⟩ := hrel
        rcases ha with ha | rfl
        · have ha255 : ((a : Int) == 255) = false := by simp; omega
          have hcell := H.out.2.2.cell ha
          have hfz := H.out.2.2.frozen a
          have hsz := H.out.2.2.size
          by_cases hSa : S a = true
          · have hP : P = (1702, []) := by rw [← H.out.2.1]; exact chn_cyc (by omega) hSa
            rw [hSa] at hcell
            have HB := Lib.hid H.out.2.2.bel
            have HPE := Lib.hid hP
            clear hP hSa H
            go_wp2_with fail
            go_ret2
            rw [HPE.out]
            exact ⟨_, rfl, World.ownsRow_nil _ _ _ _, HB.out⟩
          · have hSa : S a = false := by simpa using hSa
            rw [hSa] at hcell
            have hm := Lib.hid (H.out.2.2.mark a)
            have HSa := Lib.hid hSa
            clear hSa
            go_wp2_with fail
            refine (bytesAt_any s a _ HSZ.out ha).mono ?_
            rintro e w' ⟨rfl, rfl⟩
            cases hd : dgB (plB s.data.toList a)
            · have hP : P = (1700, []) := by rw [← H.out.2.1]; exact chn_form H.out.1 ha HSa.out hd
              have HPE := Lib.hid hP
              clear hP hcell hfz H
              generalize wr.setCell ⟨w.heap.size, a, none⟩ (.bool true) = wm at *
              go_wp2_with fail
              refine (get_no s a _ hd).mono ?_
              rintro e w1 ⟨rfl, b1⟩
              have HB := Lib.hid (hm.out.next b1).bel
              have hB1 := HB.out.size
              clear hm b1
              go_wp2_with fail
              go_ret2
              rw [HPE.out]
              exact ⟨_, rfl, World.ownsRow_nil _ _ _ _, HB.out.alloc hB1 _⟩
            · have HN := Lib.hid (chn_next (acc := acc) H.out.1 ha HSa.out hd)
              have HD := Lib.hid hd
              obtain ⟨b, hb1, hb2, hb3⟩ := next_of hd
              have HE := Lib.hid H.out.2.1
              clear hcell hfz H hd
              generalize wr.setCell ⟨w.heap.size, a, none⟩ (.bool true) = wm at *
              go_wp2_with fail
              refine (get_yes s a _ HD.out).mono ?_
              rintro e w1 ⟨rfl, b1⟩
              have hc1 := hm.out.next b1
              clear hm b1
              have HX : Hid ((plD s.data.toList a).x = (b : Int)) := Lib.hid hb1
              generalize hdd : plD s.data.toList a = d at *
              obtain ⟨q0, q1, q2, q3, q4⟩ := d
              simp only at HX HN ⊢
              have H1 := Lib.hid (ints_one1 (dss [(⟨q0, q1, q2, q3, q4⟩ : Ds)]))
              have hsz1 := hc1.size
              have HC := Lib.hid hc1
              have hown := hc1.own
              clear hc1
              go_wp2_with (at_builtin; refine wpList_append_own _ rfl _ _ 22 rfl w.heap.size 42 i0 _ 5 40 Try.underlying22 HI.out HZ0.out HZ1.out HZ2.out rfl (by decide) _ acc.length (ints (dss acc)) rfl ((hown.alloc _).alloc _) ⟨w1.heap.size + 1, 0, none⟩ 1 1 (ints (dss [(⟨q0, q1, q2, q3, q4⟩ : Ds)])) rfl rfl (by exact row_new2 w1 _ (ints (dss [(⟨q0, q1, q2, q3, q4⟩ : Ds)])) _) H1.out (by unfold maxLen; omega) (by omega) (by simp; omega) ?_)
              intro v' w2 hown' hgrow _
              obtain ⟨hc2, hob⟩ := HC.out.grow (d := (⟨q0, q1, q2, q3, q4⟩ : Ds)) _ _ hgrow hown'
              obtain ⟨f', hf0, hf1, hf2⟩ := HN.out
              have hcx : w2.cell? ⟨w1.heap.size, 1, none⟩ = some (.int .i64 q1) := by
                rw [cell_of_row w2 _ 1 _ _ (0, 0) hob]; rfl
              rw [HX.out] at hcx
              have hcq := HX.out
              have HC2 := Lib.hid hc2
              have HF : Hid (f' + cnt (bitF S a true) = 8 ∧ chn s.data.toList f' b (bitF S a true) (acc ++ [(⟨q0, q1, q2, q3, q4⟩ : Ds)]) = P) := Lib.hid ⟨hf1, by rw [← HE.out, hf2, hcq]; rfl⟩
              have hn0 := own_len hown
              have hn1 := own_len hc2.own
              clear hgrow hown hown' hc2 hob hf2 HE HN hdd hcq hb1 hb2
              go_wp2
              go_roundw
              case rel => exact ⟨b, f', bitF S a true, acc ++ [(⟨q0, q1, q2, q3, q4⟩ : Ds)], rfl, hb3, by simp; omega, Lib.hid ⟨HF.out.1, HF.out.2, HC2.out⟩⟩
              case measure => rw [hn0, hn1]; simp; omega
        · have hP : P = (0, acc) := by rw [← H.out.2.1]; exact chn_end _ _ _ _
          have HPE := Lib.hid hP
          have HC := Lib.hid H.out.2.2
          clear hP H
          go_wp2_with fail
          go_ret2
          rw [HPE.out]
          exact ⟨_, rfl, HC.out.own, HC.out.bel⟩
    · rw [riP_head hl hh]
      have hq : h < 0 ∨ (0 ≤ h ∧ 8 ≤ h) := by omega
      clear hl hs hh
      rcases hq with hq | ⟨hq, hq2⟩
      · go_enter Try.func8, Try.ntmps8
        go_wp2
        go_ret2
        exact ⟨_, rfl, World.ownsRow_nil _ _ _ _, Below.refl _ _⟩
      · go_enter Try.func8, Try.ntmps8
        go_wp2
        go_ret2
        exact ⟨_, rfl, World.ownsRow_nil _ _ _ _, Below.refl _ _⟩
  · rw [riP_len (by rw [list_len]; exact hs)]
    have hS : ((s.size : Int) == 64) = false := by simp; omega
    clear hs
    go_enter Try.func8, Try.ntmps8
    go_wp2
    go_ret2
    exact ⟨_, rfl, World.ownsRow_nil _ _ _ _, Below.refl _ _⟩

end Go.Proofs.Ytcjmgjdejljjkaa
