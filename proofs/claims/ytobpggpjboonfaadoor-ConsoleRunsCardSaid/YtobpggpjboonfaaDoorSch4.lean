/-
  Contracts of the document's windows: WindowsMay, Delivers, Opens, Next.
-/
import Derived.Test.YtobpggpjboonfaaDoorSch3
import Derived.Test.YtobpggpjboonfaaDoorMay
namespace Go.Proofs.YtobpggpjboonfaaDoor
open Go.RowKit
set_option linter.unusedVariables false
set_option linter.unusedSimpArgs false
set_option maxRecDepth 100000

/-- The offsets that are held, as cells. -/
def ucs (u : Nat → Bool) : List Value := (List.range 64).map fun j => .bool (u j)
theorem ucs_get (u : Nat → Bool) (j : Nat) (h : j < 64) : (ucs u)[j]? = some (.bool (u j)) := by simp [ucs, h]
theorem ucs_set (u : Nat → Bool) (j : Nat) (h : j < 64) (v : Nat → Bool) (hv : ∀ i, v i = (u i || decide (i = j))) : (ucs u).set j (.bool true) = ucs v := by
  apply List.ext_getElem? 
  intro i
  rw [List.getElem?_set]
  by_cases e : j = i
  · subst e
    rw [if_pos rfl, if_pos (by simpa [ucs] using h), ucs_get v _ h, hv]; simp
  · rw [if_neg e]
    by_cases hi : i < 64
    · rw [ucs_get u i hi, ucs_get v i hi, hv]; simp [show ¬ i = j from fun h => e h.symm]
    · rw [List.getElem?_eq_none (by simpa [ucs] using hi), List.getElem?_eq_none (by simpa [ucs] using hi)]

/-- Offsets held by windows, and by the front of one more. -/
def usedTo (l : List Win) (s : Int) (c : Nat) (j : Nat) : Bool := used l j || decide (s ≤ j ∧ (j : Int) < s + c)
theorem usedTo_zero (l : List Win) (s : Int) : usedTo l s 0 = used l := by
  funext j; unfold usedTo
  rw [decide_eq_false (by omega), Bool.or_false]
theorem usedTo_step (l : List Win) (s c i : Nat) : usedTo l s (c + 1) i = (usedTo l s c i || decide (i = s + c)) := by
  unfold usedTo
  rw [Bool.or_assoc]
  congr 1
  by_cases h : i = s + c
  · rw [decide_eq_true h, Bool.or_true]; exact decide_eq_true (by omega)
  · rw [decide_eq_false h, Bool.or_false]
    by_cases h2 : (s : Int) ≤ i ∧ (i : Int) < s + c
    · rw [decide_eq_true h2]; exact decide_eq_true (by omega)
    · rw [decide_eq_false h2]; exact decide_eq_false (by omega)
theorem used_take (l : List Win) (k : Nat) (hk : k < l.length) (c : Nat) (hc : l[k].l = c) : usedTo (l.take k) l[k].s c = used (l.take (k + 1)) := by
  funext j
  rw [List.take_add_one, List.getElem?_eq_getElem hk]
  show _ = used (l.take k ++ [l[k]]) j
  rw [used_snoc, hc]
  rfl
theorem usedTo_at (l : List Win) (s c : Nat) : usedTo l s c (s + c) = used l (s + c) := by
  unfold usedTo
  rw [decide_eq_false (by omega), Bool.or_false]

/-- How the document tests one window. -/
theorem fit_parts2 (x : Win) (m p : Int) (hm : 1 ≤ m) (hm2 : m ≤ 64) : fitW x m p = true ∧ 0 ≤ x.p ∧ x.p < p ∧ 0 ≤ x.s ∧ 1 ≤ x.l ∧ x.s ≤ m ∧ x.l ≤ m - x.s ∧ x.s ≤ x.d ∧ x.d - x.s < x.l ∨
    fitW x m p = false ∧ (x.p < 0 ∨ 0 ≤ x.p ∧ p ≤ x.p ∨ 0 ≤ x.p ∧ x.p < p ∧ x.l < 1 ∨ 0 ≤ x.p ∧ x.p < p ∧ 1 ≤ x.l ∧ ¬ (0 ≤ x.s ∧ 0 ≤ x.l ∧ x.s ≤ m ∧ x.l ≤ m - x.s) ∨
      0 ≤ x.p ∧ x.p < p ∧ 1 ≤ x.l ∧ (0 ≤ x.s ∧ 0 ≤ x.l ∧ x.s ≤ m ∧ x.l ≤ m - x.s) ∧ x.d < x.s ∨ 0 ≤ x.p ∧ x.p < p ∧ 1 ≤ x.l ∧ (0 ≤ x.s ∧ 0 ≤ x.l ∧ x.s ≤ m ∧ x.l ≤ m - x.s) ∧ x.s ≤ x.d ∧ x.l ≤ x.d - x.s) := by
  by_cases h : 0 ≤ x.p ∧ x.p < p ∧ 0 ≤ x.s ∧ 1 ≤ x.l ∧ x.s + x.l ≤ m ∧ x.s ≤ x.d ∧ x.d < x.s + x.l
  · exact .inl ⟨decide_eq_true h, by omega⟩
  · refine .inr ⟨decide_eq_false h, ?_⟩
    omega

/-- The array of offsets and what stands. -/
def Usd (w : World) (h : Nat) (u : Nat → Bool) (wr : World) : Prop := Blk wr h 106 (ucs u) ∧ Below w.heap.size w wr ∧ w.heap.size ≤ h

/-- The cells of a new array: kept closed to the walk. -/
def zUsed : Array Value := (ucs (used [])).toArray
theorem zUsed_ne : ¬ (zUsed = #[]) := by
  intro h
  have := congrArg Array.size h
  simp [zUsed, ucs] at this
theorem zUsed_run (w : World) : Sem.run Tryd.prog (zeroValue 106) w = .ok (.agg zUsed) w := by
  have hi : (Tryd.prog.info? 106).map (fun i => i.zero) = some (some (.agg zUsed)) := by kernel_rfl
  cases h : Tryd.prog.info? 106 with
  | none => rw [h] at hi; cases hi
  | some i =>
    rw [h] at hi
    simp only [Option.map_some, Option.some.injEq] at hi
    simp [zeroValue, typeInfo, h, hi]

set_option maxHeartbeats 4000000 in
theorem rwmay_any (A : Option Addr) (n cap : Nat) (l : List Win) (m p : Int) (w : World) (hs : Sl w (.slice A n cap) n 4 (ints (wins l))) (hn : n ≤ maxLen) (hl : l.length = n) (hw : ∀ x ∈ l, W64 x) :
    Calls Tryd.prog 46 #[.slice A n cap, .int .i64 m, .int .i64 p] w fun e w' => e = .returned (.bool (mayW l m p)) ∧ Below w.heap.size w w' := by
  have HS := Lib.hid hs; have HL := Lib.hid hl; have HW := Lib.hid hw
  unfold maxLen at hn
  rcases head_parts n m p with ⟨hh, h0, h1, h2, h3, h4, h5⟩ | ⟨hh, hh2⟩
  · rw [← hl] at hh
    have HH := Lib.hid hh
    clear hs hl hw hh
    go_enter Tryd.func46, Tryd.ntmps46
    have hz := zUsed_run
    have hne := zUsed_ne
    go_wp2_with fail
    clear hz hne
    have hu0 : Usd w w.heap.size (used (l.take 0)) (w.alloc (.cells zUsed 106)) := ⟨Blk.new _ _ _, (Below.refl _ _).alloc (Nat.le_refl _) _, Nat.le_refl _⟩
    generalize w.alloc (.cells zUsed 106) = wz at *
    go_loopw [8] (fun i wr => ∃ (k : Nat), k ≤ n ∧ i = .int .i64 k ∧ (∀ j, j < k → okB l m p j = true) ∧ Usd w w.heap.size (used (l.take k)) wr) (fun i _ => n - (intOf i).toNat)
    case atStart => exact ⟨0, by omega, rfl, fun j hj => by omega, hu0⟩
    case round =>
      clear hu0
      obtain ⟨k, hk, rfl, hall, hu⟩ := hrel
      have HALL := Lib.hid hall; clear hall
      by_cases hlt : k < n
      · have hkl : k < l.length := by rw [HL.out]; exact hlt
        obtain ⟨b, o, rfl, hb, c0, c1, c2, c3⟩ := wd_at (HS.out.below hu.2.1) HL.out k hkl
        have hwx := HW.out l[k] (List.getElem_mem hkl)
        have hno := Lib.hid (fun (h : fitW l[k] m p = false) => mayW_no hkl (ok_no_fit hkl h))
        have hmt := Lib.hid (fun (h : (l.take k).any (metB l[k]) = true) => mayW_no (m := m) (p := p) hkl (ok_meets hkl h))
        have hys := Lib.hid (fun (h : fitW l[k] m p = true) (h' : (l.take k).any (metB l[k]) = false) => ok_yes hkl h h')
        have hut := Lib.hid (fun c (hc : l[k].l = ((c : Nat) : Int)) => used_take l k hkl c hc)
        generalize l[k] = x at *
        have hto : Hid (∀ y ∈ l.take k, 0 ≤ y.s ∧ 1 ≤ y.l) := Lib.hid (by
          intro o ho
          obtain ⟨j, hj, rfl⟩ := List.getElem_of_mem ho
          have hjk : j < k := by rw [List.length_take] at hj; omega
          rw [List.getElem_take]
          have := fit_of (ok_fit (by omega) (HALL.out j hjk))
          omega)
        have hub := hu.2.1.alloc hu.2.1.size (.cells #[.int .i64 x.p, .int .i64 x.s, .int .i64 x.l, .int .i64 x.d] 71)
        have huk := hu.1.alloc (.cells #[.int .i64 x.p, .int .i64 x.s, .int .i64 x.l, .int .i64 x.d] 71)
        have hux := Blk.new wr 71 (wdv x)
        change Blk (wr.alloc (.cells #[.int .i64 x.p, .int .i64 x.s, .int .i64 x.l, .int .i64 x.d] 71)) _ _ _ at hux
        have huh := hu.2.2
        have hug := hu.1.lt
        clear hu
        obtain ⟨xp, xs, xl, xd⟩ := x
        simp only at *
        have HFP := fit_parts2 ⟨xp, xs, xl, xd⟩ m p h0 h1
        simp only at HFP
        have HX := Lib.hid hwx; clear hwx
        obtain ⟨⟨p0, p1⟩, ⟨s0, s1⟩, ⟨l0, l1⟩, ⟨d0, d1⟩⟩ := HX.out
        simp only at p0 p1 s0 s1 l0 l1 d0 d1
        rcases HFP with ⟨hf, f0, f1, f2, f3, f4, f5, f6, f7⟩ | ⟨hf, f⟩
        · obtain ⟨s, rfl⟩ := Int.eq_ofNat_of_zero_le f2
          obtain ⟨L, rfl⟩ := Int.eq_ofNat_of_zero_le (show 0 ≤ xl by omega)
          have HF := Lib.hid hf; clear hf hno HX
          have HM := Lib.hid (fun w => rmay_yes (s : Int) (L : Int) m w f2 (by omega) f4 f5 (by omega))
          go_wp2_with (go_at_call 61; refine (HM.out _).mono ?_; rintro e w' ⟨rfl, rfl⟩)
          generalize wr.alloc (.cells #[.int .i64 xp, .int .i64 (s : Int), .int .i64 (L : Int), .int .i64 xd] 71) = w1 at *
          have hgh : w.heap.size ≠ wr.heap.size := by omega
          have hwg : w.heap.size ≤ wr.heap.size := by omega
          generalize wr.heap.size = g at *
          rw [← usedTo_zero (l.take k) (s : Int)] at huk
          clear c0 c1 c2 c3 hb
          go_loopw [10] (fun j wq => ∃ (c : Nat), c ≤ L ∧ j = .int .i64 ((s + c : Nat) : Int) ∧ (∀ i, i < c → used (l.take k) (s + i) = false) ∧ Blk wq w.heap.size 106 (ucs (usedTo (l.take k) s c)) ∧ Blk wq g 71 (wdv ⟨xp, s, L, xd⟩) ∧ Below w.heap.size w wq) (fun j _ => s + L - (intOf j).toNat)
          case atStart => exact ⟨0, by omega, rfl, fun i hi => by omega, huk, hux, hub⟩
          case round =>
            clear huk hux hub
            obtain ⟨c, hc, rfl, hall, huk, hux, hub⟩ := hrel
            have HA2 := Lib.hid hall; clear hall
            obtain ⟨q0, q1, q2, q3⟩ := four_at hux
            simp only at q0 q1 q2 q3
            have hsum : IntKind.i64.wrap ((s : Int) + (L : Int)) = (s : Int) + (L : Int) := IntWalk.i64_in _ (by omega)
            by_cases hcl : c < L
            · have hcell := (huk.cell (s + c)).trans (ucs_get _ _ (by omega))
              rw [usedTo_at] at hcell
              have hfr := huk.frozen (s + c)
              have hset := huk.set (s + c) (.bool true)
              rw [ucs_set _ (s + c) (by omega) (usedTo (l.take k) s (c + 1)) (fun i => usedTo_step _ _ _ _)] at hset
              have hux2 := hux.far (p := ⟨w.heap.size, s + c, none⟩) (fun e => hgh e.symm) (.bool true)
              have hub2 := hub.setCell (p := ⟨w.heap.size, s + c, none⟩) (Nat.le_refl _) (.bool true)
              have h64 : ((s + c : Nat) : Int) < 64 := by omega
              have h640 : (0 : Int) ≤ ((s + c : Nat) : Int) := by omega
              generalize hU : used (l.take k) (s + c) = U at *
              have HU := Lib.hid hU
              clear huk hux hU
              have hj : ((s + c : Nat) : Int) < (s : Int) + (L : Int) := by omega
              have hnx : IntKind.i64.wrap (((s + c : Nat) : Int) + 1) = ((s + (c + 1) : Nat) : Int) := by rw [IntWalk.i64_in _ (by omega)]; omega
              generalize hjj : s + c = j at *
              have HJ := Lib.hid hjj; clear hjj
              cases U with
              | true =>
                have hmt2 := Lib.hid (hmt.out (used_meets (x := ⟨xp, s, L, xd⟩) HU.out (show (s : Int) ≤ (j : Int) by have := HJ.out; omega) (show (j : Int) < (s : Int) + L by omega)))
                go_wp2_with fail
                go_ret
                exact ⟨by rw [hmt2.out]; rfl, hub⟩
              | false =>
                clear hub
                go_wp2_with fail
                go_roundw
                case rel => exact ⟨c + 1, by omega, by go_num, fun i hi => by
                  by_cases e : i = c
                  · subst e; rw [HJ.out]; exact HU.out
                  · exact HA2.out i (by omega), hset, hux2, hub2⟩
                case measure => have := HJ.out; simp [intOf]; omega
            · obtain rfl : c = L := by omega
              rw [hut.out c rfl] at huk
              have hnm := Lib.hid (meets_used (l := l.take k) (x := ⟨xp, s, c, xd⟩) (by simp only; omega) (by simp only; omega) hto.out (fun j hj1 hj2 => by
                simp only at hj1 hj2
                have := HA2.out (j - s) (by omega)
                rwa [show s + (j - s) = j by omega] at this))
              go_wp2_with fail
              go_roundw
              case rel => exact ⟨k + 1, by omega, by go_num, fun j hj => by
                by_cases e : j = k
                · subst e; exact hys.out HF.out hnm.out
                · exact HALL.out j (by omega), huk, hub, Nat.le_refl _⟩
              case measure => simp [intOf]; omega
        · have HF := Lib.hid (hno.out hf)
          clear hf
          rcases f with f0 | ⟨f0, f1⟩ | ⟨f0, f1, f2⟩ | ⟨f0, f1, f2, f3⟩ | ⟨f0, f1, f2, f3, f4⟩ | ⟨f0, f1, f2, f3, f4, f5⟩
          · go_wp2_with fail
            go_ret
            exact ⟨by rw [HF.out]; rfl, hub⟩
          · go_wp2_with fail
            go_ret
            exact ⟨by rw [HF.out]; rfl, hub⟩
          · go_wp2_with fail
            go_ret
            exact ⟨by rw [HF.out]; rfl, hub⟩
          · have HM := Lib.hid (fun w => rmay_no xs xl m w f3 (by omega))
            clear f3
            go_wp2_with (go_at_call 61; refine (HM.out _).mono ?_; rintro e w' ⟨rfl, rfl⟩)
            go_ret
            exact ⟨by rw [HF.out]; rfl, hub⟩
          · obtain ⟨g0, g1, g2, g3⟩ := f3
            have HM := Lib.hid (fun w => rmay_yes xs xl m w g0 g1 g2 g3 (by omega))
            go_wp2_with (go_at_call 61; refine (HM.out _).mono ?_; rintro e w' ⟨rfl, rfl⟩)
            go_ret
            exact ⟨by rw [HF.out]; rfl, hub⟩
          · obtain ⟨g0, g1, g2, g3⟩ := f3
            have HM := Lib.hid (fun w => rmay_yes xs xl m w g0 g1 g2 g3 (by omega))
            go_wp2_with (go_at_call 61; refine (HM.out _).mono ?_; rintro e w' ⟨rfl, rfl⟩)
            go_ret
            exact ⟨by rw [HF.out]; rfl, hub⟩
      · go_wp2_with fail
        go_ret
        exact ⟨by rw [mayW_yes HH.out (fun j hj => HALL.out j (by have := HL.out; omega))]; rfl, hu.2.1⟩
  · have hM := mayW_head (l := l) (m := m) (p := p) (by rw [hl]; exact hh)
    rw [hM]
    clear hs hl hw hM hh
    rcases hh2 with h0 | ⟨h0, h1⟩ | ⟨h0, h1, h2⟩ | ⟨h0, h1, h2, h3⟩ | ⟨h0, h1, h2, h3, h4⟩ | ⟨h0, h1, h2, h3, h4, h5⟩
    all_goals
      go_enter Tryd.func46, Tryd.ntmps46
      go_wp2_with fail
      go_ret
      exact ⟨rfl, Below.refl _ _⟩

end Go.Proofs.YtobpggpjboonfaaDoor
