/-
  Contracts of package sched: May, mayAsk.
-/
import Derived.Test.YtobpggpjboonfaaDoorSch1
import Derived.Deep.RegionHeld3
import Derived.Test.YtobpggpjboonfaaDoorTkn
namespace Go.Proofs.YtobpggpjboonfaaDoor
open Go.RowKit
set_option linter.unusedVariables false
set_option linter.unusedSimpArgs false
set_option maxRecDepth 100000

/-- What a round of May needs of the world: the window's own block, and that nothing that was there has turned. -/
structure MayS (w : World) (g : Nat) (x : Win) (w' : World) : Prop where
  blk : Blk w' g 71 (wdv x)
  below : Below w.heap.size w w'
  size : w.heap.size ≤ w'.heap.size
theorem MayS.next {w w1 w2 : World} {g : Nat} {x : Win} (h : MayS w g x w1) (hb : Below w1.heap.size w1 w2) : MayS w g x w2 :=
  ⟨h.blk.below hb h.blk.lt, Below.down h.below hb h.size, Nat.le_trans h.size hb.size⟩
theorem MayS.drew {w w1 : World} {g : Nat} {x : Win} (h : MayS w g x w1) : MayS w g x w1.drew := ⟨h.blk.drewN 1, bdrewN h.below 1, h.size⟩
theorem MayS.all {w w' : World} {g : Nat} {x : Win} (h : MayS w g x w') : w'.cell? ⟨g, 0, none⟩ = some (.int .i64 x.p) ∧ w'.cell? ⟨g, 1, none⟩ = some (.int .i64 x.s) ∧ w'.cell? ⟨g, 2, none⟩ = some (.int .i64 x.l) ∧ w'.cell? ⟨g, 3, none⟩ = some (.int .i64 x.d) ∧ MayS w g x w' := by
  obtain ⟨a, b, c, d⟩ := four_at h.blk
  exact ⟨a, b, c, d, h⟩

theorem head_parts (n : Nat) (m p : Int) : headB n m p = true ∧ 1 ≤ m ∧ m ≤ 64 ∧ 1 ≤ p ∧ p ≤ 4 ∧ 1 ≤ (n : Int) ∧ (n : Int) ≤ 8 ∨
    headB n m p = false ∧ (m < 1 ∨ 1 ≤ m ∧ 64 < m ∨ 1 ≤ m ∧ m ≤ 64 ∧ p < 1 ∨ 1 ≤ m ∧ m ≤ 64 ∧ 1 ≤ p ∧ 4 < p ∨ 1 ≤ m ∧ m ≤ 64 ∧ 1 ≤ p ∧ p ≤ 4 ∧ (n : Int) < 1 ∨ 1 ≤ m ∧ m ≤ 64 ∧ 1 ≤ p ∧ p ≤ 4 ∧ 1 ≤ (n : Int) ∧ 8 < (n : Int)) := by
  by_cases h : 1 ≤ m ∧ m ≤ 64 ∧ 1 ≤ p ∧ p ≤ 4 ∧ 1 ≤ n ∧ n ≤ 8
  · exact .inl ⟨decide_eq_true h, by omega⟩
  · refine .inr ⟨decide_eq_false h, ?_⟩
    omega

theorem box_of {x : Win} {m p : Int} (h : fitW x m p = true) (hm : m ≤ 64) : 0 ≤ x.s ∧ x.s ≤ 64 ∧ 0 ≤ x.l ∧ x.l ≤ 64 := by
  have := fit_of h
  omega

set_option maxHeartbeats 4000000 in
theorem pmay_any (A : Option Addr) (n cap : Nat) (l : List Win) (m p : Int) (w : World) (hs : Sl w (.slice A n cap) n 4 (ints (wins l))) (hn : n ≤ maxLen) (hl : l.length = n) (hw : ∀ x ∈ l, W64 x) :
    Calls Tryd.prog 76 #[.slice A n cap, .int .i64 m, .int .i64 p] w fun e w' => e = .returned (.bool (mayW l m p)) ∧ Below w.heap.size w w' := by
  have hnc : n ≤ cap := by obtain ⟨_, _, e, hc, _⟩ := hs; simp only [Value.slice.injEq] at e; omega
  have HS := Lib.hid hs; have HL := Lib.hid hl; have HW := Lib.hid hw
  unfold maxLen at hn
  rcases head_parts n m p with ⟨hh, h0, h1, h2, h3, h4, h5⟩ | ⟨hh, hh2⟩
  · rw [← hl] at hh
    have HH := Lib.hid hh
    clear hs hl hw hh
    go_enter Tryd.func76, Tryd.ntmps76
    go_wp2_with fail
    go_loopw [35] (fun i wr => ∃ (k : Nat), k ≤ n ∧ i = .int .i64 k ∧ (∀ j, j < k → okB l m p j = true) ∧ Below w.heap.size w wr) (fun i _ => n - (intOf i).toNat)
    case atStart => exact ⟨0, by omega, rfl, fun j hj => by omega, Below.refl _ _⟩
    case round =>
      obtain ⟨k, hk, rfl, hall, hbel⟩ := hrel
      have hsz := hbel.size
      have HALL := Lib.hid hall; clear hall
      by_cases hlt : k < n
      · have hkl : k < l.length := by rw [HL.out]; exact hlt
        obtain ⟨b, o, rfl, hb, c0, c1, c2, c3⟩ := wd_at (HS.out.below hbel) HL.out k hkl
        have hwx := HW.out l[k] (List.getElem_mem hkl)
        have hno := Lib.hid (fun (h : fitW l[k] m p = false) => mayW_no hkl (ok_no_fit hkl h))
        have hmt := Lib.hid (fun (h : (l.take k).any (metB l[k]) = true) => mayW_no (m := m) (p := p) hkl (ok_meets hkl h))
        have hys := Lib.hid (fun (h : fitW l[k] m p = true) (h' : (l.take k).any (metB l[k]) = false) => ok_yes hkl h h')
        generalize l[k] = x at *
        have HFIT := Lib.hid (fun (w : World) => fits_any x m p hwx ⟨h0, h1⟩ w)
        have hpre := Lib.hid (Sl.pre HS.out HL.out hk)
        have htl : Hid ((l.take k).length = k) := Lib.hid (by rw [List.length_take]; omega)
        have hto : Hid (∀ o ∈ l.take k, 0 ≤ o.s ∧ o.s ≤ 64 ∧ 0 ≤ o.l ∧ o.l ≤ 64) := Lib.hid (by
          intro o ho
          obtain ⟨j, hj, rfl⟩ := List.getElem_of_mem ho
          have hjk : j < k := by rw [List.length_take] at hj; omega
          rw [List.getElem_take]
          exact box_of (ok_fit (by omega) (HALL.out j hjk)) h1)
        have hbx : Hid (fitW x m p = true → 0 ≤ x.s ∧ x.s ≤ 64 ∧ 0 ≤ x.l ∧ x.l ≤ 64) := Lib.hid (fun h => box_of h h1)
        clear hwx
        have hb1 : Blk (wr.alloc (.cells (wdv x).toArray 71)) wr.heap.size 71 (wdv x) := Blk.new _ _ _
        have hS1 : MayS w wr.heap.size x (wr.alloc (.cells (wdv x).toArray 71)) := ⟨hb1, hbel.alloc hsz _, Nat.le_trans hsz (by simp)⟩
        change MayS w wr.heap.size x (wr.alloc (.cells #[.int .i64 x.p, .int .i64 x.s, .int .i64 x.l, .int .i64 x.d] 71)) at hS1
        clear hb1
        go_wp2_with fail
        generalize wr.alloc (.cells #[.int .i64 x.p, .int .i64 x.s, .int .i64 x.l, .int .i64 x.d] 71) = w1 at *
        generalize wr.heap.size = g at *
        clear c0 c1 c2 c3 hbel hsz hb
        obtain ⟨d0, d1, d2, d3, hS1⟩ := hS1.all
        cases hf : fitW x m p with
        | false =>
          have HF := Lib.hid hf
          refine wp_region_held_drew (S := (fun w' => w'.cell? ⟨g, 0, none⟩ = some (.int .i64 x.p) ∧ w'.cell? ⟨g, 1, none⟩ = some (.int .i64 x.s) ∧ w'.cell? ⟨g, 2, none⟩ = some (.int .i64 x.l) ∧ w'.cell? ⟨g, 3, none⟩ = some (.int .i64 x.d) ∧ MayS w g x w')) (by kernel_rfl) ?_ (fun hHeld => ?_)
          · try dsimp only
            (go_split_ands; refine MayS.all ?_; (first | assumption | (exact MayS.drew (by assumption)) | (exact MayS.next (by assumption) (by assumption))))
          refine tky 0 ?_
          refine tky 1 ?_
          refine tky 2 ?_
          refine wpAnyH_ready (rs := [3]) (by kernel_rfl) (by simp) ?_
          refine AllReadyH.cons rfl (fun K hK => ?_) AllReadyH.nil
          go_simp
          refine (HFIT.out _).mono ?_
          rintro e w' ⟨rfl, hb⟩
          rw [HF.out]
          go_wp2_with fail
          refine hK.out _ _ ?_ (fun hHeld2 => ?_)
          · try dsimp only
            (go_split_ands; refine MayS.all ?_; (first | assumption | (exact MayS.drew (by assumption)) | (exact MayS.next (by assumption) (by assumption))))
          clear hK K hHeld
          have hHeld := hHeld2; clear hHeld2
          try simp only [Act.put, List.getElem_toArray, List.getElem_cons_succ, List.getElem_cons_zero, List.setIfInBounds_toArray, List.set_cons_zero, List.set_cons_succ]
          refine tky 4 ?_
          refine tky 5 ?_
          refine tkn 6 ?_
          refine tkn 7 ?_
          refine tkn 8 ?_
          refine tkn 9 ?_
          refine tkn 10 ?_
          refine tky 11 ?_
          refine wpAnyH_done (by kernel_rfl) ?_ _
          all_goals
            have hEnd : MayS w g x w' := by go_split_ands; assumption
            have hB := hEnd.below
            clear hEnd
            go_wp2_with fail
            go_ret
            exact ⟨by rw [hno.out HF.out]; rfl, hB⟩
        | true =>
          have HF := Lib.hid hf; clear hf
          have hk0 : (0 : Int) ≤ (k : Int) := by omega
          have hkc : (k : Int) ≤ (cap : Int) := by omega
          go_region_held3 (fun w' => w'.cell? ⟨g, 0, none⟩ = some (.int .i64 x.p) ∧ w'.cell? ⟨g, 1, none⟩ = some (.int .i64 x.s) ∧ w'.cell? ⟨g, 2, none⟩ = some (.int .i64 x.l) ∧ w'.cell? ⟨g, 3, none⟩ = some (.int .i64 x.d) ∧ MayS w g x w')
            ((go_split_ands; refine MayS.all ?_; (first | assumption | (exact MayS.drew (by assumption)) | (exact MayS.next (by assumption) (by assumption)))))
            (first
              | (go_at_call 88; (with_reducible refine (HFIT.out _).mono ?_); rintro e w2 ⟨rfl, hb2⟩; rw [HF.out]; have hS2 := hS1.drew.next hb2)
              | (go_at_call 89; (with_reducible refine (pmeets_any _ k _ (l.take k) x _ (hpre.out.below hS2.below) (by unfold maxLen; omega) htl.out (hbx.out HF.out) hto.out).mono ?_); rintro e w3 ⟨rfl, hb3⟩; have hS3 := hS2.next hb3))
          have hB := hS3.below
          clear hS1 hS2 hb2 hb3 d0 d1 d2 d3
          cases hm : (l.take k).any (metB x) with
          | true =>
            have HM := Lib.hid hm; clear hm
            go_wp2_with fail
            go_ret
            exact ⟨by rw [hmt.out HM.out]; rfl, hB⟩
          | false =>
            have HM := Lib.hid hm; clear hm
            go_wp2_with fail
            go_roundw
            case rel => exact ⟨k + 1, by omega, by go_num, fun j hj => by
              by_cases e : j = k
              · subst e; exact hys.out HF.out HM.out
              · exact HALL.out j (by omega), hB⟩
            case measure => simp [intOf]; omega
      · go_wp2_with fail
        go_ret
        exact ⟨by rw [mayW_yes HH.out (fun j hj => HALL.out j (by have := HL.out; omega))]; rfl, hbel⟩
  · have hM := mayW_head (l := l) (m := m) (p := p) (by rw [hl]; exact hh)
    rw [hM]
    clear hs hl hw hM hh
    rcases hh2 with h0 | ⟨h0, h1⟩ | ⟨h0, h1, h2⟩ | ⟨h0, h1, h2, h3⟩ | ⟨h0, h1, h2, h3, h4⟩ | ⟨h0, h1, h2, h3, h4, h5⟩
    all_goals
      go_enter Tryd.func76, Tryd.ntmps76
      go_wp2_with fail
      go_ret
      exact ⟨rfl, Below.refl _ _⟩

theorem pmayAsk_any (A : Option Addr) (n cap : Nat) (l : List Win) (m t : Int) (w : World) (hs : Sl w (.slice A n cap) n 4 (ints (wins l))) (hn : n ≤ maxLen) (hl : l.length = n) (hw : ∀ x ∈ l, W64 x) :
    Calls Tryd.prog 68 #[.slice A n cap, .int .i64 m, .int .i64 t] w fun e w' => e = .returned (.bool (askW l m t)) ∧ Below w.heap.size w w' := by
  have HC := Lib.hid (pmay_any A n cap l m 4 w hs hn hl hw)
  clear hs hn hl hw
  have hA : askW l m t = (decide (0 ≤ t ∧ t ≤ 1048575) && mayW l m 4) := rfl
  rw [hA]; clear hA
  generalize mayW l m 4 = R at *
  by_cases h : 0 ≤ t ∧ t ≤ 1048575
  · rw [decide_eq_true h, Bool.true_and]
    obtain ⟨h0, h1⟩ := h
    go_enter Tryd.func68, Tryd.ntmps68
    go_wp2_with fail
    refine HC.out.mono ?_
    rintro e w1 ⟨rfl, b1⟩
    go_wp2_with fail
    go_ret
    exact ⟨rfl, b1⟩
  · rw [decide_eq_false h, Bool.false_and]
    have h' : t < 0 ∨ 0 ≤ t ∧ 1048575 < t := by omega
    clear h
    rcases h' with h0 | ⟨h0, h1⟩
    all_goals
      go_enter Tryd.func68, Tryd.ntmps68
      go_wp2_with fail
      go_ret
      exact ⟨rfl, Below.refl _ _⟩

end Go.Proofs.YtobpggpjboonfaaDoor
