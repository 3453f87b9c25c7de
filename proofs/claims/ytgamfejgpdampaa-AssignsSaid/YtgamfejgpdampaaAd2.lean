/-
  Layer 15, the document: NewAssign.
-/
import Derived.Test.YtgamfejgpdampaaAd1
import Derived.Test.YtgamfejgpdampaaAs4
import Derived.Deep.RegionLaw
import Derived.Deep.DrawnRows
namespace Go.Proofs.Ytgamfejgpdampaa
open Go.RowKit Go.ChangeMaps
set_option linter.unusedVariables false
set_option maxRecDepth 100000
attribute [local go_sem ↓] Go.wp_at_zero Go.wp_at_succ

theorem danew_form (q P : Int) (v : Value) (n : Nat) (zs : List Int) (w : World) (hv : Sl w v n 1 (ints zs)) (h : ¬ ((1 ≤ q ∧ q ≤ 8) ∧ (1 ≤ P ∧ P ≤ 4) ∧ 1 ≤ n ∧ n ≤ 4)) :
    Calls Try.prog 8 #[.int .i64 q, .int .i64 P, v] w fun e w' => e = .returned (.tuple #[.pointer none, .int .i64 1500]) ∧ w = w' := by
  obtain ⟨A, cap, rfl⟩ : ∃ A cap, v = .slice A n cap := by obtain ⟨A, c, e, _⟩ := hv; exact ⟨A, c, e⟩
  clear hv
  have hw : q < 1 ∨ (1 ≤ q ∧ 8 < q) ∨ (1 ≤ q ∧ q ≤ 8 ∧ P < 1) ∨ (1 ≤ q ∧ q ≤ 8 ∧ 1 ≤ P ∧ 4 < P) ∨ (1 ≤ q ∧ q ≤ 8 ∧ 1 ≤ P ∧ P ≤ 4 ∧ (n : Int) < 1) ∨ (1 ≤ q ∧ q ≤ 8 ∧ 1 ≤ P ∧ P ≤ 4 ∧ 1 ≤ (n : Int) ∧ decide ((4 : Int) < n) = true) := by
    simp only [decide_eq_true_eq]
    omega
  clear h
  rcases hw with h1 | ⟨h1, h2⟩ | ⟨h1, h2, h3⟩ | ⟨h1, h2, h3, h4⟩ | ⟨h1, h2, h3, h4, h5⟩ | ⟨h1, h2, h3, h4, h5, h6⟩
  all_goals
    go_enter Try.func8, Try.ntmps8
    go_wp2
    go_ret2
    exact ⟨rfl, rfl⟩

theorem infoHeld : (Try.prog.info? 61).map (fun i => (i.zero, i.size, i.bytes)) = some (some (.agg #[.int .i64 0, .int .i64 0, .int .i64 0]), 3, 24) := by kernel_rfl
theorem itc_three (f : Nat → Int) (N : Nat) : itc f (N + 3) = itc f N ++ [.int .i64 (f N), .int .i64 (f (N + 1)), .int .i64 (f (N + 2))] := by
  unfold itc
  rw [show N + 3 = N + 1 + 1 + 1 by omega, List.range_succ, List.range_succ, List.range_succ]
  simp
/-- The cells of the first k devices. -/
def nwF (zs : List Int) (k : Nat) : Nat → Int := ahF (zO zs k) noN noI
theorem nwF_step (zs : List Int) (k : Nat) : itc (nwF zs (k + 1)) ((k + 1) * 3) = itc (nwF zs k) (k * 3) ++ [.int .i64 (zs.getD k 0), .int .i64 0, .int .i64 0] := by
  rw [show (k + 1) * 3 = k * 3 + 3 by omega, itc_three]
  have e0 : nwF zs (k + 1) (k * 3) = zs.getD k 0 := by
    unfold nwF; rw [ahF_o]
    show (if (0 : Nat) = 0 then zO zs (k + 1) k else -1) = _
    rw [if_pos rfl]; unfold zO; rw [if_pos (by omega)]
  have e1 : nwF zs (k + 1) (k * 3 + 1) = 0 := by unfold nwF; rw [ahF_t]; rfl
  have e2 : nwF zs (k + 1) (k * 3 + 2) = 0 := by unfold nwF; rw [ahF_l]; rfl
  rw [e0, e1, e2]
  congr 1
  apply itc_congr
  intro i hi
  unfold nwF
  rw [ahF_def, ahF_def]
  have : zO zs (k + 1) (i / 3) = zO zs k (i / 3) := by unfold zO; rw [if_pos (by omega), if_pos (by omega)]
  rw [this]
theorem three_one (x y z : Int) : ∀ u ∈ [Value.int .i64 x, .int .i64 y, .int .i64 z], u.oneCell' = true := by
  intro u hu
  simp only [List.mem_cons, List.not_mem_nil, or_false] at hu
  rcases hu with rfl | rfl | rfl <;> rfl

/-- A new one on the way: the table at block y holds the slice u. -/
def nwOs (y q P : Nat) (u : Value) (zs : List Int) (k : Nat) : List Ob := [obR 61 3 u k (itc (nwF zs k) (k * 3)), obB y 59 [.int .i64 q, .int .i64 P, u]]

theorem nw_at {w1 w2 : World} {y q P n : Nat} {v : Value} {xs : List Value} {o : Obj} (own : w1.ownsRow 0 61 3 v n xs) (hb : Blk w1 y 59 [.int .i64 q, .int .i64 P, v]) (gr : (w1.alloc o).drew.grownBy w2 v.ownBlock) : w2.cell? ⟨y, 2, none⟩ = some v ∧ w2.frozen? ⟨y, 2, none⟩ = false := by
  have hb2 : Blk w2 y _ _ := (show Blk (w1.alloc o).drew y _ _ from (hb.alloc o).drewN 1).grown gr (fun e => own_apart_blk own hb (by decide) e.symm)
  exact ⟨by rw [hb2.cell]; rfl, hb2.frozen 2⟩

set_option maxHeartbeats 4000000 in
theorem danew_any (q P : Nat) (v : Value) (n : Nat) (zs : List Int) (w : World) (hv : Sl w v n 1 (ints zs)) (q1 : 1 ≤ q) (q8 : q ≤ 8) (p1 : 1 ≤ P) (p4 : P ≤ 4) (n1 : 1 ≤ n) (n4 : n ≤ 4) :
    Calls Try.prog 8 #[.int .i64 q, .int .i64 P, v] w fun e w' => (∃ y, e = .returned (.tuple #[.pointer (some ⟨y, 0, none⟩), .int .i64 0]) ∧ Tk nos w [obDA y q P n (zO zs n) noN] w' ∧ ∀ j, j < n → adB P (zs.getD j 0) = true) ∨ (e = .returned (.tuple #[.pointer none, .int .i64 1500]) ∧ Below w.heap.size w w' ∧ ∃ j, j < n ∧ adB P (zs.getD j 0) = false) := by
  obtain ⟨A, cap, rfl⟩ : ∃ A cap, v = .slice A n cap := by obtain ⟨A, c, e, _⟩ := hv; exact ⟨A, c, e⟩
  have HV := Lib.hid hv; clear hv
  obtain ⟨i0, hi, hz0, hz1, hz2⟩ := info_parts infoHeld
  have HI := Lib.hid hi; have HZ0 := Lib.hid hz0; have HZ1 := Lib.hid hz1; have HZ2 := Lib.hid hz2
  clear hi hz0 hz1 hz2
  have d1 : decide ((q : Int) < 1) = false := by simp; omega
  have d2 : decide ((8 : Int) < q) = false := by simp; omega
  have d3 : decide ((P : Int) < 1) = false := by simp; omega
  have d4 : decide ((4 : Int) < P) = false := by simp; omega
  have d5 : decide ((n : Int) < 1) = false := by simp; omega
  have d6 : decide ((4 : Int) < n) = false := by simp; omega
  have T0 : Hid (∃ u, Tk nos w (nwOs w.heap.size q P u zs 0) (w.alloc (.cells #[.int .i64 q, .int .i64 P, .slice none 0 0] 59))) := Lib.hid (by
    have t := (Tk.empty w).alloc 59 [.int .i64 q, .int .i64 P, .slice none 0 0]
    exact ⟨.slice none 0 0, t.addR (v := .slice none 0 0) (n := 0) (xs := []) (Below.refl _ _) (World.ownsRow_nil _ _ _ _)⟩)
  go_enter Try.func8, Try.ntmps8
  go_wp2_with fail
  change Code.wp _ _ _ _ (w.alloc (.cells #[.int .i64 q, .int .i64 P, .slice none 0 0] 59))
  generalize w.alloc (.cells #[.int .i64 q, .int .i64 P, .slice none 0 0] 59) = w1 at *
  generalize w.heap.size = y at *
  clear d1 d2 d3 d4 d5 d6
  go_loopw [9] (fun i wr => ∃ (k : Nat), k ≤ n ∧ i = .int .i64 k ∧ Hid (∃ u, Tk nos w (nwOs y q P u zs k) wr) ∧ ∀ j, j < k → adB P (zs.getD j 0) = true) (fun i _ => 4 - (intOf i).toNat)
  case atStart => exact ⟨0, by omega, rfl, T0, fun j hj => absurd hj (by omega)⟩
  case round =>
    clear T0
    obtain ⟨k, hkn, rfl, HT, hgood⟩ := hrel
    obtain ⟨u, tk⟩ := HT.out
    by_cases hlt : k < n
    · have hltI : (k : Int) < n := by omega
      have hsl := HV.out.below tk.below
      obtain ⟨b, o, cap', e, hbw, hcell⟩ := sli_at hsl k hlt
      simp only [Value.slice.injEq] at e
      obtain ⟨rfl, -, -⟩ := e
      have HZ := Lib.hid (nwF_step zs k)
      obtain ⟨z, hzz⟩ : ∃ z, zs.getD k 0 = z := ⟨_, rfl⟩
      rw [hzz] at hcell HZ
      clear hsl HT
      cases hgz : adB P z with
      | false =>
        have HX : Hid (∃ j, j < n ∧ adB P (zs.getD j 0) = false) := Lib.hid ⟨k, hlt, by rw [hzz]; exact hgz⟩
        have BX := Lib.hid tk.below
        have hz : z < 0 ∨ (decide (z < 0) = false ∧ (P : Int) ≤ z) := by
          unfold adB at hgz
          simp only [decide_eq_false_iff_not] at hgz ⊢
          omega
        clear hgz hzz hgood tk
        rcases hz with hz | ⟨hz, hz2⟩
        all_goals
          go_wp2_with fail
          go_ret2
          exact .inr ⟨rfl, BX.out, HX.out⟩
      | true =>
        have HX : Hid (∀ j, j < k + 1 → adB P (zs.getD j 0) = true) := Lib.hid (fun j hj => by
          by_cases e : j = k
          · subst e; rw [hzz]; exact hgz
          · exact hgood j (by omega))
        unfold adB at hgz
        simp only [decide_eq_true_eq] at hgz
        have z0 : decide (z < 0) = false := by simp; omega
        have z1 : decide ((P : Int) ≤ z) = false := by simp; omega
        clear hgz hzz hgood
        obtain ⟨A4, c4, hu, -⟩ := tk.sl (i := 0) rfl
        subst hu
        have HTK := Lib.hid tk
        have hbk := tk.blk (i := 1) rfl
        have hc := hbk.cell 2
        have hfz := hbk.frozen 2
        have hca := (hbk.alloc (.cells #[.int .i64 z, .int .i64 0, .int .i64 0] 61)).cell 2
        simp only [List.getElem?_cons_zero, List.getElem?_cons_succ] at hc hca
        have HOW := Lib.hid (tk.row (i := 0) rfl)
        have HBK := Lib.hid hbk
        clear tk hbk
        go_upto_region 9 with fail
        go_region_law ((refine step_append_lies _ (by rfl) _ _ 57 (by rfl) 0 61 i0 _ 3 24 Try.underlying57 HI.out HZ0.out HZ1.out HZ2.out (by rfl) (by decide) (.slice A4 k c4) k (itc (nwF zs k) (k * 3)) (by rfl) (own_drewN (HOW.out.alloc _) 1) ⟨wr.heap.size, 0, none⟩ 1 1 [.int .i64 z, .int .i64 0, .int .i64 0] (by rfl) (by rfl) (by exact row_new wr [.int .i64 z, .int .i64 0, .int .i64 0] _) (three_one _ _ _) (by omega) (by unfold maxLen; omega) (by omega) (by simp) (wr.heap.size + 1) (by simp) ?_; intro g cap2 w2 own2 gr2 hat hlt2; obtain ⟨hc2, hf2⟩ := nw_at HOW.out HBK.out gr2))
        all_goals
          have t1 := (HTK.out.alloc 61 [.int .i64 z, .int .i64 0, .int .i64 0]).drewN 1
          have t2 := t1.turnR (i := 1) (n' := k + 1) (xs' := itc (nwF zs (k + 1)) ((k + 1) * 3)) rfl gr2 (by rw [HZ.out]; exact own2) (fun x hx => by
            have e : g = x := by simpa [Value.ownBlock] using hx
            subst e
            rcases hat with h | h
            · exact .inl h
            · exact .inr (by show (wr.alloc _).heap.size ≤ g; simp at h ⊢; omega))
          have t3 := t2.store (i := 2) rfl 2 (.slice (some ⟨g, 0, none⟩) (k + 1) cap2)
          have T3 := Lib.hid (show Tk nos w (nwOs y q P (.slice (some ⟨g, 0, none⟩) (k + 1) cap2) zs (k + 1)) (w2.setCell ⟨y, 2, none⟩ (.slice (some ⟨g, 0, none⟩) (k + 1) cap2)) from t3.tail)
          clear t1 t2 t3 own2 gr2 hat hlt2 hc2 hf2 hc hfz hca
          go_wp2_with fail
          go_roundw
          case rel => exact ⟨k + 1, by omega, by go_num, Lib.hid ⟨_, T3.out⟩, HX.out⟩
          case measure => simp [intOf]; omega
    · have e : k = n := by omega
      subst e
      have HG := Lib.hid hgood
      obtain ⟨g, c, e, -⟩ := (tk.row (i := 0) rfl).form (by omega)
      have hcap : k ≤ c := by
        obtain ⟨A5, c5, e5, h5, -⟩ := tk.sl (i := 0) rfl
        rw [e] at e5
        simp only [Value.slice.injEq] at e5
        omega
      have HE : Hid (Tk nos w [obDA y q P k (zO zs k) noN] wr) := Lib.hid (tk.wrap1 (fun {S w} hh => by
        obtain ⟨S1, S2, h1, h2, d, ee⟩ := hh
        have h2 := obs_one.1 h2
        subst e
        refine ⟨(g, c, noI), ⟨q1, q8, p4, n4, fun i => by unfold noN; omega, fun i hi => absurd rfl hi, hcap, h2.1, h1.1⟩, fun x => ?_⟩
        rw [ee, h1.2, h2.2]
        simp [Value.ownBlock, eq_comm, or_comm]))
      clear hgood hlt tk e HT
      go_wp2_with fail
      go_ret2
      exact .inl ⟨y, rfl, HE.out, HG.out⟩
end Go.Proofs.Ytgamfejgpdampaa
