/-
  Layer 11's law Remaps: it answers true for every input.
-/
import Derived.Test.YtmdohdibpifckaaRmAwake
import Derived.Test.YtmdohdibpifckaaRm4
import Derived.Test.YtmdohdibpifckaaArgs
namespace Go.Proofs.Ytmdohdibpifckaa
open Go.RowKit Go.Deep
set_option linter.unusedVariables false
set_option maxRecDepth 100000

/-- A field of one cell that is a bool, out of a struct's cells. -/
theorem fld_boolr {H : Type} {enc : TypeId × Value → H} {P : Program} {W : World} {e : TypeId} {fs : Array Field} {m : Nat} {cs : List Value} {y : DataW H × List MemPlace} (he : P.underlying e = some (.struct fs)) (hy : DataW.trod enc P W 0 (fun _ => true) true m e cs = some y)
    (k o : Nat) (f : Field) (hk : fs[k]? = some f) (ho : f.offset = o) (hc : P.cellsOf f.type = 1) (hu : P.underlying f.type = some .bool) : ∃ b : Bool, cs[o]? = some (.bool b) := by
  obtain ⟨ys, m', _, _, hlen, hyl, hf⟩ := DataW.trod_struct he hy
  have hkl : k < ys.length := by rw [hyl]; exact (Array.getElem?_eq_some_iff.1 hk).1
  have h1 := hf _ f hk
  rw [ho, hc, List.getElem?_eq_getElem hkl] at h1
  obtain ⟨b, hz, _⟩ := DataW.trod_bool hu h1
  refine ⟨b, ?_⟩
  have g : ((cs.drop o).take 1)[0]? = some (Value.bool b) := by rw [hz]; rfl
  rw [List.getElem?_take, if_pos (by omega), List.getElem?_drop] at g
  exact g

/-- The i-th act. -/
def ActR (xs : List Value) (i : Nat) : Prop := ∃ (K D V P : Int) (M : Bool), xs[i * 5]? = some (.int .i64 K) ∧ xs[i * 5 + 1]? = some (.int .i64 D) ∧ xs[i * 5 + 2]? = some (.int .i64 V) ∧ xs[i * 5 + 3]? = some (.int .i64 P) ∧ xs[i * 5 + 4]? = some (.bool M)

theorem actsr_of {H : Type} {enc : TypeId × Value → H} {W : World} {n : Nat} {xs : List Value}
    (hr : ∀ i, i < n → ∃ (m : Nat) (y : DataW H × List MemPlace), DataW.trod enc Try.prog W 0 (fun _ => true) true m 33 ((xs.drop (i * 5)).take 5) = some y) : ∀ i, i < n → ActR xs i := by
  intro i hi
  obtain ⟨m, y, hy⟩ := hr i hi
  obtain ⟨k, hk, _⟩ := fld_int (P := Try.prog) Try.underlying33 hy 0 0 _ rfl rfl (by kernel_rfl) Try.underlying3
  obtain ⟨d, hd, _⟩ := fld_int (P := Try.prog) Try.underlying33 hy 1 1 _ rfl rfl (by kernel_rfl) Try.underlying3
  obtain ⟨v, hv, _⟩ := fld_int (P := Try.prog) Try.underlying33 hy 2 2 _ rfl rfl (by kernel_rfl) Try.underlying3
  obtain ⟨p, hp, _⟩ := fld_int (P := Try.prog) Try.underlying33 hy 3 3 _ rfl rfl (by kernel_rfl) Try.underlying3
  obtain ⟨b, hb⟩ := fld_boolr (P := Try.prog) Try.underlying33 hy 4 4 _ rfl rfl (by kernel_rfl) Try.underlying4
  rw [elem_at _ _ _ _ (by omega)] at hk hd hv hp hb
  exact ⟨k, d, v, p, b, hk, hd, hv, hp, hb⟩

/-- The cells of a slice's k-th act. -/
theorem rec5r {w : World} {A : Option Addr} {n c : Nat} {xs : List Value} (h : Sl w (.slice A n c) n 5 xs) (ha : ∀ i, i < n → ActR xs i) (k : Nat) (hk : k < n) :
    ∃ b o, A = some ⟨b, o, none⟩ ∧ b < w.heap.size ∧ ∃ (K D V P : Int) (M : Bool), w.cell? ⟨b, o + k * 5, none⟩ = some (.int .i64 K) ∧ w.cell? ⟨b, o + k * 5 + 1, none⟩ = some (.int .i64 D) ∧ w.cell? ⟨b, o + k * 5 + 2, none⟩ = some (.int .i64 V) ∧ w.cell? ⟨b, o + k * 5 + 3, none⟩ = some (.int .i64 P) ∧ w.cell? ⟨b, o + k * 5 + 4, none⟩ = some (.bool M) := by
  obtain ⟨A', c', e, _, hl, hA⟩ := h
  simp only [Value.slice.injEq] at e
  obtain ⟨rfl, _, rfl⟩ := e
  obtain ⟨b, o, rfl, hb, hc⟩ := hA (by omega)
  obtain ⟨K, D, V, P, M, h0, h1, h2, h3, h4⟩ := ha k hk
  refine ⟨b, o, rfl, hb, K, D, V, P, M, hc _ _ h0, ?_, ?_, ?_, ?_⟩
  · have := hc _ _ h1; rwa [← Nat.add_assoc] at this
  · have := hc _ _ h2; rwa [← Nat.add_assoc] at this
  · have := hc _ _ h3; rwa [← Nat.add_assoc] at this
  · have := hc _ _ h4; rwa [← Nat.add_assoc] at this

/-- An act's cells. -/
def act5 (K D V P : Int) (M : Bool) : List Value := [.int .i64 K, .int .i64 D, .int .i64 V, .int .i64 P, .bool M]

/-- Both tables say the same; beside them the law's copy of an act, at block q. -/
structure Rr (W : World) (g r b D : Nat) (T : List Ro) (w : World) : Prop where
  t : PR w g D T
  u : RR w r b D T
  bel : Below W.heap.size W w
  hg : W.heap.size ≤ g
  hr : W.heap.size ≤ r
  hb : W.heap.size ≤ b
section
variable {W w w' : World} {g r b D : Nat} {T T' : List Ro}
theorem Rr.below (s : Rr W g r b D T w) (k : Below w.heap.size w w') : Rr W g r b D T w' := ⟨s.t.below k s.t.lt, s.u.below k s.u.blk.lt s.u.row.lt, Below.down s.bel k s.bel.size, s.hg, s.hr, s.hb⟩
theorem Rr.drewN (s : Rr W g r b D T w) (n : Nat) : Rr W g r b D T (w.drewN n) := ⟨s.t.drewN n, s.u.drewN n, bdrewN s.bel n, s.hg, s.hr, s.hb⟩
/-- A call on both. -/
theorem Rr.both {w1 w2 : World} (s : Rr W g r b D T w) (t : PR w1 g D T') (gr : w.grownBy w1 (some g)) (f : RR w1 r b D T → RR w2 r b D T' ∧ w1.grownBy w2 (some b)) : Rr W g r b D T' w2 := by
  have hgr := s.t.apart s.u.blk (by decide)
  have hgb := s.t.apart s.u.row (by decide)
  obtain ⟨u, gu⟩ := f (s.u.grown gr (by intro e; injection e with e; exact hgr e.symm) (by intro e; injection e with e; exact hgb e.symm))
  have b1 := bone s.bel gr s.bel.size s.hg
  exact ⟨t.grown gu (by intro e; injection e with e; exact hgb e), u, bone b1 gu b1.size s.hb, s.hg, s.hr, s.hb⟩
theorem Rr.ref (s : Rr W g r b D T w) {w1 : World} (gr : w.grownBy w1 (some g)) : RR w1 r b D T :=
  s.u.grown gr (by intro e; injection e with e; exact s.t.apart s.u.blk (by decide) e.symm) (by intro e; injection e with e; exact s.t.apart s.u.row (by decide) e.symm)
/-- A block of another type is none of theirs. -/
theorem Rr.blkT (s : Rr W g r b D T w) {q : Nat} {t : TypeId} {cs : List Value} (hq : Blk w q t cs) (ht : t ≠ 59) {w1 : World} (gr : w.grownBy w1 (some g)) : Blk w1 q t cs :=
  hq.grown gr (by intro e; injection e with e; exact hq.apart s.t.2.2 ht e)
end
theorem RR.blkU {w : World} {r b D : Nat} {T : List Ro} (u : RR w r b D T) {q : Nat} {t : TypeId} {cs : List Value} (hq : Blk w q t cs) (ht : t ≠ 65) {w1 : World} (gr : w.grownBy w1 (some b)) : Blk w1 q t cs :=
  hq.grown gr (by intro e; injection e with e; exact hq.apart u.row ht e)
theorem act_cellsr {w : World} {h : Nat} {t : TypeId} {K D V P : Int} {M : Bool} (ha : Blk w h t (act5 K D V P M)) : w.cell? ⟨h, 0, none⟩ = some (.int .i64 K) ∧ w.cell? ⟨h, 1, none⟩ = some (.int .i64 D) ∧ w.cell? ⟨h, 2, none⟩ = some (.int .i64 V) ∧ w.cell? ⟨h, 3, none⟩ = some (.int .i64 P) ∧ w.cell? ⟨h, 4, none⟩ = some (.bool M) :=
  ⟨by rw [ha.cell]; rfl, by rw [ha.cell]; rfl, by rw [ha.cell]; rfl, by rw [ha.cell]; rfl, by rw [ha.cell]; rfl⟩

set_option maxHeartbeats 2000000 in
theorem remaps_no (c : Int) (v : Value) (w : World) (hc : ¬ (1 ≤ c ∧ c ≤ 4)) :
    Calls Try.prog 3 #[.int .i64 c, v] w fun e w' => e = .returned (.bool true) ∧ Below w.heap.size w w' := by
  have HC := Lib.hid hc; clear hc
  go_enter Try.func3, Try.ntmps3
  go_wp2_with fail
  refine (pmnew_no _ _ HC.out).mono ?_
  rintro e w' ⟨rfl, rfl⟩
  go_wp2_with fail
  refine (dmnew_no _ _ HC.out).mono ?_
  rintro e w' ⟨rfl, rfl⟩
  go_wp2_with fail
  refine (num_any _ _).mono ?_
  rintro e w' ⟨rfl, rfl⟩
  go_wp2_with fail
  refine (rmawake_any _).mono ?_
  rintro e wa ⟨rfl, ba⟩
  go_wp2_with fail
  go_ret
  exact ⟨rfl, ba⟩

set_option maxHeartbeats 16000000 in
theorem remaps_yes (c : Int) (v : Value) (n : Nat) (xs : List Value) (w : World) (hv : Sl w v n 5 xs) (ha : ∀ i, i < n → ActR xs i) (hn : n ≤ maxLen) (h1 : 1 ≤ c) (h2 : c ≤ 4) :
    Calls Try.prog 3 #[.int .i64 c, v] w fun e w' => e = .returned (.bool true) ∧ Below w.heap.size w w' := by
  obtain ⟨A, cap, rfl⟩ : ∃ A cap, v = .slice A n cap := by obtain ⟨A, c, e, _⟩ := hv; exact ⟨A, c, e⟩
  unfold maxLen at hn
  have HV := Lib.hid hv; have HA := Lib.hid ha; clear hv ha
  obtain ⟨c, rfl⟩ := Int.eq_ofNat_of_zero_le (show 0 ≤ c by omega)
  go_enter Try.func3, Try.ntmps3
  go_wp2_with fail
  refine (pmnew_yes c _ (by omega) (by omega)).mono ?_
  rintro e w1 ⟨rfl, t1, b1⟩
  have hs1 := t1.lt
  go_wp2_with fail
  refine (dmnew_yes c _ (by omega) (by omega)).mono ?_
  rintro e w2 ⟨rfl, r2, b2⟩
  have hst : Rr w w.heap.size (w1.heap.size + 1) w1.heap.size c newT w2 := ⟨t1.below b2 hs1, r2, Below.down b1 b2 b1.size, Nat.le_refl _, by omega, by omega⟩
  clear t1 b1 r2 b2 hs1
  generalize w.heap.size = g at hst
  generalize w1.heap.size = b at hst
  generalize hbr : b + 1 = r at *
  clear hbr
  go_wp2_with (go_at_call 9; refine (num_any _ _).mono ?_; rintro e w' ⟨rfl, rfl⟩)
  go_loopw [9] (fun i wq => ∃ (k : Nat) (T : List Ro), k ≤ n ∧ i = .int .i64 k ∧ Rr w g r b c T wq) (fun i _ => n - (intOf i).toNat)
  case atStart => exact ⟨0, _, by omega, rfl, hst⟩
  case round =>
    clear hst
    obtain ⟨k, T, hk, rfl, hst⟩ := hrel
    by_cases hgo : k < n ∧ k < 60
    · obtain ⟨hkn, hk60⟩ := hgo
      have hd : decide ((k : Int) < 60) = true := by simp; omega
      obtain ⟨ab, ao, rfl, hblt, K, X, V, P, M, c0, c1, c2, c3, c4⟩ := rec5r HV.out HA.out k hkn
      replace c0 := (hst.bel.cell (p := ⟨ab, ao + k * 5, none⟩) hblt).trans c0
      replace c1 := (hst.bel.cell (p := ⟨ab, ao + k * 5 + 1, none⟩) hblt).trans c1
      replace c2 := (hst.bel.cell (p := ⟨ab, ao + k * 5 + 2, none⟩) hblt).trans c2
      replace c3 := (hst.bel.cell (p := ⟨ab, ao + k * 5 + 3, none⟩) hblt).trans c3
      replace c4 := (hst.bel.cell (p := ⟨ab, ao + k * 5 + 4, none⟩) hblt).trans c4
      have hbl : ab < wr.heap.size := Nat.lt_of_lt_of_le hblt hst.bel.size
      have hB5 : Blk (wr.alloc (.cells (act5 K X V P M).toArray 33)) wr.heap.size 33 (act5 K X V P M) := Blk.new _ _ _
      have hst2 := hst.below ((Below.refl _ _).alloc (Nat.le_refl wr.heap.size) (.cells (act5 K X V P M).toArray 33))
      clear hst
      by_cases hk4 : K < 4
      · skip
        have hk4' : decide (K < 4) = true := by simpa using hk4
        go_wp2_with fail
        change Calls _ _ _ (wr.alloc (.cells (act5 K X V P M).toArray 33)) _
        generalize wr.alloc (.cells (act5 K X V P M).toArray 33) = wa at *
        generalize wr.heap.size = h at *
        clear c0 c1 c2 c3 c4 hbl
        refine (pmset_any g c T X V P _ hst2.t).mono ?_
        rintro e w3 ⟨rfl, t3, g3⟩
        have hu3 := hst2.ref g3
        replace hB5 := hst2.blkT hB5 (by decide) g3
        obtain ⟨k0, k1, k2, k3, k4⟩ := act_cellsr hB5
        go_wp2_with fail
        refine (num_any _ _).mono ?_
        rintro e w' ⟨rfl, rfl⟩
        go_wp2_with fail
        refine (dmset_any r b c T X V P _ hu3).mono ?_
        rintro e w4 ⟨rfl, u4, g4⟩
        replace hB5 := hu3.blkU hB5 (by decide) g4
        clear k0 k1 k2 k3 k4
        have hst : Rr w g r b c (rsT c T X V P) w4 := hst2.both t3 g3 (fun _ => ⟨u4, g4⟩)
        clear hst2 t3 g3 u4 g4 hu3
        obtain ⟨k0, k1, k2, k3, k4⟩ := act_cellsr hB5
        clear k0 k1 k3 k4
        generalize rsT c T X V P = T' at *
        generalize rsC c X V P = N at *
        clear k2
        go_wp2_with fail
        go_loopw [17] (fun i wq => ∃ (j : Nat), j ≤ c + 2 ∧ i = .int .i64 ((j : Int) - 1) ∧ Rr w g r b c T' wq ∧ Blk wq h 33 (act5 K X V P M)) (fun i _ => c + 2 - (intOf i + 1).toNat)
        case atStart => exact ⟨0, by omega, rfl, hst, hB5⟩
        case round =>
          clear hst hB5
          obtain ⟨j, hj, rfl, hst, hB5⟩ := hrel
          obtain ⟨_, _, k2, _, _⟩ := act_cellsr hB5
          by_cases hjc : j < c + 2
          · have hjc' : (j : Int) - 1 ≤ c := by omega
            go_wp2_with fail
            refine (pmlook_any g c T' _ _ _ hst.t).mono ?_
            rintro e w' ⟨rfl, q, rfl⟩
            replace hst := hst.drewN q
            replace hB5 := hB5.drewN q
            generalize World.drewN _ q = wz at *
            obtain ⟨_, _, k2, _, _⟩ := act_cellsr hB5
            go_wp2_with fail
            refine (dmlook_any r b c T' _ _ _ hst.u).mono ?_
            rintro e w5 ⟨rfl, b5⟩
            replace hst := hst.below b5
            replace hB5 := hB5.below b5 hB5.lt
            clear b5 k2
            generalize rlP c T' ((j : Int) - 1) V = lp
            generalize rlM c T' ((j : Int) - 1) V = lm
            generalize reC c T' ((j : Int) - 1) V = lc
            go_wp2_with (go_at_call 9; refine (num_any _ _).mono ?_; rintro e w' ⟨rfl, rfl⟩)
            go_roundw
            case rel => exact ⟨j + 1, by omega, by go_num, hst, hB5⟩
            case measure => simp [intOf]; omega
          · go_wp2_with fail
            go_roundw
            case rel => exact ⟨k + 1, _, by omega, by go_num, hst⟩
            case measure => simp [intOf]; omega
      · by_cases hk5 : K = 4
        · skip
          subst hk5
          clear hk4
          go_wp2_with fail
          change Calls _ _ _ (wr.alloc (.cells (act5 4 X V P M).toArray 33)) _
          generalize wr.alloc (.cells (act5 4 X V P M).toArray 33) = wa at *
          generalize wr.heap.size = h at *
          clear c0 c1 c2 c3 c4 hbl
          refine (pmunset_any g c T X V _ hst2.t).mono ?_
          rintro e w3 ⟨rfl, t3, g3⟩
          have hu3 := hst2.ref g3
          replace hB5 := hst2.blkT hB5 (by decide) g3
          obtain ⟨k0, k1, k2, k3, k4⟩ := act_cellsr hB5
          go_wp2_with fail
          refine (num_any _ _).mono ?_
          rintro e w' ⟨rfl, rfl⟩
          go_wp2_with fail
          refine (dmunset_any r b c T X V _ hu3).mono ?_
          rintro e w4 ⟨rfl, u4, g4⟩
          replace hB5 := hu3.blkU hB5 (by decide) g4
          clear k0 k1 k2 k3 k4
          have hst : Rr w g r b c (ruT c T X V) w4 := hst2.both t3 g3 (fun _ => ⟨u4, g4⟩)
          clear hst2 t3 g3 u4 g4 hu3
          obtain ⟨k0, k1, k2, k3, k4⟩ := act_cellsr hB5
          clear k0 k1 k3 k4
          generalize ruT c T X V = T' at *
          generalize reC c T X V = N at *
          clear k2
          go_wp2_with fail
          go_loopw [17] (fun i wq => ∃ (j : Nat), j ≤ c + 2 ∧ i = .int .i64 ((j : Int) - 1) ∧ Rr w g r b c T' wq ∧ Blk wq h 33 (act5 4 X V P M)) (fun i _ => c + 2 - (intOf i + 1).toNat)
          case atStart => exact ⟨0, by omega, rfl, hst, hB5⟩
          case round =>
            clear hst hB5
            obtain ⟨j, hj, rfl, hst, hB5⟩ := hrel
            obtain ⟨_, _, k2, _, _⟩ := act_cellsr hB5
            by_cases hjc : j < c + 2
            · have hjc' : (j : Int) - 1 ≤ c := by omega
              go_wp2_with fail
              refine (pmlook_any g c T' _ _ _ hst.t).mono ?_
              rintro e w' ⟨rfl, q, rfl⟩
              replace hst := hst.drewN q
              replace hB5 := hB5.drewN q
              generalize World.drewN _ q = wz at *
              obtain ⟨_, _, k2, _, _⟩ := act_cellsr hB5
              go_wp2_with fail
              refine (dmlook_any r b c T' _ _ _ hst.u).mono ?_
              rintro e w5 ⟨rfl, b5⟩
              replace hst := hst.below b5
              replace hB5 := hB5.below b5 hB5.lt
              clear b5 k2
              generalize rlP c T' ((j : Int) - 1) V = lp
              generalize rlM c T' ((j : Int) - 1) V = lm
              generalize reC c T' ((j : Int) - 1) V = lc
              go_wp2_with (go_at_call 9; refine (num_any _ _).mono ?_; rintro e w' ⟨rfl, rfl⟩)
              go_roundw
              case rel => exact ⟨j + 1, by omega, by go_num, hst, hB5⟩
              case measure => simp [intOf]; omega
            · go_wp2_with fail
              go_roundw
              case rel => exact ⟨k + 1, _, by omega, by go_num, hst⟩
              case measure => simp [intOf]; omega
        · by_cases hk8 : K < 8
          · skip
            have hk4' : (K == 4) = false := by simpa using hk5
            have hk3' : decide (K < 4) = false := by simpa using hk4
            have hk8' : decide (K < 8) = true := by simpa using hk8
            clear hk4 hk5 hk8
            go_wp2_with fail
            change Calls _ _ _ (wr.alloc (.cells (act5 K X V P M).toArray 33)) _
            generalize wr.alloc (.cells (act5 K X V P M).toArray 33) = wa at *
            generalize wr.heap.size = h at *
            clear c0 c1 c2 c3 c4 hbl
            refine (pmmask_any g c T X V M _ hst2.t).mono ?_
            rintro e w3 ⟨rfl, t3, g3⟩
            have hu3 := hst2.ref g3
            replace hB5 := hst2.blkT hB5 (by decide) g3
            obtain ⟨k0, k1, k2, k3, k4⟩ := act_cellsr hB5
            go_wp2_with fail
            refine (num_any _ _).mono ?_
            rintro e w' ⟨rfl, rfl⟩
            go_wp2_with fail
            refine (dmmask_any r b c T X V M _ hu3).mono ?_
            rintro e w4 ⟨rfl, u4, g4⟩
            replace hB5 := hu3.blkU hB5 (by decide) g4
            clear k0 k1 k2 k3 k4
            have hst : Rr w g r b c (rmT c T X V M) w4 := hst2.both t3 g3 (fun _ => ⟨u4, g4⟩)
            clear hst2 t3 g3 u4 g4 hu3
            obtain ⟨k0, k1, k2, k3, k4⟩ := act_cellsr hB5
            clear k0 k1 k3 k4
            generalize rmT c T X V M = T' at *
            generalize reC c T X V = N at *
            clear k2
            go_wp2_with fail
            go_loopw [17] (fun i wq => ∃ (j : Nat), j ≤ c + 2 ∧ i = .int .i64 ((j : Int) - 1) ∧ Rr w g r b c T' wq ∧ Blk wq h 33 (act5 K X V P M)) (fun i _ => c + 2 - (intOf i + 1).toNat)
            case atStart => exact ⟨0, by omega, rfl, hst, hB5⟩
            case round =>
              clear hst hB5
              obtain ⟨j, hj, rfl, hst, hB5⟩ := hrel
              obtain ⟨_, _, k2, _, _⟩ := act_cellsr hB5
              by_cases hjc : j < c + 2
              · have hjc' : (j : Int) - 1 ≤ c := by omega
                go_wp2_with fail
                refine (pmlook_any g c T' _ _ _ hst.t).mono ?_
                rintro e w' ⟨rfl, q, rfl⟩
                replace hst := hst.drewN q
                replace hB5 := hB5.drewN q
                generalize World.drewN _ q = wz at *
                obtain ⟨_, _, k2, _, _⟩ := act_cellsr hB5
                go_wp2_with fail
                refine (dmlook_any r b c T' _ _ _ hst.u).mono ?_
                rintro e w5 ⟨rfl, b5⟩
                replace hst := hst.below b5
                replace hB5 := hB5.below b5 hB5.lt
                clear b5 k2
                generalize rlP c T' ((j : Int) - 1) V = lp
                generalize rlM c T' ((j : Int) - 1) V = lm
                generalize reC c T' ((j : Int) - 1) V = lc
                go_wp2_with (go_at_call 9; refine (num_any _ _).mono ?_; rintro e w' ⟨rfl, rfl⟩)
                go_roundw
                case rel => exact ⟨j + 1, by omega, by go_num, hst, hB5⟩
                case measure => simp [intOf]; omega
              · go_wp2_with fail
                go_roundw
                case rel => exact ⟨k + 1, _, by omega, by go_num, hst⟩
                case measure => simp [intOf]; omega
          · skip
            have hk4' : (K == 4) = false := by simpa using hk5
            have hk3' : decide (K < 4) = false := by simpa using hk4
            have hk8' : decide (K < 8) = false := by simpa using hk8
            clear hk4 hk5 hk8
            go_wp2_with fail
            change Calls _ _ _ (wr.alloc (.cells (act5 K X V P M).toArray 33)) _
            generalize wr.alloc (.cells (act5 K X V P M).toArray 33) = wa at *
            generalize wr.heap.size = h at *
            clear c0 c1 c2 c3 c4 hbl
            refine (pmclear_any g c T X _ hst2.t).mono ?_
            rintro e w3 ⟨rfl, t3, g3⟩
            have hu3 := hst2.ref g3
            replace hB5 := hst2.blkT hB5 (by decide) g3
            obtain ⟨k0, k1, k2, k3, k4⟩ := act_cellsr hB5
            go_wp2_with fail
            refine (num_any _ _).mono ?_
            rintro e w' ⟨rfl, rfl⟩
            go_wp2_with fail
            refine (dmclear_any r b c T X _ hu3).mono ?_
            rintro e w4 ⟨rfl, u4, g4⟩
            replace hB5 := hu3.blkU hB5 (by decide) g4
            clear k0 k1 k2 k3 k4
            have hst : Rr w g r b c (rcT c T X) w4 := hst2.both t3 g3 (fun _ => ⟨u4, g4⟩)
            clear hst2 t3 g3 u4 g4 hu3
            obtain ⟨k0, k1, k2, k3, k4⟩ := act_cellsr hB5
            clear k0 k1 k3 k4
            generalize rcT c T X = T' at *
            generalize rcC c X = N at *
            clear k2
            go_wp2_with fail
            go_loopw [17] (fun i wq => ∃ (j : Nat), j ≤ c + 2 ∧ i = .int .i64 ((j : Int) - 1) ∧ Rr w g r b c T' wq ∧ Blk wq h 33 (act5 K X V P M)) (fun i _ => c + 2 - (intOf i + 1).toNat)
            case atStart => exact ⟨0, by omega, rfl, hst, hB5⟩
            case round =>
              clear hst hB5
              obtain ⟨j, hj, rfl, hst, hB5⟩ := hrel
              obtain ⟨_, _, k2, _, _⟩ := act_cellsr hB5
              by_cases hjc : j < c + 2
              · have hjc' : (j : Int) - 1 ≤ c := by omega
                go_wp2_with fail
                refine (pmlook_any g c T' _ _ _ hst.t).mono ?_
                rintro e w' ⟨rfl, q, rfl⟩
                replace hst := hst.drewN q
                replace hB5 := hB5.drewN q
                generalize World.drewN _ q = wz at *
                obtain ⟨_, _, k2, _, _⟩ := act_cellsr hB5
                go_wp2_with fail
                refine (dmlook_any r b c T' _ _ _ hst.u).mono ?_
                rintro e w5 ⟨rfl, b5⟩
                replace hst := hst.below b5
                replace hB5 := hB5.below b5 hB5.lt
                clear b5 k2
                generalize rlP c T' ((j : Int) - 1) V = lp
                generalize rlM c T' ((j : Int) - 1) V = lm
                generalize reC c T' ((j : Int) - 1) V = lc
                go_wp2_with (go_at_call 9; refine (num_any _ _).mono ?_; rintro e w' ⟨rfl, rfl⟩)
                go_roundw
                case rel => exact ⟨j + 1, by omega, by go_num, hst, hB5⟩
                case measure => simp [intOf]; omega
              · go_wp2_with fail
                go_roundw
                case rel => exact ⟨k + 1, _, by omega, by go_num, hst⟩
                case measure => simp [intOf]; omega
    · have hend : (k : Int) < n → decide ((k : Int) < 60) = false := by intro h; simp; omega
      by_cases hkn : (k : Int) < n
      all_goals
        try have hend' := hend hkn
        clear hend hgo
        go_wp2_with fail
        refine (rmawake_any _).mono ?_
        rintro e wz ⟨rfl, bz⟩
        have hbz := Below.down hst.bel bz hst.bel.size
        go_wp2_with fail
        go_ret
        exact ⟨rfl, hbz⟩

theorem law_Remaps (c : Int) (v : Value) (n : Nat) (xs : List Value) (w : World) (hv : Sl w v n 5 xs) (ha : ∀ i, i < n → ActR xs i) (hn : n ≤ maxLen) :
    Calls Try.prog 3 #[.int .i64 c, v] w fun e w' => e = .returned (.bool true) ∧ Below w.heap.size w w' := by
  by_cases h : 1 ≤ c ∧ c ≤ 4
  · exact remaps_yes c v n xs w hv ha hn h.1 h.2
  · exact remaps_no c v w h

end Go.Proofs.Ytmdohdibpifckaa
