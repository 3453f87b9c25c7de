/-
  Contracts of package console: what each command tells.
-/
import Derived.Test.YtobpggpjboonfaaDoorCn3
import Derived.Test.YtobpggpjboonfaaDoorSplit
import Derived.Test.YtobpggpjboonfaaDoorPte2
import Derived.Test.YtobpggpjboonfaaDoorLat1
import Derived.Test.YtobpggpjboonfaaDoorSchAwake
import Derived.Deep.RegionWith
import Derived.BigRegion
import Derived.StillTailTactics
namespace Go.Proofs.YtobpggpjboonfaaDoor
open Go.RowKit Go.Lib
set_option linter.unusedVariables false
set_option linter.unusedSimpArgs false
set_option maxRecDepth 100000

theorem Env.drewN {w : World} (h : Env w) (n : Nat) : Env (w.drewN n) := h.below (bdrewN (Below.refl _ _) n)
theorem Env.drew {w : World} (h : Env w) : Env w.drew := h.drewN 1
theorem Env.alloc {w : World} (h : Env w) (o : Obj) : Env (w.alloc o) := h.below ((Below.refl _ w).alloc (Nat.le_refl _) o)
/-- One number told, two. -/
theorem row1_any (x : Int) (w : World) (g : Nat) (hg : g = w.heap.size) (he : Env w) (h0 : -9223372036854775808 ≤ x) (h1 : x ≤ 9223372036854775807) :
    Calls Tryd.prog 48 #[.slice (some ⟨g, 0, none⟩) 1 1] (w.alloc (.cells #[.int .i64 x] 3)) fun e w' => e = .returned (.string (str (rwS [x]))) ∧ Below w.heap.size w w' := by
  subst hg
  refine (row_any _ 1 [x] _ (he.alloc _) (Sl.lit w (ints [x]) 1 1 _ rfl) (by omega) (by intro y hy; simp at hy; subst hy; exact ⟨h0, h1⟩)).mono ?_
  rintro e w' ⟨rfl, hb⟩
  exact ⟨rfl, ((Below.refl _ w).alloc (Nat.le_refl _) _).trans (hb.mono (by simp))⟩
theorem row2_any (x y : Int) (w : World) (g : Nat) (hg : g = w.heap.size) (he : Env w) (h0 : -9223372036854775808 ≤ x) (h1 : x ≤ 9223372036854775807) (h2 : -9223372036854775808 ≤ y) (h3 : y ≤ 9223372036854775807) :
    Calls Tryd.prog 48 #[.slice (some ⟨g, 0, none⟩) 2 2] (w.alloc (.cells #[.int .i64 x, .int .i64 y] 3)) fun e w' => e = .returned (.string (str (rwS [x, y]))) ∧ Below w.heap.size w w' := by
  subst hg
  refine (row_any _ 2 [x, y] _ (he.alloc _) (Sl.lit w (ints [x, y]) 2 1 _ rfl) (by omega) (by intro z hz; simp at hz; rcases hz with rfl | rfl <;> constructor <;> assumption)).mono ?_
  rintro e w' ⟨rfl, hb⟩
  exact ⟨rfl, ((Below.refl _ w).alloc (Nat.le_refl _) _).trans (hb.mono (by simp))⟩

theorem eN_range (f p : Int) : 0 ≤ eN f p ∧ eN f p ≤ 1000000 := by
  unfold eN eB
  split
  · rename_i h
    have := of_decide_eq_true h.1
    omega
  · omega
theorem gFP_range (x : Int) : (0 ≤ gF x ∧ gF x ≤ 1000000) ∧ (0 ≤ gP x ∧ gP x ≤ 1000000) := by
  unfold gF gP gB
  constructor
  · split
    · rename_i h
      have := of_decide_eq_true h
      omega
    · omega
  · split
    · rename_i h
      have := of_decide_eq_true h
      omega
    · omega

theorem nxt_range (m s l d t : Int) (h : -1000000 < t ∧ t < 1000000) : 0 ≤ nxtN [⟨0, s, l, d⟩] m 0 t ∧ nxtN [⟨0, s, l, d⟩] m 0 t ≤ 2000000 := by
  unfold nxtN
  split
  · rename_i hh
    rw [Bool.and_eq_true] at hh
    have ha := hh.1
    unfold askW at ha
    rw [Bool.and_eq_true] at ha
    have ht := of_decide_eq_true ha.1
    have hm := (mayW_all ha.2).1
    have h1 := wt_le [(⟨0, s, l, d⟩ : Win)] 0 m (t % m) m
    have h2 := wt_nonneg [(⟨0, s, l, d⟩ : Win)] 0 m (t % m) m (by omega) (by omega)
    omega
  · omega

/-- What a command's function answers. -/
def TlA (x : List UInt8 × Int) (w : World) (e : Ending) (w' : World) : Prop := e = .returned (.tuple #[.string (str x.1), .int .i64 x.2]) ∧ Below w.heap.size w w'

set_option maxHeartbeats 1000000 in
theorem tentry_any (v : Value) (f p : Int) (w : World) (he : Env w) (hs : Sl w v 2 1 (ints [f, p])) :
    Calls Tryd.prog 34 #[v] w (TlA (enS f p) w) := by
  obtain ⟨A, cap, rfl, hc, _, hA⟩ := hs
  obtain ⟨b, o, rfl, hlt, hcell⟩ := hA (by omega)
  have c0 := hcell 0 _ rfl
  have c1 := hcell 1 _ rfl
  rw [Nat.add_zero] at c0
  have hr := eN_range f p
  have hP := Lib.hid (eput_any f p)
  have hE : enS f p = (rwS [eN f p], e4 (eB f p)) := rfl
  rw [hE]
  have HE := Lib.hid he
  clear hcell hA he hE
  generalize eN f p = N at *
  generalize e4 (eB f p) = C at *
  go_enter Tryd.func34, Tryd.ntmps34
  go_wp2_with fail
  go_region_with (go_at_call 49; refine (hP.out _).mono ?_; rintro e w1 ⟨rfl, hb1⟩; have B1 := Lib.hid ((bdrewN (Below.refl w.heap.size w) 1).trans hb1); have HE1 := Lib.hid (HE.out.below B1.out); clear hb1)
  all_goals
    go_wp2_with fail
    refine (row1_any N _ _ rfl HE1.out (by omega) (by omega)).mono ?_
    rintro e w2 ⟨rfl, hb2⟩
    have B2 := Lib.hid (B1.out.trans (hb2.mono B1.out.size))
    clear hb2
    go_wp2_with fail
    go_ret2
    exact ⟨rfl, B2.out⟩

set_option maxHeartbeats 1000000 in
theorem tword_any (v : Value) (x : Int) (w : World) (he : Env w) (hs : Sl w v 1 1 (ints [x])) :
    Calls Tryd.prog 35 #[v] w (TlA (wdS x) w) := by
  obtain ⟨A, cap, rfl, hc, _, hA⟩ := hs
  obtain ⟨b, o, rfl, hlt, hcell⟩ := hA (by omega)
  have c0 := hcell 0 _ rfl
  rw [Nat.add_zero] at c0
  obtain ⟨hf, hp⟩ := gFP_range x
  have hG := eget_any x w
  have hE : wdS x = (rwS [gF x, gP x], e4 (gB x)) := rfl
  rw [hE]
  unfold getV at hG
  have HE := Lib.hid he
  clear hcell hA he hE
  generalize gF x = F at *
  generalize gP x = P at *
  generalize e4 (gB x) = C at *
  have HG := Lib.hid hG
  clear hG
  go_enter Tryd.func35, Tryd.ntmps35
  go_wp2_with (go_at_call 50; refine HG.out.mono ?_; rintro e w1 ⟨rfl, hb1⟩; have B1 := Lib.hid hb1; clear hb1)
  have B2 := Lib.hid (B1.out.alloc B1.out.size (.cells #[.int .i64 F, .int .i64 P] 62))
  have HE2 := Lib.hid (HE.out.below B2.out)
  refine (row2_any F P _ _ (by simp) HE2.out (by omega) (by omega) (by omega) (by omega)).mono ?_
  rintro e w2 ⟨rfl, hb2⟩
  have B3 := Lib.hid (B2.out.trans (hb2.mono B2.out.size))
  clear hb2
  go_wp2_with fail
  go_ret2
  exact ⟨rfl, B3.out⟩

set_option maxHeartbeats 1000000 in
theorem tover_any (v : Value) (l c l' c' : Int) (w : World) (hs : Sl w v 4 1 (ints [l, c, l', c'])) :
    Calls Tryd.prog 36 #[v] w (TlA (ovS l c l' c') w) := by
  obtain ⟨A, cap, rfl, hc, _, hA⟩ := hs
  obtain ⟨b, o, rfl, hlt, hcell⟩ := hA (by omega)
  have c0 := hcell 0 _ rfl
  have c1 := hcell 1 _ rfl
  have c2 := hcell 2 _ rfl
  have c3 := hcell 3 _ rfl
  rw [Nat.add_zero] at c0
  have HC2 := Lib.hid c2; have HC3 := Lib.hid c3
  have hD := Lib.hid (ldom_any l c l' c')
  have hE : ovS l c l' c' = (yesS (lD l c l' c'), 0) := rfl
  rw [hE]
  clear hcell hA hE c2 c3
  generalize lD l c l' c' = D at *
  have HT := Lib.hid (truth_any D)
  generalize hY : str (yesS D) = Y at HT
  have HY := Lib.hid hY
  clear hY
  have a0 := ((Below.refl w.heap.size w).alloc (Nat.le_refl _) (.cells #[.int .i64 0, .int .i64 0] 68)).cell (p := ⟨b, o, none⟩) hlt
  have a1 := ((Below.refl w.heap.size w).alloc (Nat.le_refl _) (.cells #[.int .i64 0, .int .i64 0] 68)).cell (p := ⟨b, o + 1, none⟩) hlt
  rw [c0] at a0
  rw [c1] at a1
  have b0 := (Below.refl w.heap.size w).alloc (Nat.le_refl _) (.cells #[.int .i64 l, .int .i64 c] 68)
  go_enter Tryd.func36, Tryd.ntmps36
  go_wp2_with fail
  go_region
  have e0 : (w.alloc (.cells #[.int .i64 l, .int .i64 c] 68)).drew.cell? ⟨b, o + 2, none⟩ = some (.int .i64 l') := (b0.cell (p := ⟨b, o + 2, none⟩) hlt).trans HC2.out
  have e1 : (w.alloc (.cells #[.int .i64 l, .int .i64 c] 68)).drew.cell? ⟨b, o + 3, none⟩ = some (.int .i64 c') := (b0.cell (p := ⟨b, o + 3, none⟩) hlt).trans HC3.out
  have t1 : Blk (w.alloc (.cells #[.int .i64 l, .int .i64 c] 68)).drew w.heap.size 68 [.int .i64 l, .int .i64 c] := Blk.new w _ _
  have d0 : Below w.heap.size w (w.alloc (.cells #[.int .i64 l, .int .i64 c] 68)).drew := bdrewN b0 1
  have hl2 : b < (w.alloc (.cells #[.int .i64 l, .int .i64 c] 68)).drew.heap.size := Nat.lt_of_lt_of_le hlt d0.size
  clear a0 a1 b0 c0 c1 HC2 HC3
  have D0 := Lib.hid d0
  clear d0
  generalize (w.alloc (.cells #[.int .i64 l, .int .i64 c] 68)).drew = w1 at *
  generalize hg : w.heap.size = g at *
  have HG := Lib.hid hg
  clear hg
  go_wp2_with fail
  have a0 := ((Below.refl w1.heap.size w1).alloc (Nat.le_refl _) (.cells #[.int .i64 0, .int .i64 0] 68)).cell (p := ⟨b, o + 2, none⟩) hl2
  have a1 := ((Below.refl w1.heap.size w1).alloc (Nat.le_refl _) (.cells #[.int .i64 0, .int .i64 0] 68)).cell (p := ⟨b, o + 3, none⟩) hl2
  rw [e0] at a0
  rw [e1] at a1
  go_region
  have t2 : Blk (w1.alloc (.cells #[.int .i64 l', .int .i64 c'] 68)).drew w1.heap.size 68 [.int .i64 l', .int .i64 c'] := Blk.new w1 _ _
  have t3 : Blk (w1.alloc (.cells #[.int .i64 l', .int .i64 c'] 68)).drew g 68 [.int .i64 l, .int .i64 c] := t1.alloc _
  have d2 : Below g w (w1.alloc (.cells #[.int .i64 l', .int .i64 c'] 68)).drew := bdrewN (D0.out.alloc (by have := t1.lt; omega) _) 1
  have D2 := Lib.hid d2
  clear a0 a1 e0 e1 d2 D0 hl2
  generalize (w1.alloc (.cells #[.int .i64 l', .int .i64 c'] 68)).drew = w2 at *
  generalize w1.heap.size = g2 at *
  have q0 : w2.cell? ⟨g, 0, none⟩ = some (.int .i64 l) := by rw [t3.cell]; rfl
  have q1 : w2.cell? ⟨g, 1, none⟩ = some (.int .i64 c) := by rw [t3.cell]; rfl
  have q2 : w2.cell? ⟨g2, 0, none⟩ = some (.int .i64 l') := by rw [t2.cell]; rfl
  have q3 : w2.cell? ⟨g2, 1, none⟩ = some (.int .i64 c') := by rw [t2.cell]; rfl
  have hsz := D2.out.size
  clear t1 t2 t3
  go_wp2_with (first
    | (go_at_call 52; refine (hD.out _).mono ?_; rintro e w3 ⟨rfl, hb3⟩; have B3 := Lib.hid (D2.out.trans (hb3.mono (by rw [← HG.out]; exact hsz))); clear hb3)
    | (go_at_call 51; refine (HT.out _).mono ?_; rintro e w4 ⟨rfl, rfl⟩))
  go_ret2
  refine ⟨?_, ?_⟩
  · show Ending.returned (Value.tuple #[Value.string Y, Value.int .i64 0]) = _
    rw [← HY.out]
  · rw [HG.out]; exact B3.out

set_option maxHeartbeats 1000000 in
theorem tnext_any (v : Value) (m s l d t : Int) (w : World) (he : Env w) (hs : Sl w v 5 1 (ints [m, s, l, d, t])) (h1 : -1000000 < s ∧ s < 1000000) (h2 : -1000000 < l ∧ l < 1000000) (h3 : -1000000 < d ∧ d < 1000000) (h4 : -1000000 < t ∧ t < 1000000) :
    Calls Tryd.prog 37 #[v] w (TlA (nxS m s l d t) w) := by
  obtain ⟨A, cap, rfl, hc, _, hA⟩ := hs
  obtain ⟨b, o, rfl, hlt, hcell⟩ := hA (by omega)
  have c0 : w.cell? ⟨b, o + 0, none⟩ = some (.int .i64 m) := hcell 0 _ rfl
  have c1 : w.cell? ⟨b, o + 1, none⟩ = some (.int .i64 s) := hcell 1 _ rfl
  have c2 : w.cell? ⟨b, o + 2, none⟩ = some (.int .i64 l) := hcell 2 _ rfl
  have c3 : w.cell? ⟨b, o + 3, none⟩ = some (.int .i64 d) := hcell 3 _ rfl
  have c4 : w.cell? ⟨b, o + 4, none⟩ = some (.int .i64 t) := hcell 4 _ rfl
  rw [Nat.add_zero] at c0
  have hN := nxt_range m s l d t h4
  have HN := Lib.hid (fun W v (h : Ws W v 1 [⟨0, s, l, d⟩]) => nxt_ws h m 0 t _ _ rfl rfl)
  have hE : nxS m s l d t = (rwS [nxtN [⟨0, s, l, d⟩] m 0 t], nxtC [⟨0, s, l, d⟩] m 0 t) := rfl
  rw [hE]
  have HE := Lib.hid he
  clear hcell hA hE he
  have HW : Hid (∀ x ∈ [(⟨0, s, l, d⟩ : Win)], W64 x) := Lib.hid (by intro x hx; simp at hx; subst hx; unfold W64; simp only; omega)
  clear h1 h2 h3
  generalize nxtN [⟨0, s, l, d⟩] m 0 t = N at *
  generalize nxtC [⟨0, s, l, d⟩] m 0 t = C at *
  go_enter Tryd.func37, Tryd.ntmps37
  go_wp2_with fail
  go_still_tail 10, (by kernel_rfl)
  repeat still_step
  change wpList _ _ _ _ _ (World.drew _)
  have D0 := Lib.hid (bdrewN (Below.refl w.heap.size w) 1)
  change Hid (Below _ _ (World.drew _)) at D0
  have k0 := (D0.out.cell (p := ⟨b, o, none⟩) hlt).trans c0
  have k4 := (D0.out.cell (p := ⟨b, o + 4, none⟩) hlt).trans c4
  have hlt1 := Nat.lt_of_lt_of_le hlt D0.out.size
  clear c0 c1 c2 c3 c4
  generalize World.drew _ = w1 at *
  go_wp2_with fail
  have hw0 : Ws (w1.alloc (.cells #[.int .i64 0, .int .i64 s, .int .i64 l, .int .i64 d] 71)) (.slice (some ⟨w1.heap.size, 0, none⟩) 1 1) 1 [⟨0, s, l, d⟩] :=
    ⟨Sl.lit w1 (ints (wins [⟨0, s, l, d⟩])) 1 4 _ rfl, rfl, by unfold maxLen; omega, HW.out⟩
  have B1 := Lib.hid (D0.out.alloc D0.out.size (.cells #[.int .i64 0, .int .i64 s, .int .i64 l, .int .i64 d] 71))
  have j0 := (((Below.refl w1.heap.size w1).alloc (Nat.le_refl _) (.cells #[.int .i64 0, .int .i64 s, .int .i64 l, .int .i64 d] 71)).cell (p := ⟨b, o, none⟩) hlt1).trans k0
  have j4 := (((Below.refl w1.heap.size w1).alloc (Nat.le_refl _) (.cells #[.int .i64 0, .int .i64 s, .int .i64 l, .int .i64 d] 71)).cell (p := ⟨b, o + 4, none⟩) hlt1).trans k4
  have HW0 := Lib.hid hw0
  clear hw0 k0 k4 D0 hlt hlt1
  generalize w1.alloc (.cells #[.int .i64 0, .int .i64 s, .int .i64 l, .int .i64 d] 71) = w2 at *
  generalize w1.heap.size = g at *
  have hsz := B1.out.size
  go_region_with (go_at_call 53; refine (HN.out _ _ HW0.out.drew).mono ?_; rintro e w4 ⟨rfl, hb4⟩; have B4 := Lib.hid ((bdrewN B1.out 1).trans (hb4.mono hsz)); have HE1 := Lib.hid (HE.out.below B4.out); clear hb4)
  all_goals
    go_wp2_with fail
    refine (row1_any N _ _ rfl HE1.out (by omega) (by omega)).mono ?_
    rintro e w5 ⟨rfl, hb5⟩
    have B5 := Lib.hid (B4.out.trans (hb5.mono B4.out.size))
    clear hb5
    go_wp2_with fail
    go_ret2
    exact ⟨rfl, B5.out⟩

end Go.Proofs.YtobpggpjboonfaaDoor
