/-
  Contracts of package sched: fits, meets, May, mayAsk.
-/
import Derived.Test.YtobpggpjboonfaaDoorSch0
import Derived.Test.YtobpggpjboonfaaDoorPlain2
import Derived.Test.YtobpggpjboonfaaDoorNum
import Derived.Deep.RegionHeld3
namespace Go.Proofs.YtobpggpjboonfaaDoor
open Go.RowKit
set_option linter.unusedVariables false
set_option maxRecDepth 100000

/-- A block of four cells, as the walk asks for it. -/
theorem four_at {w : World} {g : Nat} {t : TypeId} {x y z u : Value} (h : Blk w g t [x, y, z, u]) : w.cell? ⟨g, 0, none⟩ = some x ∧ w.cell? ⟨g, 1, none⟩ = some y ∧ w.cell? ⟨g, 2, none⟩ = some z ∧ w.cell? ⟨g, 3, none⟩ = some u :=
  ⟨h.cell 0, h.cell 1, h.cell 2, h.cell 3⟩

/-- A window as a value. -/
def wdv (x : Win) : List Value := [.int .i64 x.p, .int .i64 x.s, .int .i64 x.l, .int .i64 x.d]

set_option maxHeartbeats 1000000 in
theorem fits_any (x : Win) (m p : Int) (hx : W64 x) (hm : 1 ≤ m ∧ m ≤ 64) (w : World) :
    Calls Tryd.prog 88 #[.agg #[.int .i64 x.p, .int .i64 x.s, .int .i64 x.l, .int .i64 x.d], .int .i64 m, .int .i64 p] w fun e w' => e = .returned (.bool (fitW x m p)) ∧ Below w.heap.size w w' := by
  obtain ⟨⟨p0, p1⟩, ⟨s0, s1⟩, ⟨l0, l1⟩, ⟨d0, d1⟩⟩ := hx
  obtain ⟨m0, m1⟩ := hm
  have hp := fit_parts x m p
  generalize fitW x m p = R at hp ⊢
  obtain ⟨xp, xs, xl, xd⟩ := x
  simp only at *
  rcases hp with ⟨rfl, h0, h1, h2, h3, h4, h5, h6⟩ | ⟨rfl, h0 | ⟨h0, h1⟩ | ⟨h0, h1, h2⟩ | ⟨h0, h1, h2, h3⟩ | ⟨h0, h1, h2, h3, h4⟩ | ⟨h0, h1, h2, h3, h4, h5⟩ | ⟨h0, h1, h2, h3, h4, h5, h6⟩⟩
  all_goals
    first
    | have hlast : decide (xd - xs < xl) = true := decide_eq_true (by omega)
    | have hlast : decide (xd - xs < xl) = false := decide_eq_false (by omega)
    | skip
  all_goals
    go_enter Tryd.func88, Tryd.ntmps88
    go_wp2
    go_ret
    exact ⟨rfl, (Below.refl _ _).alloc (Nat.le_refl _) _⟩

/-- The test for a window that has an offset in common. -/
def fM (a : Nat) : Value := .func (.func 100) #[] #[.pointer (some ⟨a, 0, none⟩)]

set_option maxHeartbeats 1000000 in
theorem meets1_any (a : Nat) (x o : Win) (w : World) (ha : Blk w a 71 (wdv x)) (hx : 0 ≤ x.s ∧ x.s ≤ 64 ∧ 0 ≤ x.l ∧ x.l ≤ 64) (ho : 0 ≤ o.s ∧ o.s ≤ 64 ∧ 0 ≤ o.l ∧ o.l ≤ 64) :
    Calls Tryd.prog 100 #[.agg #[.int .i64 o.p, .int .i64 o.s, .int .i64 o.l, .int .i64 o.d], .pointer (some ⟨a, 0, none⟩)] w fun e w' => e = .returned (.bool (metB x o)) ∧ Below w.heap.size w w' := by
  have hlt := ha.lt
  obtain ⟨c0, c1, c2, c3⟩ := four_at ha
  obtain ⟨x0, x1, x2, x3⟩ := hx
  obtain ⟨o0, o1, o2, o3⟩ := ho
  have hR : metB x o = decide (x.s < o.s + o.l ∧ o.s < x.s + x.l) := rfl
  generalize metB x o = R at hR ⊢
  obtain ⟨xp, xs, xl, xd⟩ := x
  obtain ⟨op, os, ol, od⟩ := o
  simp only at *
  clear ha
  by_cases h1 : xs < os + ol
  · by_cases h2 : os < xs + xl
    · have hR' : R = true := by rw [hR]; exact decide_eq_true ⟨h1, h2⟩
      subst hR'; clear hR
      have hlast : decide (os < xs + xl) = true := decide_eq_true h2
      go_enter Tryd.func100, Tryd.ntmps100
      go_wp2
      go_ret
      exact ⟨rfl, (Below.refl _ _).alloc (Nat.le_refl _) _⟩
    · have hR' : R = false := by rw [hR]; exact decide_eq_false (fun h => h2 h.2)
      subst hR'; clear hR
      have hlast : decide (os < xs + xl) = false := decide_eq_false h2
      go_enter Tryd.func100, Tryd.ntmps100
      go_wp2
      go_ret
      exact ⟨rfl, (Below.refl _ _).alloc (Nat.le_refl _) _⟩
  · have hR' : R = false := by rw [hR]; exact decide_eq_false (fun h => h1 h.1)
    subst hR'; clear hR
    go_enter Tryd.func100, Tryd.ntmps100
    go_wp2
    go_ret
    exact ⟨rfl, (Below.refl _ _).alloc (Nat.le_refl _) _⟩

/-- Where the first one stands that is so; -1: there is none. -/
def idxW (f : Win → Bool) (l : List Win) : Int := match l.findIdx? f with
  | some i => i
  | none => -1
theorem idxW_found (f : Win → Bool) (l : List Win) (k : Nat) (hk : k < l.length) (h : f l[k] = true) (hall : ∀ j (hj : j < k) (hj' : j < l.length), f l[j] = false) : idxW f l = k ∧ l.any f = true := by
  refine ⟨?_, List.any_eq_true.2 ⟨_, List.getElem_mem hk, h⟩⟩
  unfold idxW
  rw [List.findIdx?_eq_some_iff_getElem.2 ⟨hk, h, fun j hj => by simp [hall j hj (by omega)]⟩]
theorem idxW_none (f : Win → Bool) (l : List Win) (hall : ∀ j (hj : j < l.length), f l[j] = false) : idxW f l = -1 ∧ l.any f = false := by
  have h : ∀ x ∈ l, f x = false := fun x hx => by obtain ⟨j, hj, rfl⟩ := List.getElem_of_mem hx; exact hall j hj
  refine ⟨?_, List.any_eq_false.2 (fun x hx => by simp [h x hx])⟩
  unfold idxW
  rw [List.findIdx?_eq_none_iff.2 (fun x hx => by simp [h x hx])]
theorem idxW_any (f : Win → Bool) (l : List Win) : -1 ≤ idxW f l ∧ (l.any f = true ∧ 0 ≤ idxW f l ∨ l.any f = false ∧ idxW f l < 0) := by
  cases h : l.findIdx? f with
  | some i =>
    obtain ⟨hi, hf, _⟩ := List.findIdx?_eq_some_iff_getElem.1 h
    have : idxW f l = i := by unfold idxW; rw [h]
    exact ⟨by omega, .inl ⟨List.any_eq_true.2 ⟨_, List.getElem_mem hi, hf⟩, by omega⟩⟩
  | none =>
    have : idxW f l = -1 := by unfold idxW; rw [h]
    rw [List.findIdx?_eq_none_iff] at h
    exact ⟨by omega, .inr ⟨List.any_eq_false.2 (fun x hx => by simp [h x hx]), by omega⟩⟩

set_option maxHeartbeats 1000000 in
theorem wifn_any (A : Option Addr) (n cap : Nat) (l : List Win) (a : Nat) (x : Win) (w : World) (hs : Sl w (.slice A n cap) n 4 (ints (wins l))) (hn : n ≤ maxLen) (hl : l.length = n) (ha : Blk w a 71 (wdv x))
    (hx : 0 ≤ x.s ∧ x.s ≤ 64 ∧ 0 ≤ x.l ∧ x.l ≤ 64) (ho : ∀ o ∈ l, 0 ≤ o.s ∧ o.s ≤ 64 ∧ 0 ≤ o.l ∧ o.l ≤ 64) :
    Calls Tryd.prog 103 #[.slice A n cap, fM a] w fun e w' => e = .returned (.int .i64 (idxW (metB x) l)) ∧ Below w.heap.size w w' := by
  have HS := Lib.hid hs; have HL := Lib.hid hl; have HA := Lib.hid ha; have HX := Lib.hid hx; have HO := Lib.hid ho
  unfold maxLen at hn
  clear hs hl ha hx ho
  unfold fM
  go_enter Tryd.func103, Tryd.ntmps103
  go_wp2_with fail
  go_loopw [8] (fun i wr => ∃ (k : Nat), k ≤ n ∧ i = .int .i64 k ∧ (∀ j (hj : j < k) (hj' : j < l.length), metB x l[j] = false) ∧ Below w.heap.size w wr) (fun i _ => n - (intOf i).toNat)
  case atStart => exact ⟨0, by omega, rfl, fun j hj => by omega, Below.refl _ _⟩
  case round =>
    obtain ⟨k, hk, rfl, hall, hbel⟩ := hrel
    have hsz := hbel.size
    have HALL := Lib.hid hall; clear hall
    by_cases hlt : k < n
    · have hkl : k < l.length := by rw [HL.out]; exact hlt
      obtain ⟨b, o, rfl, hb, c0, c1, c2, c3⟩ := wd_at (HS.out.below hbel) HL.out k hkl
      have hoy := HO.out l[k] (List.getElem_mem hkl)
      have HOY := Lib.hid hoy; clear hoy
      generalize hy : l[k] = y at *
      have HY := Lib.hid hy; clear hy
      go_wp2_with fail
      refine (meets1_any _ x y _ (HA.out.below hbel HA.out.lt) HX.out HOY.out).mono ?_
      rintro e w1 ⟨rfl, b1⟩
      have bel1 := Below.down hbel b1 hsz
      clear c0 c1 c2 c3 b1 hbel
      cases hf : metB x y with
      | true =>
        have HF := Lib.hid hf; clear hf
        go_wp2_with fail
        go_ret
        exact ⟨by rw [(idxW_found _ l k hkl (by rw [HY.out]; exact HF.out) (fun j hj => HALL.out j hj)).1]; rfl, bel1⟩
      | false =>
        have HF := Lib.hid hf; clear hf
        go_wp2_with fail
        go_roundw
        case rel => exact ⟨k + 1, by omega, by go_num, fun j hj hj' => by
          by_cases e : j = k
          · subst e; rw [HY.out]; exact HF.out
          · exact HALL.out j (by omega) hj', bel1⟩
        case measure => simp [intOf]; omega
    · go_wp2_with fail
      go_ret
      exact ⟨by rw [(idxW_none _ l (fun j hj => HALL.out j (by have := HL.out; omega) hj)).1]; rfl, hbel⟩

theorem wcfn_any (A : Option Addr) (n cap : Nat) (l : List Win) (a : Nat) (x : Win) (w : World) (hs : Sl w (.slice A n cap) n 4 (ints (wins l))) (hn : n ≤ maxLen) (hl : l.length = n) (ha : Blk w a 71 (wdv x))
    (hx : 0 ≤ x.s ∧ x.s ≤ 64 ∧ 0 ≤ x.l ∧ x.l ≤ 64) (ho : ∀ o ∈ l, 0 ≤ o.s ∧ o.s ≤ 64 ∧ 0 ≤ o.l ∧ o.l ≤ 64) :
    Calls Tryd.prog 99 #[.slice A n cap, fM a] w fun e w' => e = .returned (.bool (l.any (metB x))) ∧ Below w.heap.size w w' := by
  have hI := idxW_any (metB x) l
  have HC := Lib.hid (fun (w : World) (h : Sl w (.slice A n cap) n 4 (ints (wins l))) (h2 : Blk w a 71 (wdv x)) => wifn_any A n cap l a x w h hn hl h2 hx ho)
  have HS := Lib.hid hs; have HA := Lib.hid ha
  unfold fM at *
  generalize idxW (metB x) l = I at *
  generalize l.any (metB x) = R at *
  obtain ⟨i0, hI⟩ := hI
  clear hs ha hx ho hl
  rcases hI with ⟨rfl, hI⟩ | ⟨rfl, hI⟩
  all_goals
    go_enter Tryd.func99, Tryd.ntmps99
    go_wp2_with fail
    refine (HC.out _ HS.out HA.out).mono ?_
    rintro e w1 ⟨rfl, b1⟩
    first
    | have hlast : decide (I ≥ 0) = true := decide_eq_true (by omega)
    | have hlast : decide (I ≥ 0) = false := decide_eq_false (by omega)
    go_wp2_with fail
    go_ret
    exact ⟨rfl, b1⟩

theorem pmeets_any (A : Option Addr) (n cap : Nat) (l : List Win) (x : Win) (w : World) (hs : Sl w (.slice A n cap) n 4 (ints (wins l))) (hn : n ≤ maxLen) (hl : l.length = n)
    (hx : 0 ≤ x.s ∧ x.s ≤ 64 ∧ 0 ≤ x.l ∧ x.l ≤ 64) (ho : ∀ o ∈ l, 0 ≤ o.s ∧ o.s ≤ 64 ∧ 0 ≤ o.l ∧ o.l ≤ 64) :
    Calls Tryd.prog 89 #[.agg #[.int .i64 x.p, .int .i64 x.s, .int .i64 x.l, .int .i64 x.d], .slice A n cap] w fun e w' => e = .returned (.bool (l.any (metB x))) ∧ Below w.heap.size w w' := by
  have hb : Blk (w.alloc (.cells (wdv x).toArray 71)) w.heap.size 71 (wdv x) := Blk.new _ _ _
  have hA : Below w.heap.size w (w.alloc (.cells (wdv x).toArray 71)) := (Below.refl _ _).alloc (Nat.le_refl _) _
  have HC := Lib.hid (wcfn_any A n cap l w.heap.size x _ (hs.below hA) hn hl hb hx ho)
  have HA := Lib.hid hA
  clear hs hb hA hx ho hl
  go_enter Tryd.func89, Tryd.ntmps89
  go_wp2_with fail
  refine HC.out.mono ?_
  rintro e w1 ⟨rfl, b1⟩
  go_wp2_with fail
  go_ret
  exact ⟨rfl, Below.down HA.out b1 HA.out.size⟩

end Go.Proofs.YtobpggpjboonfaaDoor
