/-
  Contracts of package irq: hasPart, told, New; vectors with either of its two closures.
-/
import Derived.Test.YtjmdgjpepogogaaIr0
namespace Go.Proofs.Ytjmdgjpepogogaa
open Go.RowKit Go.ChangeMaps
set_option linter.unusedVariables false
set_option maxRecDepth 100000

theorem uhas_any (u n : Nat) (a b : Value) (p : Int) (w : World) (h : Blk w u 60 [.int .i64 n, a, b]) :
    Calls Try.prog 36 #[.pointer (some ⟨u, 0, none⟩), .int .i64 p] w fun e w' => e = .returned (.bool (hP n p)) ∧ w = w' := by
  have c0 := h.cell 0
  simp only [List.getElem?_cons_zero] at c0
  have hl := h.lt
  clear h
  by_cases h1 : 0 ≤ p
  · by_cases h2 : p < n
    · rw [show hP n p = true by unfold hP; simp; omega]
      go_enter Try.func36, Try.ntmps36
      go_wp2_with fail
      go_ret
      exact ⟨rfl, rfl⟩
    · rw [show hP n p = false by unfold hP; simp; omega]
      have h2' : decide (p < (n : Int)) = false := by simp; omega
      clear h2
      go_enter Try.func36, Try.ntmps36
      go_wp2_with fail
      go_ret
      exact ⟨rfl, rfl⟩
  · rw [show hP n p = false by unfold hP; simp; omega]
    have h1' : p < 0 := by omega
    clear h1
    go_enter Try.func36, Try.ntmps36
    go_wp2_with fail
    go_ret
    exact ⟨rfl, rfl⟩

theorem told_any (e0 : Int) (w : World) :
    Calls Try.prog 37 #[.int .i64 e0] w fun e w' => e = .returned (.int .i64 (toC e0)) ∧ w = w' := by
  by_cases h0 : e0 = 0
  · subst h0
    go_enter Try.func37, Try.ntmps37
    go_wp2_with fail
    go_ret
    exact ⟨rfl, rfl⟩
  · by_cases h1 : e0 = 1101
    · subst h1
      go_enter Try.func37, Try.ntmps37
      go_wp2_with fail
      go_ret
      exact ⟨rfl, rfl⟩
    · rw [show toC e0 = 1300 by unfold toC; rw [if_neg h0, if_neg h1]]
      have k0 : (e0 == 0) = false := by simpa using h0
      have k1 : (e0 == 1101) = false := by simpa using h1
      clear h0 h1
      go_enter Try.func37, Try.ntmps37
      go_wp2_with fail
      go_ret
      exact ⟨rfl, rfl⟩

theorem unew_no (d p : Int) (w : World) (h : ¬ ((1 ≤ d ∧ d ≤ 4) ∧ 1 ≤ p ∧ p ≤ 4)) :
    Calls Try.prog 8 #[.int .i64 d, .int .i64 p] w fun e w' => e = .returned (.tuple #[.pointer none, .int .i64 1300]) ∧ Below w.heap.size w w' := by
  by_cases h1 : 1 ≤ d ∧ d ≤ 4
  · have h2 : ¬ (1 ≤ p ∧ p ≤ 4) := fun e => h ⟨h1, e⟩
    obtain ⟨D, rfl⟩ : ∃ D : Nat, d = (D : Int) := ⟨d.toNat, by omega⟩
    have hD1 : 1 ≤ D := by omega
    have hD4 : D ≤ 4 := by omega
    have HH := Lib.hid h2
    clear h h1 h2
    go_enter Try.func8, Try.ntmps8
    go_wp2_with fail
    refine (pmnew_yes D w hD1 hD4).mono ?_
    rintro e w1 ⟨rfl, -, b1⟩
    have B1 := Lib.hid b1
    clear b1
    go_wp2_with fail
    refine (pnew_no p w1 HH.out).mono ?_
    rintro e w' ⟨rfl, rfl⟩
    go_wp2_with fail
    go_ret2
    exact ⟨rfl, B1.out⟩
  · clear h
    have HH := Lib.hid h1
    clear h1
    go_enter Try.func8, Try.ntmps8
    go_wp2_with fail
    refine (pmnew_no d w HH.out).mono ?_
    rintro e w' ⟨rfl, rfl⟩
    go_wp2_with fail
    go_ret2
    exact ⟨rfl, Below.refl _ _⟩

/-- Nothing waits. -/
def noF : Nat → Bool := fun _ => false
theorem unew_yes (D n : Nat) (w : World) (hD1 : 1 ≤ D) (hD4 : D ≤ 4) (hn1 : 1 ≤ n) (hn4 : n ≤ 4) :
    Calls Try.prog 8 #[.int .i64 D, .int .i64 n] w fun e w' => ∃ u, e = .returned (.tuple #[.pointer (some ⟨u, 0, none⟩), .int .i64 0]) ∧ Tk nos w [obU u D n newT noF] w' := by
  go_enter Try.func8, Try.ntmps8
  go_wp2_with fail
  refine (pmnew_yes D w hD1 hD4).mono ?_
  rintro e w1 ⟨rfl, p1, b1⟩
  have t1 : Tk nos w [obPR w.heap.size D newT] w1 := (Tk.empty w).add (ps := [obPR w.heap.size D newT]) ⟨fun b => b = w.heap.size, obs_one.2 ⟨p1, fun _ => Iff.rfl⟩, fun k hk e => by omega, Fo.of b1 _⟩
  have T1 := Lib.hid t1
  clear t1 p1 b1
  go_wp2_with fail
  generalize w.heap.size = t at *
  refine (pnew_yes n w1 hn1 hn4).mono ?_
  rintro e w2 ⟨rfl, v, xs, O, nl⟩
  have t2 : Tk nos w [obPS w1.heap.size n noF, obPR t D newT] w2 := T1.out.add (ps := [obPS w1.heap.size n noF]) ⟨fun b => O b ≠ 0, obs_one.2 ⟨v, xs, O, nl.ps, fun _ => Iff.rfl⟩, fun k hk e => by have := nl.new k e; omega, Fo.of nl.below _⟩
  have T2 := Lib.hid t2
  clear t2 nl T1
  go_wp2_with fail
  generalize w1.heap.size = s at *
  go_ret2
  refine ⟨w2.heap.size, rfl, ?_⟩
  have t3 := T2.out.alloc 60 [.int .i64 n, .pointer (some ⟨t, 0, none⟩), .pointer (some ⟨s, 0, none⟩)]
  exact (t3.perm ((List.Perm.swap _ _ _).cons _)).wrap1 (fun q => ⟨(t, s), q⟩)

/-- The place is another one. -/
def othB (d v : Nat) : Nat → Bool := fun k => decide (k ≠ d * 8 + v)
theorem drop1_any (x y a b : Nat) (d v : Nat) (w : World) (ha : w.cell? ⟨a, 0, none⟩ = some (.int .i64 (d : Int))) (hb : w.cell? ⟨b, 0, none⟩ = some (.int .i64 (v : Int))) (hy : y < 8) (hv : v < 8) :
    Calls Try.prog 61 #[.int .i64 (x : Int), .int .i64 (y : Int), .pointer (some ⟨a, 0, none⟩), .pointer (some ⟨b, 0, none⟩)] w fun e w' => e = .returned (.bool (othB d v (x * 8 + y))) ∧ w = w' := by
  by_cases h1 : (x : Int) = d
  · have hxd : x = d := by omega
    subst hxd
    by_cases h2 : (y : Int) = v
    · have hyv : y = v := by omega
      subst hyv
      rw [show othB x y (x * 8 + y) = false by unfold othB; simp]
      clear h1 h2
      go_enter Try.func61, Try.ntmps61
      go_wp2_with fail
      go_ret
      exact ⟨rfl, rfl⟩
    · rw [show othB x v (x * 8 + y) = true by unfold othB; simp; omega]
      have k2 : ((y : Int) != (v : Int)) = true := by simpa using h2
      clear h1 h2
      go_enter Try.func61, Try.ntmps61
      go_wp2_with fail
      go_ret
      exact ⟨rfl, rfl⟩
  · rw [show othB d v (x * 8 + y) = true by unfold othB; simp; omega]
    have k1 : ((x : Int) != (d : Int)) = true := by simpa using h1
    clear h1
    go_enter Try.func61, Try.ntmps61
    go_wp2_with fail
    go_ret
    exact ⟨rfl, rfl⟩

theorem mask1_any (x y t D q : Nat) (T : List Ro) (w : World) (ht : PR w t D T) (hq : w.cell? ⟨q, 0, none⟩ = some (.func (.func 33) #[.pointer (some ⟨t, 0, none⟩)] #[])) (hy : y < 8) :
    Calls Try.prog 57 #[.int .i64 (x : Int), .int .i64 (y : Int), .pointer (some ⟨q, 0, none⟩)] w fun e w' => e = .returned (.bool (mB D T (x * 8 + y))) ∧ ∃ j, w' = w.drewN j := by
  have e : mB D T (x * 8 + y) = rlM D T x y := by unfold mB; rw [show (x * 8 + y) / 8 = x by omega, show (x * 8 + y) % 8 = y by omega]
  rw [e]
  have cL := pmlook_any t D T x y w ht
  generalize rlP D T x y = r1 at *
  generalize rlM D T x y = r2 at *
  generalize reC D T x y = r3 at *
  clear e ht
  go_enter Try.func57, Try.ntmps57
  go_wp2_with fail
  refine cL.mono ?_
  rintro e w' ⟨rfl, j, rfl⟩
  clear cL
  go_wp2_with fail
  go_ret
  exact ⟨rfl, j, rfl⟩

/-- The loop of vectors: the first k places told. -/
structure Vl (w : World) (P : Nat → Bool) (k : Nat) (u : Value) (wr : World) : Prop where
  row : wr.ownsRow w.heap.size 46 3 u (irN P k).length (iqs (irN P k))
  below : Below w.heap.size w wr
theorem Vl.skip {w wr : World} {P : Nat → Bool} {k : Nat} {u : Value} (h : Vl w P k u wr) (hk : P k = false) : Vl w P (k + 1) u wr := ⟨by rw [irN_no hk]; exact h.row, h.below⟩
theorem Vl.drewN {w wr : World} {P : Nat → Bool} {k : Nat} {u : Value} (h : Vl w P k u wr) (q : Nat) : Vl w P k u (wr.drewN q) := ⟨own_drewN h.row q, bdrewN h.below q⟩
theorem Vl.start (w : World) (P : Nat → Bool) : Vl w P 0 (.slice none 0 0) w := ⟨⟨rfl, .inl ⟨rfl, rfl⟩⟩, Below.refl _ _⟩

-- VEC: by genir1.py
set_option maxHeartbeats 2000000 in
/-- vectors of all places but one. -/
theorem vecD_any (a b d v : Nat) (w : World) (ha : Blk w a 3 [.int .i64 (d : Int)]) (hb : Blk w b 3 [.int .i64 (v : Int)]) (hv : v < 8) :
    Calls Try.prog 56 #[.func (.func 61) #[] #[.pointer (some ⟨a, 0, none⟩), .pointer (some ⟨b, 0, none⟩)]] w fun e w' => ∃ u, e = .returned u ∧ Vl w (othB d v) 32 u w' := by
  have HA := Lib.hid ha; have HB := Lib.hid hb
  obtain ⟨P, hP⟩ : ∃ P, othB d v = P := ⟨_, rfl⟩
  rw [hP]
  have HP_ := Lib.hid hP
  clear hP ha hb
  obtain ⟨i0, hi, hz0, hz1, hz2⟩ := info_parts infoIq
  have HI := Lib.hid hi; have HZ0 := Lib.hid hz0; have HZ1 := Lib.hid hz1; have HZ2 := Lib.hid hz2; clear hi hz0 hz1 hz2
  have V0 := Lib.hid (Vl.start w P)
  go_enter Try.func56, Try.ntmps56
  go_wp2_with fail
  go_loopw [3, 6] (fun u i wr => ∃ (x : Nat), x ≤ 4 ∧ i = .int .i64 x ∧ Hid (Vl w P (x * 8) u wr)) (fun _ i _ => 4 - (intOf i).toNat)
  case atStart => exact ⟨0, by omega, rfl, V0⟩
  case round =>
    clear V0
    obtain ⟨x, hx, rfl, HT⟩ := hrel
    by_cases hlt : x < 4
    · have hxI : (x : Int) < 4 := by omega
      go_wp2_with fail
      go_loopw [3, 9] (fun u i wr => ∃ (y : Nat), y ≤ 8 ∧ i = .int .i64 y ∧ Hid (Vl w P (x * 8 + y) u wr)) (fun _ i _ => 8 - (intOf i).toNat)
      case atStart => exact ⟨0, by omega, rfl, HT⟩
      case round =>
        clear HT
        obtain ⟨y, hy, rfl, HT⟩ := hrel
        by_cases hlty : y < 8
        · have hyI : (y : Int) < 8 := by omega
          have ca := (HA.out.below HT.out.below HA.out.lt).cell 0
          have cb := (HB.out.below HT.out.below HB.out.lt).cell 0
          simp only [List.getElem?_cons_zero] at ca cb
          have cC : Calls Try.prog 61 #[.int .i64 (x : Int), .int .i64 (y : Int), .pointer (some ⟨a, 0, none⟩), .pointer (some ⟨b, 0, none⟩)] wr fun e w' => e = .returned (.bool (P (x * 8 + y))) ∧ ∃ j, w' = wr.drewN j := (drop1_any x y a b d v wr ca cb hlty hv).mono (fun e w' ⟨h1, h2⟩ => ⟨by rw [h1, HP_.out], 0, h2 ▸ rfl⟩)
          clear ca cb
          cases hf : P (x * 8 + y) with
          | false =>
            rw [hf] at cC
            have T1 := Lib.hid (HT.out.skip hf)
            clear hf
            go_wp2_with fail
            refine cC.mono ?_
            rintro e w2 ⟨rfl, j, rfl⟩
            have T2 : Hid (Vl w P (x * 8 + (y + 1)) u3 (wr.drewN j)) := Lib.hid (T1.out.drewN j)
            clear cC
            go_wp2_with fail
            go_roundw
            case rel => exact ⟨y + 1, by omega, by go_num, T2⟩
            case measure => simp [intOf]; omega
          | true =>
            rw [hf] at cC
            have hl := plN_len P (x * 8 + y)
            rw [← irN_len] at hl
            have HL := Lib.hid (irN_yes (d := x) (v := y) (by omega) hf)
            obtain ⟨z, hz⟩ : ∃ z, (irN P (x * 8 + y)).length = z := ⟨_, rfl⟩
            have HZ := Lib.hid hz
            rw [hz] at hl
            clear hf hz
            go_wp2_with fail
            refine cC.mono ?_
            rintro e w2 ⟨rfl, j, rfl⟩
            clear cC
            have V2 := Lib.hid (HT.out.drewN j)
            generalize wr.drewN j = w2 at *
            have hbl : Below w2.heap.size w2 (w2.alloc (.cells #[.int .i64 0, .int .i64 (x : Int), .int .i64 (y : Int)] 46)) := (Below.refl _ _).alloc (Nat.le_refl _) _
            have BL := Lib.hid hbl
            have hsz := V2.out.below.size
            clear hbl
            go_wp2_with (at_builtin; refine wpList_append_lies _ rfl _ _ 36 rfl w.heap.size 46 i0 _ 3 24 Try.underlying36 HI.out HZ0.out HZ1.out HZ2.out rfl (by decide) u3 (irN P (x * 8 + y)).length (iqs (irN P (x * 8 + y))) rfl (own_below V2.out.row BL.out) ⟨w2.heap.size, 0, none⟩ 1 1 [.int .i64 0, .int .i64 (x : Int), .int .i64 (y : Int)] rfl rfl (row_new w2 [.int .i64 0, .int .i64 (x : Int), .int .i64 (y : Int)] 46) (iq_one _ _ _) (by omega) (by unfold maxLen; have := HZ.out; omega) (by have := HZ.out; omega) (by simp; omega) _ rfl ?_)
            intro gg cap6 w6 own6 gr6 hat6 hlt6
            have T1 : Hid (Vl w P (x * 8 + (y + 1)) (.slice (some ⟨gg, 0, none⟩) ((irN P (x * 8 + y)).length + 1) cap6) w6) := Lib.hid (by
              rw [show x * 8 + (y + 1) = x * 8 + y + 1 by omega]
              refine ⟨?_, below_one _ V2.out.row hsz V2.out.below gr6⟩
              rw [HL.out, iqs_append, List.length_append]
              exact own6)
            clear own6 gr6 hat6 hlt6
            go_wp2_with fail
            go_roundw
            case rel => exact ⟨y + 1, by omega, by go_num, T1⟩
            case measure => simp [intOf]; omega
        · have e : y = 8 := by omega
          subst e
          go_wp2_with fail
          go_roundw
          case rel => exact ⟨x + 1, by omega, by go_num, by rw [show (x + 1) * 8 = x * 8 + 8 by omega]; exact HT⟩
          case measure => simp [intOf]; omega
    · have e : x = 4 := by omega
      subst e
      go_wp2_with fail
      go_ret
      exact ⟨_, rfl, HT.out⟩

set_option maxHeartbeats 2000000 in
/-- vectors of all places that are masked. -/
theorem vecM_any (t D q : Nat) (T : List Ro) (w : World) (ht : PR w t D T) (hq : Blk w q 76 [.func (.func 33) #[.pointer (some ⟨t, 0, none⟩)] #[]]) :
    Calls Try.prog 56 #[.func (.func 57) #[] #[.pointer (some ⟨q, 0, none⟩)]] w fun e w' => ∃ u, e = .returned u ∧ Vl w (mB D T) 32 u w' := by
  have HA := Lib.hid ht; have HB := Lib.hid hq
  obtain ⟨P, hP⟩ : ∃ P, mB D T = P := ⟨_, rfl⟩
  rw [hP]
  have HP_ := Lib.hid hP
  clear hP ht hq
  obtain ⟨i0, hi, hz0, hz1, hz2⟩ := info_parts infoIq
  have HI := Lib.hid hi; have HZ0 := Lib.hid hz0; have HZ1 := Lib.hid hz1; have HZ2 := Lib.hid hz2; clear hi hz0 hz1 hz2
  have V0 := Lib.hid (Vl.start w P)
  go_enter Try.func56, Try.ntmps56
  go_wp2_with fail
  go_loopw [3, 6] (fun u i wr => ∃ (x : Nat), x ≤ 4 ∧ i = .int .i64 x ∧ Hid (Vl w P (x * 8) u wr)) (fun _ i _ => 4 - (intOf i).toNat)
  case atStart => exact ⟨0, by omega, rfl, V0⟩
  case round =>
    clear V0
    obtain ⟨x, hx, rfl, HT⟩ := hrel
    by_cases hlt : x < 4
    · have hxI : (x : Int) < 4 := by omega
      go_wp2_with fail
      go_loopw [3, 9] (fun u i wr => ∃ (y : Nat), y ≤ 8 ∧ i = .int .i64 y ∧ Hid (Vl w P (x * 8 + y) u wr)) (fun _ i _ => 8 - (intOf i).toNat)
      case atStart => exact ⟨0, by omega, rfl, HT⟩
      case round =>
        clear HT
        obtain ⟨y, hy, rfl, HT⟩ := hrel
        by_cases hlty : y < 8
        · have hyI : (y : Int) < 8 := by omega
          have ca := HA.out.below HT.out.below HA.out.lt
          have cb := (HB.out.below HT.out.below HB.out.lt).cell 0
          simp only [List.getElem?_cons_zero] at cb
          have cC : Calls Try.prog 57 #[.int .i64 (x : Int), .int .i64 (y : Int), .pointer (some ⟨q, 0, none⟩)] wr fun e w' => e = .returned (.bool (P (x * 8 + y))) ∧ ∃ j, w' = wr.drewN j := (mask1_any x y t D q T wr ca cb hlty).mono (fun e w' ⟨h1, h2⟩ => ⟨by rw [h1, HP_.out], h2⟩)
          clear ca cb
          cases hf : P (x * 8 + y) with
          | false =>
            rw [hf] at cC
            have T1 := Lib.hid (HT.out.skip hf)
            clear hf
            go_wp2_with fail
            refine cC.mono ?_
            rintro e w2 ⟨rfl, j, rfl⟩
            have T2 : Hid (Vl w P (x * 8 + (y + 1)) u3 (wr.drewN j)) := Lib.hid (T1.out.drewN j)
            clear cC
            go_wp2_with fail
            go_roundw
            case rel => exact ⟨y + 1, by omega, by go_num, T2⟩
            case measure => simp [intOf]; omega
          | true =>
            rw [hf] at cC
            have hl := plN_len P (x * 8 + y)
            rw [← irN_len] at hl
            have HL := Lib.hid (irN_yes (d := x) (v := y) (by omega) hf)
            obtain ⟨z, hz⟩ : ∃ z, (irN P (x * 8 + y)).length = z := ⟨_, rfl⟩
            have HZ := Lib.hid hz
            rw [hz] at hl
            clear hf hz
            go_wp2_with fail
            refine cC.mono ?_
            rintro e w2 ⟨rfl, j, rfl⟩
            clear cC
            have V2 := Lib.hid (HT.out.drewN j)
            generalize wr.drewN j = w2 at *
            have hbl : Below w2.heap.size w2 (w2.alloc (.cells #[.int .i64 0, .int .i64 (x : Int), .int .i64 (y : Int)] 46)) := (Below.refl _ _).alloc (Nat.le_refl _) _
            have BL := Lib.hid hbl
            have hsz := V2.out.below.size
            clear hbl
            go_wp2_with (at_builtin; refine wpList_append_lies _ rfl _ _ 36 rfl w.heap.size 46 i0 _ 3 24 Try.underlying36 HI.out HZ0.out HZ1.out HZ2.out rfl (by decide) u3 (irN P (x * 8 + y)).length (iqs (irN P (x * 8 + y))) rfl (own_below V2.out.row BL.out) ⟨w2.heap.size, 0, none⟩ 1 1 [.int .i64 0, .int .i64 (x : Int), .int .i64 (y : Int)] rfl rfl (row_new w2 [.int .i64 0, .int .i64 (x : Int), .int .i64 (y : Int)] 46) (iq_one _ _ _) (by omega) (by unfold maxLen; have := HZ.out; omega) (by have := HZ.out; omega) (by simp; omega) _ rfl ?_)
            intro gg cap6 w6 own6 gr6 hat6 hlt6
            have T1 : Hid (Vl w P (x * 8 + (y + 1)) (.slice (some ⟨gg, 0, none⟩) ((irN P (x * 8 + y)).length + 1) cap6) w6) := Lib.hid (by
              rw [show x * 8 + (y + 1) = x * 8 + y + 1 by omega]
              refine ⟨?_, below_one _ V2.out.row hsz V2.out.below gr6⟩
              rw [HL.out, iqs_append, List.length_append]
              exact own6)
            clear own6 gr6 hat6 hlt6
            go_wp2_with fail
            go_roundw
            case rel => exact ⟨y + 1, by omega, by go_num, T1⟩
            case measure => simp [intOf]; omega
        · have e : y = 8 := by omega
          subst e
          go_wp2_with fail
          go_roundw
          case rel => exact ⟨x + 1, by omega, by go_num, by rw [show (x + 1) * 8 = x * 8 + 8 by omega]; exact HT⟩
          case measure => simp [intOf]; omega
    · have e : x = 4 := by omega
      subst e
      go_wp2_with fail
      go_ret
      exact ⟨_, rfl, HT.out⟩
-- VEC END
/-- masked: those whose entries are masked. -/
theorem masked_any (t D : Nat) (T : List Ro) (w : World) (ht : PR w t D T) :
    Calls Try.prog 32 #[.func (.func 33) #[.pointer (some ⟨t, 0, none⟩)] #[]] w fun e w' => ∃ u, e = .returned u ∧ w'.ownsRow w.heap.size 46 3 u (irN (mB D T) 32).length (iqs (irN (mB D T) 32)) ∧ Below w.heap.size w w' := by
  have b1 : Below w.heap.size w (w.alloc (.cells [Value.func (.func 33) #[.pointer (some ⟨t, 0, none⟩)] #[]].toArray 76)) := (Below.refl _ _).alloc (Nat.le_refl _) _
  have k1 : Blk (w.alloc (.cells [Value.func (.func 33) #[.pointer (some ⟨t, 0, none⟩)] #[]].toArray 76)) w.heap.size 76 [Value.func (.func 33) #[.pointer (some ⟨t, 0, none⟩)] #[]] := Blk.new _ _ _
  have p1 := ht.below b1 ht.lt
  have B1 := Lib.hid b1
  have K1 := Lib.hid k1
  have P1 := Lib.hid p1
  clear b1 k1 p1 ht
  go_enter Try.func32, Try.ntmps32
  go_wp2_with fail
  change Calls _ _ _ (w.alloc (.cells [Value.func (.func 33) #[.pointer (some ⟨t, 0, none⟩)] #[]].toArray 76)) _
  generalize w.alloc (.cells [Value.func (.func 33) #[.pointer (some ⟨t, 0, none⟩)] #[]].toArray 76) = w1 at *
  generalize hg : w.heap.size = g at *
  refine (vecM_any t D g T w1 P1.out K1.out).mono ?_
  rintro e w2 ⟨u, rfl, v2⟩
  have V2 := Lib.hid v2
  clear v2
  go_wp2_with fail
  go_ret
  have hsz := B1.out.size
  rw [hg] at hsz ⊢
  exact ⟨_, rfl, own_base V2.out.row hsz, Below.down B1.out V2.out.below hsz⟩
end Go.Proofs.Ytjmdgjpepogogaa
