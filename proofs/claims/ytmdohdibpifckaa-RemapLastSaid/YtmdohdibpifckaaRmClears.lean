/-
  Layer 11's law RemapClears: it answers true for every input.
-/
import Derived.Test.YtmdohdibpifckaaRmForms
import Derived.Test.YtmdohdibpifckaaArgs
namespace Go.Proofs.Ytmdohdibpifckaa
open Go.RowKit
set_option linter.unusedVariables false
set_option maxRecDepth 100000

/-- The k-th number of a slice of ints. -/
theorem rec1r {w : World} {A : Option Addr} {n c : Nat} {zs : List Int} (h : Sl w (.slice A n c) n 1 (ints zs)) (k : Nat) (hk : k < n) :
    ∃ b o, A = some ⟨b, o, none⟩ ∧ b < w.heap.size ∧ w.cell? ⟨b, o + k, none⟩ = some (.int .i64 (zs.getD k 0)) := by
  obtain ⟨A', c', e, _, hl, hA⟩ := h
  simp only [Value.slice.injEq] at e
  obtain ⟨rfl, _, rfl⟩ := e
  obtain ⟨b, o, rfl, hb, hc⟩ := hA (by omega)
  rw [ints_len] at hl
  exact ⟨b, o, rfl, hb, hc _ _ (ints_get zs _ (by omega))⟩

theorem getD_setR (T : List Ro) (i j : Nat) (x : Ro) (hj : j < T.length) : (T.set j x).getD i ro0 = if i = j then x else T.getD i ro0 := by
  simp only [List.getD_eq_getElem?_getD, List.getElem?_set]
  by_cases h : i = j
  · subst h; simp [hj]
  · rw [if_neg (fun e => h e.symm), if_neg h]
theorem listR_ext (T U : List Ro) (hl : T.length = U.length) (h : ∀ i, i < T.length → T.getD i ro0 = U.getD i ro0) : T = U := by
  apply List.ext_getElem hl
  intro i h1 h2
  have := h i h1
  simpa [List.getD_eq_getElem?_getD, List.getElem?_eq_getElem h1, List.getElem?_eq_getElem h2] using this

/-- A vector set and then masked, or not. -/
theorem set_mask (D : Nat) (T : List Ro) (k v : Nat) (p : Int) (m : Bool) (hD : D ≤ 4) (hk : k < D) (hv : v < 8) (hp0 : 0 ≤ p) (hp1 : p < 4) (hl : T.length = 32) :
    rsB D k v p = true ∧ rsT D T k v p = T.set (k * 8 + v) ⟨true, p, false⟩ ∧ reC D (T.set (k * 8 + v) ⟨true, p, false⟩) k v = 0 ∧ rmT D (T.set (k * 8 + v) ⟨true, p, false⟩) k v m = T.set (k * 8 + v) ⟨true, p, m⟩ := by
  have hin : inR D k v = true := (inR_iff D k v).2 ⟨k, v, rfl, rfl, hk, hv⟩
  have hix : ixR k v = k * 8 + v := by simp [ixR]
  have hs : rsB D k v p = true := by simp only [rsB, Bool.and_eq_true, decide_eq_true_eq]; exact ⟨hin, hp0, hp1⟩
  have ha : atR (T.set (k * 8 + v) ⟨true, p, false⟩) k v = ⟨true, p, false⟩ := by unfold atR; rw [hix, getD_setR _ _ _ _ (by omega), if_pos rfl]
  have hc : reC D (T.set (k * 8 + v) ⟨true, p, false⟩) k v = 0 := by simp [reC, hin, ha]
  refine ⟨hs, by simp [rsT, hs, hix], hc, ?_⟩
  unfold rmT
  rw [if_pos hc, ha, hix, List.set_set]

/-- Two tables: the second has all of the first but device d's. -/
def HalfR (d : Nat) (T U : List Ro) : Prop := ∀ i, i < 32 → U.getD i ro0 = if i / 8 = d then ro0 else T.getD i ro0
theorem HalfR.start (d : Nat) : HalfR d newT newT := by
  intro i hi
  have : newT.getD i ro0 = ro0 := by
    unfold newT
    simp only [List.getD_eq_getElem?_getD, List.getElem?_replicate]
    split <;> rfl
  rw [this]; split <;> rfl
theorem HalfR.mine {d : Nat} {T U : List Ro} (h : HalfR d T U) (v : Nat) (x : Ro) (hv : v < 8) (hT : T.length = 32) (hd : d < 4) : HalfR d (T.set (d * 8 + v) x) U := by
  intro i hi
  rw [h i hi, getD_setR _ _ _ _ (by omega)]
  by_cases e : i / 8 = d
  · rw [if_pos e, if_pos e]
  · rw [if_neg e, if_neg e, if_neg (by omega)]
theorem HalfR.other {d : Nat} {T U : List Ro} (h : HalfR d T U) (k v : Nat) (x : Ro) (hv : v < 8) (hT : T.length = 32) (hU : U.length = 32) (hk : k < 4) (hne : k ≠ d) : HalfR d (T.set (k * 8 + v) x) (U.set (k * 8 + v) x) := by
  intro i hi
  rw [getD_setR _ _ _ _ (by omega), getD_setR _ _ _ _ (by omega), h i hi]
  by_cases e : i = k * 8 + v
  · rw [if_pos e, if_pos e, if_neg (by omega)]
  · rw [if_neg e, if_neg e]
theorem HalfR.clear {d : Nat} {T U : List Ro} (h : HalfR d T U) (hT : T.length = 32) (hU : U.length = 32) (hd : d < 4) : clrT T d = U := by
  refine listR_ext _ _ (by rw [clrT_len T d (by omega), hT, hU]) (fun i hi => ?_)
  rw [clrT_len T d (by omega)] at hi
  rw [clrT_get T d i (by omega), h i (by omega)]
  by_cases e : i / 8 = d
  · rw [if_pos (by omega), if_pos e]
  · rw [if_neg (by omega), if_neg e]
theorem HalfR.none {d : Nat} {T U : List Ro} (h : HalfR d T U) (D v : Nat) (hd : d < D) (hD : D ≤ 4) (hv : v < 8) : reC D U d v = 1101 := by
  have hin : inR D d v = true := (inR_iff D d v).2 ⟨d, v, rfl, rfl, hd, hv⟩
  have ha : atR U d v = ro0 := by
    unfold atR
    rw [show ixR d v = d * 8 + v by simp [ixR], h _ (by omega), if_pos (by omega)]
  simp [reC, hin, ha, ro0]

/-- Two tables of the law's own. -/
structure Rt2 (W : World) (g h D : Nat) (T U : List Ro) (w : World) : Prop where
  t : PR w g D T
  u : PR w h D U
  b : Below W.heap.size W w
  hg : W.heap.size ≤ g
  hh : W.heap.size ≤ h
  ne : g ≠ h

section
variable {W w w' : World} {g h D : Nat} {T U T' U' : List Ro}
theorem Rt2.putT (s : Rt2 W g h D T U w) (t : PR w' g D T') (gr : w.grownBy w' (some g)) : Rt2 W g h D T' U w' :=
  ⟨t, s.u.grown gr (by intro e; injection e with e; exact s.ne e.symm), bone s.b gr s.b.size s.hg, s.hg, s.hh, s.ne⟩
theorem Rt2.putU (s : Rt2 W g h D T U w) (u : PR w' h D U') (gr : w.grownBy w' (some h)) : Rt2 W g h D T U' w' :=
  ⟨s.t.grown gr (by intro e; injection e with e; exact s.ne e), u, bone s.b gr s.b.size s.hh, s.hg, s.hh, s.ne⟩
theorem Rt2.drewN (s : Rt2 W g h D T U w) (n : Nat) : Rt2 W g h D T U (w.drewN n) := ⟨s.t.drewN n, s.u.drewN n, bdrewN s.b n, s.hg, s.hh, s.ne⟩
end

set_option maxHeartbeats 8000000 in
theorem law_RemapClears (v : Value) (n : Nat) (zs : List Int) (a : Int) (w : World) (hv : Sl w v n 1 (ints zs)) (hn : n ≤ maxLen) (w1 : (Lit.int .i64 a).wf = true) :
    Calls Try.prog 6 #[v, .int .i64 a] w fun e w' => e = .returned (.bool true) ∧ Below w.heap.size w w' := by
  obtain ⟨A, cap, rfl⟩ : ∃ A cap, v = .slice A n cap := by obtain ⟨A, c, e, _⟩ := hv; exact ⟨A, c, e⟩
  unfold maxLen at hn
  have HV := Lib.hid hv; clear hv
  have hU := u64b a
  generalize hU' : IntKind.u64.wrap a = U at hU
  obtain ⟨hU0, hU1⟩ := hU
  have hI0 : 0 ≤ U % 3 := by omega
  have hI1 : U % 3 < 3 := by omega
  generalize hI' : U % 3 = I at hI0 hI1
  obtain ⟨d, rfl⟩ := Int.eq_ofNat_of_zero_le hI0
  have hd3 : d < 3 := by omega
  clear w1
  go_enter Try.func6, Try.ntmps6
  go_wp2_with fail
  refine (rmawake_any _).mono ?_
  rintro e wa ⟨rfl, ba⟩
  have hsa := ba.size
  go_wp2_with fail
  refine (pmnew 3 _ (by omega) (by omega)).mono ?_
  rintro e wb ⟨rfl, t1, b1⟩
  have bb := Below.down ba b1 hsa
  have hsb := bb.size
  have hgl := t1.lt
  generalize wa.heap.size = g at *
  clear ba b1
  go_wp2_with fail
  refine (pmnew 3 _ (by omega) (by omega)).mono ?_
  rintro e wc ⟨rfl, t2, b2⟩
  have bc := Below.down bb b2 hsb
  have t1 := t1.below b2 hgl
  rw [show (3 : Int).toNat = 3 from rfl] at t1 t2
  have s0 : Rt2 w g wb.heap.size 3 newT newT wc := ⟨t1, t2, bc, by omega, by omega, by omega⟩
  generalize wb.heap.size = h at *
  clear t1 t2 b2 bc bb hgl hsb
  go_wp2_with (go_at_call 9; refine (num_any _ _).mono ?_; rintro e w' ⟨rfl, rfl⟩)
  clear hU' hI'
  go_loopw [10] (fun i wq => ∃ (k : Nat) (T U : List Ro), k ≤ n ∧ i = .int .i64 k ∧ Rt2 w g h 3 T U wq ∧ HalfR d T U) (fun i _ => n - (intOf i).toNat)
  case atStart => exact ⟨0, _, _, by omega, rfl, s0, HalfR.start d⟩
  case round =>
    clear s0
    obtain ⟨k, T, V, hk, rfl, s, hH⟩ := hrel
    have HH := Lib.hid hH; clear hH
    by_cases hgo : k < n ∧ k < 30
    · obtain ⟨hkn, hk30⟩ := hgo
      have hd' : decide ((k : Int) < 30) = true := by simp; omega
      obtain ⟨b, o, rfl, hblt, c0⟩ := rec1r HV.out k hkn
      have C0 := Lib.hid c0
      replace c0 := (s.b.cell (p := ⟨b, o + k, none⟩) hblt).trans c0
      generalize zs.getD k 0 = z at c0 C0
      have hX := band z 1023 (by omega) (by omega)
      have hP := band (z / 4) 7 (by omega) (by omega)
      have hR := band (z / 32) 3 (by omega) (by omega)
      have hQ := band (z / 128) 1 (by omega) (by omega)
      generalize hX' : bits BinOp.and IntKind.i64 z 1023 = X at hX
      generalize hP' : bits BinOp.and IntKind.i64 (z / 4) 7 = P at hP
      generalize hR' : bits BinOp.and IntKind.i64 (z / 32) 3 = R at hR
      generalize hQ' : bits BinOp.and IntKind.i64 (z / 128) 1 = Q at hQ
      obtain ⟨hX0, hX1⟩ := hX
      obtain ⟨hP0, hP1⟩ := hP
      obtain ⟨hR0, hR1⟩ := hR
      obtain ⟨hQ0, hQ1⟩ := hQ
      obtain ⟨P, rfl⟩ := Int.eq_ofNat_of_zero_le hP0
      have hK0 : 0 ≤ X % 3 := by omega
      have hK1 : X % 3 < 3 := by omega
      generalize hK' : X % 3 = K at hK0 hK1
      obtain ⟨K, rfl⟩ := Int.eq_ofNat_of_zero_le hK0
      have hK3 : K < 3 := by omega
      have hP8 : P < 8 := by omega
      obtain ⟨e1, e2, e3, e4⟩ := set_mask 3 T K P R (Q == 1) (by omega) hK3 hP8 hR0 (by omega) s.t.len
      obtain ⟨_, e5, e6, e7⟩ := set_mask 3 V K P R (Q == 1) (by omega) hK3 hP8 hR0 (by omega) s.u.len
      have E1 := Lib.hid e2; have E2 := Lib.hid e3; have E3 := Lib.hid e4; have E4 := Lib.hid e5; have E5 := Lib.hid e6; have E6 := Lib.hid e7
      have E0 := Lib.hid (show rsC 3 K P R = 0 by simp [rsC, e1])
      clear e1 e2 e3 e4 e5 e6 e7
      go_wp2_with fail
      go_quiet (fail)
      replace s := s.drewN nq
      have hblt' := hblt
      clear c0
      generalize wr.drewN nq = wr1 at *
      go_wp2_with fail
      refine (pmset_is g 3 T _ K P R 0 _ s.t E1.out E0.out).mono ?_
      rintro e w2 ⟨rfl, t2, g2⟩
      replace s := s.putT t2 g2
      clear t2 g2
      have c0 := (s.b.cell (p := ⟨b, o + k, none⟩) hblt).trans C0.out
      go_wp2_with fail
      refine (pmmask_is g 3 _ _ K P 0 (Q == 1) _ s.t E3.out E2.out).mono ?_
      rintro e w3 ⟨rfl, t3, g3⟩
      replace s := s.putT t3 g3
      clear t3 g3 c0
      by_cases hKd : K = d
      · have HN := Lib.hid (by rw [hKd]; exact HH.out.mine P ⟨true, R, Q == 1⟩ hP8 (by have := s.t.len; simpa using this) (by omega) : HalfR d (T.set (K * 8 + P) ⟨true, R, Q == 1⟩) V)
        subst hKd
        go_wp2_with fail
        go_roundw
        case rel => exact ⟨k + 1, _, _, by omega, by go_num, s, HN.out⟩
        case measure => simp [intOf]; omega
      · have HN := Lib.hid (HH.out.other K P ⟨true, R, Q == 1⟩ hP8 (by have := s.t.len; simpa using this) s.u.len (by omega) hKd)
        have hne : ((K : Int) == (d : Int)) = false := by simp; omega
        go_wp2_with fail
        refine (pmset_is h 3 V _ K P R 0 _ s.u E4.out E0.out).mono ?_
        rintro e w4 ⟨rfl, t4, g4⟩
        replace s := s.putU t4 g4
        clear t4 g4
        have c0 := (s.b.cell (p := ⟨b, o + k, none⟩) hblt).trans C0.out
        go_wp2_with fail
        refine (pmmask_is h 3 _ _ K P 0 (Q == 1) _ s.u E6.out E5.out).mono ?_
        rintro e w5 ⟨rfl, t5, g5⟩
        replace s := s.putU t5 g5
        clear t5 g5 c0
        go_wp2_with fail
        go_roundw
        case rel => exact ⟨k + 1, _, _, by omega, by go_num, s, HN.out⟩
        case measure => simp [intOf]; omega
    · have hend : (k : Int) < n → decide ((k : Int) < 30) = false := by intro h; simp; omega
      have hrc : rcB 3 d = true := decide_eq_true (by omega)
      have E0 := Lib.hid (show rcC 3 d = 0 by unfold rcC; rw [if_pos hrc])
      have E1 := Lib.hid (show rcT 3 T d = V by
        unfold rcT
        rw [if_pos hrc, Int.toNat_natCast]
        exact HH.out.clear s.t.len s.u.len (by omega))
      clear hrc
      by_cases hkn : (k : Int) < n
      all_goals
        try have hend' := hend hkn
        clear hend hgo
        go_wp2_with fail
        refine (pmclear_is g 3 T V d 0 _ s.t E1.out E0.out).mono ?_
        rintro e w2 ⟨rfl, t2, g2⟩
        replace s := s.putT t2 g2
        clear t2 g2
        go_wp2_with fail
        go_loopw [15] (fun i wq => ∃ (x : Nat), x ≤ 3 ∧ i = .int .i64 x ∧ Rt2 w g h 3 V V wq) (fun i _ => 3 - (intOf i).toNat)
        case atStart => exact ⟨0, by omega, rfl, s⟩
        case round =>
          clear s
          obtain ⟨x, hx, rfl, s⟩ := hrel
          by_cases hx3 : x < 3
          · have hx3' : (x : Int) < 3 := by omega
            go_wp2_with fail
            go_loopw [16] (fun i wq => ∃ (y : Nat), y ≤ 8 ∧ i = .int .i64 y ∧ Rt2 w g h 3 V V wq) (fun i _ => 8 - (intOf i).toNat)
            case atStart => exact ⟨0, by omega, rfl, s⟩
            case round =>
              clear s
              obtain ⟨y, hy, rfl, s⟩ := hrel
              by_cases hy8 : y < 8
              · have hy8' : (y : Int) < 8 := by omega
                go_wp2_with fail
                refine (pmlook_any g 3 V x y _ s.t).mono ?_
                rintro e w' ⟨rfl, q, rfl⟩
                replace s := s.drewN q
                generalize World.drewN _ q = wz at *
                go_wp2_with fail
                refine (pmlook_any h 3 V x y _ s.u).mono ?_
                rintro e w' ⟨rfl, q', rfl⟩
                replace s := s.drewN q'
                generalize World.drewN _ q' = wz at *
                by_cases hxd : x = d
                · subst hxd
                  have HC := Lib.hid (HH.out.none 3 y hd3 (by omega) (by omega))
                  rw [HC.out]
                  generalize rlP 3 V x y = lp
                  generalize rlM 3 V x y = lm
                  go_wp2_with (go_at_call 9; refine (num_any _ _).mono ?_; rintro e w' ⟨rfl, rfl⟩)
                  go_roundw
                  case rel => exact ⟨y + 1, by omega, by go_num, s⟩
                  case measure => simp [intOf]; omega
                · have hne : ((x : Int) == (d : Int)) = false := by simp; omega
                  generalize rlP 3 V x y = lp
                  generalize rlM 3 V x y = lm
                  generalize reC 3 V x y = lc
                  go_wp2_with (go_at_call 9; refine (num_any _ _).mono ?_; rintro e w' ⟨rfl, rfl⟩)
                  go_roundw
                  case rel => exact ⟨y + 1, by omega, by go_num, s⟩
                  case measure => simp [intOf]; omega
              · go_wp2_with fail
                go_roundw
                case rel => exact ⟨x + 1, by omega, by go_num, s⟩
                case measure => simp [intOf]; omega
          · go_wp2_with fail
            refine (num_any _ _).mono ?_
            rintro e w' ⟨rfl, rfl⟩
            go_wp2_with fail
            go_ret
            exact ⟨rfl, s.b⟩

end Go.Proofs.Ytmdohdibpifckaa
