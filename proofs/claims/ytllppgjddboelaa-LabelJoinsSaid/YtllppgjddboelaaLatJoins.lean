/-
  Layer 9's law LabelJoins: it answers true for every input.
-/
import Derived.Test.YtllppgjddboelaaLatAwake
import Derived.Deep.DeepCutAuto
import Derived.Deep.CutBlock
import Derived.StillTailTactics
import Derived.BigRegion
namespace Go.Proofs.Ytllppgjddboelaa
open Go.RowKit
set_option linter.unusedVariables false
set_option maxRecDepth 100000

/-- A number's label: its level, its categories. -/
def lv (z : Int) : Int := bits BinOp.and IntKind.i64 z 3
def ct (z : Int) : Int := bits BinOp.and IntKind.i64 (z / 4) 15
theorem lv_may (z : Int) : lB (lv z) (ct z) = true := by
  have a := band z 3 (by omega) (by omega)
  have b := band (z / 4) 15 (by omega) (by omega)
  exact lB_yes _ _ a.1 a.2 b.1 b.2
/-- The join of all of them. -/
def mxs : List Int → Int
  | [] => 0
  | z :: l => mxL (lv z) (mxs l)
def ors : List Int → Int
  | [] => 0
  | z :: l => orC (ct z) (ors l)
theorem all_may (l : List Int) : lB (mxs l) (ors l) = true := by
  induction l with
  | nil => rfl
  | cons z l ih => exact join_may _ _ _ _ (lv_may z) ih
theorem mxs_snoc (l : List Int) (z : Int) : mxs (l ++ [z]) = mxL (mxs l) (lv z) := by
  induction l with
  | nil => simp only [List.nil_append, mxs]; exact mxL_comm _ _
  | cons y l ih => simp only [List.cons_append, mxs]; rw [ih, mxL_assoc]
theorem ors_snoc (l : List Int) (z : Int) : ors (l ++ [z]) = orC (ors l) (ct z) := by
  induction l with
  | nil => simp only [List.nil_append, ors]; exact orC_comm _ _
  | cons y l ih => simp only [List.cons_append, ors]; rw [ih, orC_assoc]
theorem take_snoc (zs : List Int) (i : Nat) (h : i < zs.length) : zs.take (i + 1) = zs.take i ++ [zs.getD i 0] := by
  rw [List.take_add_one, List.getElem?_eq_getElem h]
  simp [List.getD, List.getElem?_eq_getElem h]
theorem drop_cons (zs : List Int) (i : Nat) (h : i < zs.length) : zs.drop i = zs.getD i 0 :: zs.drop (i + 1) := by
  rw [List.drop_eq_getElem_cons h]
  simp [List.getD, List.getElem?_eq_getElem h]
/-- What a round adds. -/
theorem up_next (zs : List Int) (i : Nat) (h : i < zs.length) : mxs (zs.take (i + 1)) = mxL (mxs (zs.take i)) (lv (zs.getD i 0)) ∧ ors (zs.take (i + 1)) = orC (ors (zs.take i)) (ct (zs.getD i 0)) := by
  rw [take_snoc zs i h]
  exact ⟨mxs_snoc _ _, ors_snoc _ _⟩
theorem down_next (zs : List Int) (k i q : Nat) (h : k ≤ zs.length) (hq : q + 1 + i = k) : mxs ((zs.take k).drop q) = mxL (lv (zs.getD q 0)) (mxs ((zs.take k).drop (q + 1))) ∧ ors ((zs.take k).drop q) = orC (ct (zs.getD q 0)) (ors ((zs.take k).drop (q + 1))) := by
  have hl : (zs.take k).length = k := by rw [List.length_take]; omega
  rw [drop_cons (zs.take k) q (by omega)]
  have : (zs.take k).getD q 0 = zs.getD q 0 := by
    simp only [List.getD, List.getElem?_take]
    rw [if_pos (by omega)]
  rw [this]
  exact ⟨rfl, rfl⟩

/-- The k-th number of a slice of ints. -/
theorem nth_at {w : World} {A : Option Addr} {n c : Nat} {zs : List Int} (h : Sl w (.slice A n c) n 1 (ints zs)) :
    zs.length = n ∧ ∀ k, k < n → ∃ b o, A = some ⟨b, o, none⟩ ∧ b < w.heap.size ∧ w.cell? ⟨b, o + k, none⟩ = some (.int .i64 (zs.getD k 0)) := by
  obtain ⟨A', c', e, _, hl, hA⟩ := h
  simp only [Value.slice.injEq] at e
  obtain ⟨rfl, _, rfl⟩ := e
  rw [ints_len] at hl
  refine ⟨by omega, fun k hk => ?_⟩
  obtain ⟨b, o, rfl, hb, hc⟩ := hA (by omega)
  exact ⟨b, o, rfl, hb, hc _ _ (ints_get zs _ (by omega))⟩

/-- The two joins, the program's blocks of which are g and g'. -/
def Jn (w : World) (g g' : Nat) (x y x' y' : Int) (w' : World) : Prop := g ≠ g' ∧ w.heap.size ≤ g ∧ w.heap.size ≤ g' ∧ Bks 23 w w' [(g', [.int .i64 x', .int .i64 y']), (g, [.int .i64 x, .int .i64 y])]

set_option maxHeartbeats 8000000 in
theorem law_LabelJoins (v : Value) (n : Nat) (zs : List Int) (w : World) (hv : Sl w v n 1 (ints zs)) (hn : n ≤ maxLen) :
    Calls Try.prog 6 #[v] w fun e w' => e = .returned (.bool true) ∧ Below w.heap.size w w' := by
  obtain ⟨A, cap, rfl⟩ : ∃ A cap, v = .slice A n cap := by obtain ⟨A, c, e, _⟩ := hv; exact ⟨A, c, e⟩
  unfold maxLen at hn
  obtain ⟨k, hk⟩ : ∃ k : Nat, (k = n ∧ n ≤ 20) ∨ (k = 20 ∧ 20 < n) := by
    by_cases h : n ≤ 20
    · exact ⟨n, .inl ⟨rfl, h⟩⟩
    · exact ⟨20, .inr ⟨rfl, by omega⟩⟩
  have hkn : k ≤ n := by omega
  have hk20 : k ≤ 20 := by omega
  have HV := Lib.hid hv; clear hv
  have HK := Lib.hid hk; clear hk
  go_enter Try.func6, Try.ntmps6
  go_wp2_with fail
  refine (lawake_any _).mono ?_
  rintro e wa ⟨rfl, ba⟩
  have s0 := (((Bks.start 23 w).next ba).push [.int .i64 0, .int .i64 0]).push [.int .i64 0, .int .i64 0]
  rw [World.size_alloc] at s0
  go_upto_region 5 with fail
  go_cut [7] (fun u7 wx => u7 = .int .i64 k ∧ Bks 23 w wx [(wa.heap.size + 1, [.int .i64 0, .int .i64 0]), (wa.heap.size, [.int .i64 0, .int .i64 0])])
  case first =>
    rcases HK.out with ⟨rfl, h2⟩ | ⟨rfl, h2⟩
    · have h3 : (k : Int) ≤ 20 := by omega
      clear HK
      go_wp2_with fail
      go_meet
      case rel => exact ⟨rfl, s0⟩
    · have h3 : (20 : Int) < n := by omega
      clear HK
      go_wp2_with fail
      go_meet
      case rel => exact ⟨rfl, s0⟩
  case rest =>
    clear s0 HK
    obtain ⟨rfl, s0⟩ := hcut
    have hst : Jn w wa.heap.size (wa.heap.size + 1) 0 0 0 0 wc := ⟨by omega, ba.size, Nat.le_succ_of_le ba.size, s0⟩
    clear s0
    generalize wa.heap.size + 1 = g' at *
    generalize wa.heap.size = g at *
    have hlen := (nth_at HV.out).1
    have HL := Lib.hid hlen
    have HA := Lib.hid (nth_at HV.out).2
    clear HV hlen ba
    go_wp2_with fail
    go_loopw [5, 6, 8] (fun s5 s6 s8 wq => ∃ (i : Nat), i ≤ k ∧ s5 = .int .i64 (mxs (zs.take i)) ∧ s6 = .int .i64 (ors (zs.take i)) ∧ s8 = .int .i64 i ∧ Jn w g g' (mxs (zs.take i)) (ors (zs.take i)) (mxs ((zs.take k).drop (k - i))) (ors ((zs.take k).drop (k - i))) wq) (fun _ _ i _ => k - (intOf i).toNat)
    case atStart =>
      have e : (zs.take k).drop (k - 0) = [] := List.drop_eq_nil_of_le (by rw [List.length_take]; omega)
      exact ⟨0, by omega, rfl, rfl, rfl, by rw [e]; exact hst⟩
    case round =>
      clear hst
      obtain ⟨i, hi, rfl, rfl, rfl, hne, hg, hg', hB⟩ := hrel
      have hX := all_may (zs.take i)
      have hX' := all_may ((zs.take k).drop (k - i))
      by_cases hik : i < k
      · obtain ⟨u1, u2⟩ := up_next zs i (by rw [HL.out]; omega)
        obtain ⟨d1, d2⟩ := down_next zs k i (k - 1 - i) (by rw [HL.out]; omega) (by omega)
        rw [show k - 1 - i + 1 = k - i by omega] at d1 d2
        have hq : ((k : Int) - 1 - (i : Int)) = ((k - 1 - i : Nat) : Int) := by omega
        generalize hq' : k - 1 - i = q at *
        generalize mxs (zs.take i) = X at *
        generalize ors (zs.take i) = Y at *
        generalize mxs ((zs.take k).drop (k - i)) = X' at *
        generalize ors ((zs.take k).drop (k - i)) = Y' at *
        obtain ⟨b, o, rfl, hblt, c0⟩ := HA.out i (by omega)
        obtain ⟨b2, o2, e2, _, c1⟩ := HA.out q (by omega)
        simp only [Option.some.injEq, Addr.mk.injEq, and_true] at e2
        obtain ⟨rfl, rfl⟩ := e2
        generalize zs.getD i 0 = y at *
        generalize zs.getD q 0 = z at *
        replace c0 := (hB.below.cell (p := ⟨b, o + i, none⟩) hblt).trans c0
        replace c1 := (hB.below.cell (p := ⟨b, o + q, none⟩) hblt).trans c1
        have hm := lv_may y
        have hm' := lv_may z
        unfold lv ct at *
        generalize hy1 : bits BinOp.and IntKind.i64 y 3 = L at *
        generalize hy2 : bits BinOp.and IntKind.i64 (y / 4) 15 = C at *
        generalize hz1 : bits BinOp.and IntKind.i64 z 3 = L' at *
        generalize hz2 : bits BinOp.and IntKind.i64 (z / 4) 15 = C' at *
        have hin : (i : Int) < n := by omega
        have hqn : (q : Int) < n := by omega
        have HU := Lib.hid (And.intro u1 u2); have HD := Lib.hid (And.intro d1 d2)
        have HQ := Lib.hid hq; have HM := Lib.hid (And.intro hm hm'); have HX := Lib.hid (And.intro hX hX')
        clear u1 u2 d1 d2 hq hm hm' hX hX'
        have hltr : b < wr.heap.size := Nat.lt_of_lt_of_le hblt hB.size
        have a0 := ((Below.refl wr.heap.size wr).alloc (Nat.le_refl _) (.cells #[.int .i64 0, .int .i64 0] 23)).cell (p := ⟨b, o + i, none⟩) hltr
        rw [c0] at a0
        have hB1 := hB.push [.int .i64 L, .int .i64 C]
        have q9 := hB.lt 1 rfl
        have q9' := hB.lt 0 rfl
        go_wp2_with fail
        go_region
        clear a0 c0 hy1 hy2 hB
        go_wp2_with fail
        have hB2 := hB1.drew
        have d1 := ((Below.refl wr.heap.size wr).alloc (Nat.le_refl _) (.cells #[.int .i64 L, .int .i64 C] 23)).cell (p := ⟨b, o + q, none⟩) hltr
        rw [c1] at d1
        have d2 : (wr.alloc (.cells #[.int .i64 L, .int .i64 C] 23)).drew.cell? ⟨b, o + q, none⟩ = some (.int .i64 z) := d1
        have hlt2 : b < (wr.alloc (.cells #[.int .i64 L, .int .i64 C] 23)).drew.heap.size := Nat.lt_of_lt_of_le hblt hB2.size
        clear c1 d1 hB1
        generalize (wr.alloc (.cells #[.int .i64 L, .int .i64 C] 23)).drew = w2 at *
        generalize wr.heap.size = p9 at *
        have a0 := ((Below.refl w2.heap.size w2).alloc (Nat.le_refl _) (.cells #[.int .i64 0, .int .i64 0] 23)).cell (p := ⟨b, o + q, none⟩) hlt2
        rw [d2] at a0
        have hB3 := hB2.push [.int .i64 L', .int .i64 C']
        have q10 := hB2.lt 0 rfl
        have e1 : IntKind.i64.wrap ((k : Int) - 1) = (k : Int) - 1 := by rw [IntKind.wrap_i64]; omega
        have e2 : IntKind.i64.wrap ((k : Int) - 1 - (i : Int)) = (q : Int) := by rw [IntKind.wrap_i64]; omega
        have e3 := HQ.out
        go_region
        have hB4 := hB3.drew
        generalize (w2.alloc (.cells #[.int .i64 L', .int .i64 C'] 23)).drew = w4 at *
        generalize w2.heap.size = p10 at *
        clear e1 e2 e3 a0 d2 hB2 hB3 hz1 hz2 hlt2 hltr HA
        obtain ⟨j1, j2, j3⟩ := join_yes X Y L C HX.out.1 HM.out.1
        obtain ⟨j4, j5, j6⟩ := join_yes L' C' X' Y' HM.out.2 HX.out.2
        obtain ⟨v1, v2⟩ := lD_up X Y L C HX.out.1 HM.out.1
        have vm := join_may X Y L C HX.out.1 HM.out.1
        have vx := lB_of HX.out.1
        have vy := lB_of HM.out.1
        have vo := (bits_has Y C vx.2.2.1 vx.2.2.2 vy.2.2.1 vy.2.2.2).2.2
        have vmx : (if X < L then L else X) = mxL X L := rfl
        generalize hM5 : mxL X L = M at *
        generalize hO5 : orC Y C = O at *
        generalize hM6 : mxL L' X' = M' at *
        generalize hO6 : orC C' Y' = O' at *
        have J1 := Lib.hid (And.intro j1 (And.intro j2 j3)); have J2 := Lib.hid (And.intro j4 (And.intro j5 j6))
        have V := Lib.hid (And.intro v1 v2); have VO := Lib.hid vo; have VM := Lib.hid vmx
        clear j1 j2 j3 j4 j5 j6 v1 v2 vm vx vy vo vmx hM5 hO5 hM6 hO6
        obtain ⟨a0, a1, -, -⟩ := hB4.two 3 rfl
        obtain ⟨a2, a3, -, -⟩ := hB4.two 1 rfl
        go_wp2_with fail
        refine (ljoin_is X Y L C M O 0 _ J1.out.1 J1.out.2.1 J1.out.2.2).mono ?_
        rintro e w5 ⟨rfl, b5⟩
        have hB5 := (hB4.next b5).push [.int .i64 M, .int .i64 O]
        have q11 := (hB4.next b5).lt 0 rfl
        clear hB4 b5 a0 a1 a2 a3
        obtain ⟨a0, a1, -, -⟩ := hB5.two 1 rfl
        obtain ⟨a2, a3, -, -⟩ := hB5.two 3 rfl
        go_wp2_with fail
        generalize w5.alloc (.cells #[.int .i64 M, .int .i64 O] 23) = w6 at *
        generalize w5.heap.size = p11 at *
        clear a0 a1 a2 a3
        refine (ljoin_is L' C' X' Y' M' O' 0 _ J2.out.1 J2.out.2.1 J2.out.2.2).mono ?_
        rintro e w7 ⟨rfl, b7⟩
        have hB7 := (hB5.next b7).push [.int .i64 M', .int .i64 O']
        have q13 := (hB5.next b7).lt 0 rfl
        clear hB5 b7
        obtain ⟨a0, a1, -, -⟩ := hB7.two 1 rfl
        obtain ⟨a2, a3, -, -⟩ := hB7.two 5 rfl
        go_wp2_with (go_at_call 9; refine (num_any _ _).mono ?_; rintro e w' ⟨rfl, rfl⟩)
        generalize w7.alloc (.cells #[.int .i64 M', .int .i64 O'] 23) = w8 at *
        generalize w7.heap.size = p13 at *
        clear a0 a1 a2 a3
        refine (ldom_is M O X Y true _ V.out.1).mono ?_
        rintro e w9 ⟨rfl, b9⟩
        have hB9 := hB7.next b9
        clear hB7 b9
        obtain ⟨a0, a1, -, -⟩ := hB9.two 1 rfl
        obtain ⟨a2, a3, -, -⟩ := hB9.two 3 rfl
        go_wp2_with fail
        clear a0 a1 a2 a3
        refine (ldom_is M O L C true _ V.out.2).mono ?_
        rintro e w11 ⟨rfl, b11⟩
        have hB11 := hB9.next b11
        clear hB9 b11
        obtain ⟨a0, a1, -, -⟩ := hB11.two 1 rfl
        obtain ⟨a2, a3, f2, f3⟩ := hB11.two 5 rfl
        obtain ⟨a4, a5, -, -⟩ := hB11.two 0 rfl
        obtain ⟨a6, a7, f6, f7⟩ := hB11.two 4 rfl
        obtain ⟨a8, a9, -, -⟩ := hB11.two 3 rfl
        have m1 : p11 ≠ g := by omega
        have m2 : p13 ≠ g := by omega
        have m3 : p9 ≠ g := by omega
        have m4 : p9 ≠ g' := by omega
        have m5 : g' ≠ g := by omega
        have m6 : p13 ≠ g' := by omega
        have m7 : g ≠ p11 := by omega
        have m8 : g ≠ p13 := by omega
        have m9 : g ≠ p9 := by omega
        have m10 : g' ≠ p9 := by omega
        have m11 : g' ≠ p13 := by omega
        have hC := ((((hB11.back 4).set 1 rfl hg (by
          intro j p hp h; match j with
          | 0 => simp only [List.drop, List.getElem?_cons_zero, Option.some.injEq] at hp; subst hp; exact absurd h m5
          | 1 => rfl
          | j + 2 => simp at hp) 0 (.int .i64 M)).set 1 rfl hg (by
          intro j p hp h; match j with
          | 0 => simp only [List.drop, List.set_cons_succ, List.set_cons_zero, List.getElem?_cons_zero, Option.some.injEq] at hp; subst hp; exact absurd h m5
          | 1 => rfl
          | j + 2 => simp at hp) 1 (.int .i64 O)).set 0 rfl hg' (by
          intro j p hp h; match j with
          | 0 => rfl
          | 1 => simp only [List.drop, List.set_cons_succ, List.set_cons_zero, List.getElem?_cons_succ, List.getElem?_cons_zero, Option.some.injEq] at hp; subst hp; exact absurd h.symm m5
          | j + 2 => simp at hp) 0 (.int .i64 M')).set 0 rfl hg' (by
          intro j p hp h; match j with
          | 0 => rfl
          | 1 => simp only [List.drop, List.set_cons_succ, List.set_cons_zero, List.getElem?_cons_succ, List.getElem?_cons_zero, Option.some.injEq] at hp; subst hp; exact absurd h.symm m5
          | j + 2 => simp at hp) 1 (.int .i64 O')
        have hvo := VO.out
        have hvm := VM.out
        clear hB11
        go_wp2_with fail
        have hk' : k - (i + 1) = q := by omega
        refine ⟨⟨i + 1, by omega, by rw [HU.out.1], by rw [HU.out.2], by rw [Int.natCast_add]; rfl, hne, hg, hg', ?_⟩, by simp [intOf]; omega⟩
        rw [HU.out.1, HU.out.2, hk', HD.out.1, HD.out.2]
        exact hC
      · have hx : (k : Int) ≤ i := by omega
        obtain rfl : k = i := by omega
        rw [Nat.sub_self, List.drop_zero] at hB
        clear hX' hik hi HA
        generalize mxs (zs.take k) = X at *
        generalize ors (zs.take k) = Y at *
        obtain ⟨j1, j2, j3⟩ := join_yes X Y X Y hX hX
        rw [mxL_self] at j1
        rw [orC_self Y (lB_of hX).2.2.1] at j2
        have J := Lib.hid (And.intro j1 (And.intro j2 j3))
        clear hX j1 j2 j3
        obtain ⟨a0, a1, -, -⟩ := hB.two 1 rfl
        obtain ⟨a2, a3, -, -⟩ := hB.two 0 rfl
        go_wp2_with fail
        refine (ljoin_is X Y X Y X Y 0 _ J.out.1 J.out.2.1 J.out.2.2).mono ?_
        rintro e w2 ⟨rfl, b2⟩
        have hB2 := (hB.next b2).push [.int .i64 X, .int .i64 Y]
        clear hB b2 a0 a1 a2 a3
        obtain ⟨a0, a1, -, -⟩ := hB2.two 2 rfl
        obtain ⟨a2, a3, -, -⟩ := hB2.two 1 rfl
        obtain ⟨a4, a5, -, -⟩ := hB2.two 0 rfl
        go_wp2_with (go_at_call 9; refine (num_any _ _).mono ?_; rintro e w' ⟨rfl, rfl⟩)
        go_ret
        exact ⟨rfl, hB2.below⟩

end Go.Proofs.Ytllppgjddboelaa
