/-
  Layer 20's law NicLattice: it answers true for every input.
-/
import Derived.Test.YtfkdohnpfjdehaaNcAwake
import Derived.Deep.CutBlock
import Derived.Deep.DeepCutAuto
import Derived.Deep.RegionLaw
import Derived.Deep.AppendLies
namespace Go.Proofs.Ytfkdohnpfjdehaa
open Go.RowKit
set_option linter.unusedVariables false
set_option linter.unusedSimpArgs false
set_option maxRecDepth 100000

/-- A label cut to what may be. -/
def mkL (x : Int × Int) : Int × Int := (bits BinOp.and IntKind.i64 x.1 3, bits BinOp.and IntKind.i64 x.2 15)
theorem mkL_ok (x : Int × Int) : lB (mkL x).1 (mkL x).2 = true := by
  have h1 := band x.1 3 (by omega) (by omega)
  have h2 := band x.2 15 (by omega) (by omega)
  exact lB_yes _ _ h1.1 h1.2 h2.1 h2.2
def ml (ls : List (Int × Int)) (k : Nat) : List (Int × Int) := (ls.take k).map mkL
theorem ml_len (ls : List (Int × Int)) (k : Nat) (h : k ≤ ls.length) : (ml ls k).length = k := by simp [ml]; omega
theorem ml_step (ls : List (Int × Int)) (k : Nat) (h : k < ls.length) : ml ls (k + 1) = ml ls k ++ [mkL ls[k]] := by
  unfold ml
  rw [List.take_succ_eq_append_getElem h, List.map_append]; rfl
theorem ml_ok (ls : List (Int × Int)) (k : Nat) : allL (ml ls k) = true := by
  refine allL_yes (fun j hj => ?_)
  have e : (ml ls k)[j] = mkL ((ls.take k)[j]'(by simpa [ml] using hj)) := by simp [ml]
  rw [e]
  exact mkL_ok _
theorem labs (ls : List (Int × Int)) (i : Nat) (h : i < ls.length) : labL ls i = ls[i].1 ∧ labC ls i = ls[i].2 := by
  unfold labL labC; simp [List.getD, List.getElem?_eq_getElem h]
/-- What the law's test says of two labels that may be. -/
theorem lD_ways (l c l' c' : Int) (h : lB l c = true) (h' : lB l' c' = true) : (lD l c l' c' = false ∧ l < l') ∨ (lD l c l' c' = false ∧ l' ≤ l ∧ (bits BinOp.or IntKind.i64 c c' == c) = false) ∨ (lD l c l' c' = true ∧ l' ≤ l ∧ (bits BinOp.or IntKind.i64 c c' == c) = true) := by
  have a := lB_of h
  have b := lB_of h'
  have e := (bits_has c c' (by omega) (by omega) (by omega) (by omega)).2.2
  have e2 := hasB_iff c c' (by omega)
  rw [e]
  unfold lD
  rw [h, h', Bool.true_and, Bool.true_and]
  by_cases hl : l' ≤ l
  · rw [decide_eq_true hl, Bool.true_and]
    cases hb : hasB c c'
    · refine .inr (.inl ⟨rfl, hl, ?_⟩)
      rw [beq_eq_false_iff_ne]
      intro h9
      rw [e2.2 h9] at hb; cases hb
    · exact .inr (.inr ⟨rfl, hl, by rw [e2.1 hb]; simp⟩)
  · exact .inl ⟨by rw [decide_eq_false hl]; rfl, by omega⟩

def hello : List UInt8 := [104, 101, 108, 108, 111]
/-- What the law's Send answers, and what it leaves. -/
theorem one_send {l : List (Int × Int)} {m x y : Nat} (hl : l.length = m) (hx : x < m) (hy : y < m) : nsC l x y 5 = (if nsL l x y then 0 else 2001) ∧ sd l q0 x y hello = (if nsL l x y then (upF noQ y [⟨x, hello⟩], noI) else q0) := by
  have hB : nsB l x y 5 = true := by
    unfold nsB
    rw [hl, inP_at hx, inP_at hy]; rfl
  have hC : nsC l x y 5 = (if nsL l x y then 0 else 2001) := by unfold nsC; rw [hB]; rfl
  refine ⟨hC, ?_⟩
  unfold sd nsQ nsD
  rw [show hello.length = 5 from rfl, hC]
  cases nsL l x y
  · rfl
  · rw [if_pos rfl, if_pos rfl, if_pos rfl, if_pos rfl]
    unfold adQ adD
    rw [Int.toNat_natCast, if_pos (show (q0.1 y).length < 8 from (by show 0 < 8; decide)), if_pos (show (q0.1 y).length < 8 from (by show 0 < 8; decide))]
    rfl

set_option maxHeartbeats 4000000 in
theorem law_NicLattice (v : Value) (n : Nat) (zs : List Int) (a b : Int) (w : World) (hs : Sl w v n 2 (ints zs)) (hn : n ≤ maxLen) (hl : zs.length = n * 2) (wa : (Lit.int .i64 a).wf = true) (wb : (Lit.int .i64 b).wf = true) :
    Calls Try.prog 7 #[v, .int .i64 a, .int .i64 b] w fun e w' => e = .returned (.bool true) ∧ Below w.heap.size w w' := by
  obtain ⟨ls, rfl, hll⟩ := lbs_of n zs hl
  have hUa := u64b a
  have hUb := u64b b
  obtain ⟨A, cap, rfl, hc, _, _⟩ := id hs
  have H := Lib.hid hs; have HL := Lib.hid hll
  unfold maxLen at hn
  obtain ⟨i0, hi, hz0, hz1, hz2⟩ := info_parts infoLb
  have HI := Lib.hid hi; have HZ0 := Lib.hid hz0; have HZ1 := Lib.hid hz1; have HZ2 := Lib.hid hz2
  generalize hUa' : IntKind.u64.wrap a = UA at hUa
  generalize hUb' : IntKind.u64.wrap b = UB at hUb
  obtain ⟨a0, a1⟩ := hUa
  obtain ⟨b0, b1⟩ := hUb
  clear hs hll hl wa wb hi hz0 hz1 hz2
  go_enter Try.func7, Try.ntmps7
  go_wp2_with fail
  refine (nawake_any _).mono ?_
  rintro e w1 ⟨rfl, bw⟩
  have HB := Lib.hid bw
  clear bw
  go_upto_block 0 with fail
  go_cut [7] from 8 (fun q wx => ∃ k : Nat, k ≤ n ∧ k ≤ 4 ∧ (k = n ∨ k = 4) ∧ Hid (wx.ownsRow w.heap.size 54 2 q k (ints (lbs (ml ls k))) ∧ Below w.heap.size w wx))
  case first =>
    go_wp2_with fail
    go_loopw [7, 8] (fun q i wr => ∃ k : Nat, k ≤ n ∧ k ≤ 4 ∧ i = .int .i64 k ∧ Hid (wr.ownsRow w.heap.size 54 2 q k (ints (lbs (ml ls k))) ∧ Below w.heap.size w wr)) (fun _ i _ => 4 - (intOf i).toNat)
    case atStart => exact ⟨0, by omega, by omega, rfl, Lib.hid ⟨World.ownsRow_nil _ _ _ _, HB.out⟩⟩
    case round =>
      clear HB
      obtain ⟨k, hk, hk4, rfl, HH⟩ := hrel
      by_cases hlt : k < n
      · by_cases hlt4 : k < 4
        · have hkl : k < ls.length := by rw [HL.out]; exact hlt
          obtain ⟨hown, hbel⟩ := HH.out
          obtain ⟨bk, o, rfl, hbo, c0, c1⟩ := lb_at (H.out.below hbel) HL.out k hkl
          have HX := Lib.hid (ml_step ls k hkl)
          have HML := Lib.hid (ml_len ls k (by omega))
          have hmk : mkL ls[k] = (bits BinOp.and IntKind.i64 ls[k].1 3, bits BinOp.and IntKind.i64 ls[k].2 15) := rfl
          have hs0 := hbel.size
          generalize ls[k] = x at *
          obtain ⟨x1, x2⟩ := x
          simp only at c0 c1 hmk
          generalize hy1 : bits BinOp.and IntKind.i64 x1 3 = y1 at *
          generalize hy2 : bits BinOp.and IntKind.i64 x2 15 = y2 at *
          rw [hmk] at HX
          have HX2 : Hid (ints (lbs (ml ls (k + 1))) = ints (lbs (ml ls k)) ++ [.int .i64 y1, .int .i64 y2]) := Lib.hid (by rw [HX.out, lbs_append, ints_append]; rfl)
          obtain ⟨A4, c4, hu, -⟩ := Sl.own hown
          subst hu
          have HO := Lib.hid hown; have HBE := Lib.hid hbel
          clear hown hbel HH hmk HX
          go_wp2_with fail
          have H2 : Hid (∀ u ∈ ([.int .i64 y1, .int .i64 y2] : List Value), u.oneCell' = true) := Lib.hid (by intro u hu; simp at hu; rcases hu with rfl | rfl <;> rfl)
          go_region_law ((refine step_append_lies _ (by rfl) _ _ 22 (by rfl) w.heap.size 54 i0 _ 2 16 Try.underlying22 HI.out HZ0.out HZ1.out HZ2.out (by rfl) (by decide) (.slice A4 k c4) k (ints (lbs (ml ls k))) (by rfl) (own_drewN (HO.out.alloc _) 1) ⟨wr.heap.size, 0, none⟩ 1 1 [.int .i64 y1, .int .i64 y2] (by rfl) (by rfl) (by exact row_new wr [.int .i64 y1, .int .i64 y2] _) H2.out (by omega) (by unfold maxLen; omega) (by omega) (by simp; omega) (wr.heap.size + 1) (by simp) ?_; intro g cap2 w2 own2 gr2 hat hlt2))
          all_goals
            have hbel2 := below_one _ HO.out hs0 HBE.out (show (wr.alloc (.cells #[.int .i64 y1, .int .i64 y2] 54)).grownBy w2 _ from ⟨gr2.os, gr2.tape, gr2.output, gr2.size, gr2.block⟩)
            have HF := Lib.hid (And.intro own2 hbel2)
            clear own2 hbel2 gr2 hat hlt2
            go_wp2_with fail
            go_roundw
            case rel => exact ⟨k + 1, by omega, by omega, by go_num, Lib.hid ⟨by rw [HX2.out]; exact HF.out.1, HF.out.2⟩⟩
            case measure => simp [intOf]; omega
        · obtain rfl : k = 4 := by omega
          go_wp2_with fail
          go_meet
          exact ⟨4, hk, hk4, .inr rfl, HH⟩
      · obtain rfl : k = n := by omega
        go_wp2_with fail
        go_meet
        exact ⟨k, hk, hk4, .inl rfl, HH⟩
  case rest =>
    obtain ⟨m, hm, hm4, hmm, HH⟩ := hcut
    generalize wc = w2 at *
    have HML := Lib.hid (ml_len ls m (by rw [HL.out]; exact hm))
    have HOK := Lib.hid (ml_ok ls m)
    generalize ml ls m = l at *
    obtain ⟨hown, hbel⟩ := HH.out
    obtain ⟨A4, c4, hu, hc4, -⟩ := Sl.own hown
    subst hu
    have HSL := Lib.hid (Sl.own hown)
    have HO := Lib.hid hown; have HBE := Lib.hid hbel
    clear hown hbel HH HB hmm
    by_cases hm0 : m < 1
    · have hnew : newL l = false := by unfold newL; rw [HML.out, decide_eq_false (by omega)]; rfl
      obtain rfl : m = 0 := by omega
      go_wp2_with fail
      refine (nnew_no _ 0 l _ HSL.out HML.out (by decide) hnew).mono ?_
      rintro e w3 ⟨rfl, b3⟩
      have HB3 := Lib.hid (Below.down HBE.out b3 HBE.out.size)
      clear b3
      go_wp2_with fail
      refine (num_any _ _).mono ?_; rintro e w' ⟨rfl, rfl⟩
      go_wp2_with fail
      go_ret
      exact ⟨rfl, HB3.out⟩
    · have hnew : newL l = true := by unfold newL; rw [HML.out, decide_eq_true (by omega), HOK.out]; rfl
      have HN := Lib.hid hnew
      clear hnew
      have HT := Lib.hid ((Tk.empty w).addR HBE.out HO.out)
      go_wp2_with fail
      refine (t2_new _ m l _ HT.out HSL.out HML.out (by unfold maxLen; omega) HN.out).mono ?_
      rintro e w3 ⟨g, rfl, t⟩
      have HT := Lib.hid t; clear t
      obtain ⟨x, hx⟩ := Int.eq_ofNat_of_zero_le (Int.emod_nonneg UA (show (m : Int) ≠ 0 by omega))
      obtain ⟨y, hy⟩ := Int.eq_ofNat_of_zero_le (Int.emod_nonneg UB (show (m : Int) ≠ 0 by omega))
      have hx1 : (x : Int) < m := by rw [← hx]; exact Int.emod_lt_of_pos _ (by omega)
      have hy1 : (y : Int) < m := by rw [← hy]; exact Int.emod_lt_of_pos _ (by omega)
      have hxm : x < m := by omega
      have hym : y < m := by omega
      have hmw : IntKind.u64.wrap (m : Int) = (m : Int) := IntWalk.u64_in _ (by omega)
      clear HSL HO HBE
      go_wp2_with fail
      refine (num_any _ _).mono ?_; rintro e w' ⟨rfl, rfl⟩
      go_wp2_with fail
      go_quiet (fail)
      have HT := Lib.hid (HT.out.drewN nq)
      generalize w3.drewN nq = w4 at *
      obtain ⟨hC, hS⟩ := one_send HML.out hxm hym
      have HC := Lib.hid hC; have HS := Lib.hid hS
      have hxl : x < l.length := by rw [HML.out]; exact hxm
      have hyl : y < l.length := by rw [HML.out]; exact hym
      have hok : ∀ k (hk : k < l.length), lB l[k].1 l[k].2 = true := fun k hk => (List.all_eq_true.1 HOK.out) l[k] (List.getElem_mem hk)
      have hW : Hid ((nsL l x y = false ∧ l[y].1 < l[x].1) ∨ (nsL l x y = false ∧ l[x].1 ≤ l[y].1 ∧ (bits BinOp.or IntKind.i64 l[y].2 l[x].2 == l[y].2) = false) ∨ (nsL l x y = true ∧ l[x].1 ≤ l[y].1 ∧ (bits BinOp.or IntKind.i64 l[y].2 l[x].2 == l[y].2) = true)) := Lib.hid (by
        have := lD_ways l[y].1 l[y].2 l[x].1 l[x].2 (hok y hyl) (hok x hxl)
        unfold nsL
        rw [Int.toNat_natCast, Int.toNat_natCast, (labs l y hyl).1, (labs l y hyl).2, (labs l x hxl).1, (labs l x hxl).2]
        exact this)
      obtain ⟨B, hB⟩ : ∃ B, nsL l x y = B := ⟨_, rfl⟩
      rw [hB] at HC HS hW
      clear hC hS hok hB hx hy hmw HN
      go_wp2_with fail
      refine (t2_send (x : Int) (y : Int) ⟨#[104, 101, 108, 108, 111]⟩ _ HT.out (i := 0) rfl (by decide) _ HC.out (os' := [ob2 g l (if B then (upF noQ y [⟨x, hello⟩], noI) else q0), obR 54 2 (.slice A4 m c4) m (ints (lbs l))]) (by rw [← HS.out]; rfl)).mono ?_
      rintro e w5 ⟨rfl, t⟩
      have HT := Lib.hid t; clear t
      obtain ⟨q, hq⟩ : ∃ q : Qs, (if B then (upF noQ y [⟨x, hello⟩], noI) else q0) = q := ⟨_, rfl⟩
      have HQ := Lib.hid hq
      rw [hq] at HT
      clear hq HS HC
      go_upto_region 15 with fail
      go_cut [14] from 86 (fun v wx => v = .bool B ∧ Hid (Tk nos w [ob2 g l q, obR 54 2 (.slice A4 m c4) m (ints (lbs l))] wx))
      case first =>
        have hsl := HT.out.sl (i := 1) rfl
        obtain ⟨bk, o, rfl, hbo, c0, c1⟩ := lb_at hsl HML.out x hxl
        obtain ⟨bk', o', e', hbo', d0, d1⟩ := lb_at hsl HML.out y hyl
        simp only [Option.some.injEq, Addr.mk.injEq] at e'
        obtain ⟨rfl, rfl, -⟩ := e'
        clear hsl
        rcases hW.out with ⟨rfl, h1⟩ | ⟨rfl, h1, h2⟩ | ⟨rfl, h1, h2⟩
        all_goals
          generalize l[x].1 = x1 at *
          generalize l[x].2 = x2 at *
          generalize l[y].1 = y1 at *
          generalize l[y].2 = y2 at *
          have hd : decide (x1 ≤ y1) = decide (x1 ≤ y1) := rfl
          first | (rw [show decide (x1 ≤ y1) = false from decide_eq_false (by omega)] at hd; have hd2 : decide (x1 ≤ y1) = false := decide_eq_false (by omega)) | have hd2 : decide (x1 ≤ y1) = true := decide_eq_true h1
          clear hd
          go_quiet (fail)
          have HT := Lib.hid (HT.out.drewN nq)
          generalize w5.drewN nq = w6 at *
          go_wp2_with fail
          go_meet
          exact ⟨rfl, HT⟩
      case rest =>
        obtain ⟨rfl, HT⟩ := hcut
        generalize wc = w6 at *
        clear hW
        cases B with
        | false =>
          go_wp2_with fail
          go_loopw [16] (fun i wr => ∃ k : Nat, k ≤ m ∧ i = .int .i64 k ∧ Hid (Tk nos w [ob2 g l q, obR 54 2 (.slice A4 m c4) m (ints (lbs l))] wr)) (fun i _ => m - (intOf i).toNat)
          case atStart => exact ⟨0, by omega, rfl, HT⟩
          case round =>
            clear HT
            obtain ⟨k, hk, rfl, HT⟩ := hrel
            by_cases hlt : k < m
            · obtain ⟨X, hX⟩ : ∃ X, nqX l q.1 (k : Int) = X := ⟨_, rfl⟩
              have HX : Hid (X = []) := Lib.hid (by
                rw [← hX, ← HQ.out]
                unfold nqX
                rw [HML.out, inP_at hlt, if_pos rfl, Int.toNat_natCast]
                rfl)
              have HXX := Lib.hid hX
              clear hX
              go_wp2_with fail
              refine (t2_queue (k : Int) _ HT.out (i := 0) rfl X HXX.out).mono ?_
              rintro e w7 ⟨v, rfl, t⟩
              have hsl := t.sl (i := 0) rfl
              obtain ⟨A5, c5, rfl, _⟩ := id hsl
              have HSL := Lib.hid hsl
              have HT := Lib.hid t.tail
              clear t hsl
              rw [HX.out]
              go_wp2_with fail
              go_roundw
              case rel => exact ⟨k + 1, by omega, by go_num, HT⟩
              case measure => simp [intOf]; omega
            · obtain rfl : k = m := by omega
              go_wp2_with fail
              refine (num_any _ _).mono ?_; rintro e w' ⟨rfl, rfl⟩
              go_wp2_with fail
              go_ret
              exact ⟨rfl, HT.out.below⟩
        | true =>
          go_wp2_with fail
          go_loopw [16] (fun i wr => ∃ k : Nat, k ≤ m ∧ i = .int .i64 k ∧ Hid (Tk nos w [ob2 g l q, obR 54 2 (.slice A4 m c4) m (ints (lbs l))] wr)) (fun i _ => m - (intOf i).toNat)
          case atStart => exact ⟨0, by omega, rfl, HT⟩
          case round =>
            clear HT
            obtain ⟨k, hk, rfl, HT⟩ := hrel
            by_cases hlt : k < m
            · obtain ⟨X, hX⟩ : ∃ X, nqX l q.1 (k : Int) = X := ⟨_, rfl⟩
              have HX : Hid (X = if k = y then [⟨x, hello⟩] else []) := Lib.hid (by
                rw [← hX, ← HQ.out]
                unfold nqX
                rw [HML.out, inP_at hlt, if_pos rfl, Int.toNat_natCast]
                rfl)
              have HXX := Lib.hid hX
              clear hX
              go_wp2_with fail
              refine (t2_queue (k : Int) _ HT.out (i := 0) rfl X HXX.out).mono ?_
              rintro e w7 ⟨v, rfl, t⟩
              have hsl := t.sl (i := 0) rfl
              obtain ⟨A5, c5, rfl, _⟩ := id hsl
              have HSL := Lib.hid hsl
              have HT := Lib.hid t.tail
              clear t hsl
              by_cases hky : k = y
              · subst hky
                have HX1 : Hid (X = [⟨x, hello⟩]) := Lib.hid (by rw [HX.out, if_pos rfl])
                rw [HX1.out] at HSL ⊢
                have HLIT := Lib.hid (Sl.lit w7 (mss [⟨x, hello⟩]) 1 2 41 rfl)
                have HSL2 := Lib.hid (HSL.out.below ((Below.refl _ w7).alloc (Nat.le_refl _) (.cells (mss [⟨x, hello⟩]).toArray 41)))
                have HT := Lib.hid (HT.out.next ((Below.refl _ w7).alloc (Nat.le_refl _) (.cells (mss [⟨x, hello⟩]).toArray 41)))
                go_wp2_with fail
                refine (same_msgs _ _ 1 [⟨x, hello⟩] _ HSL2.out HLIT.out rfl (by decide)).mono ?_
                rintro e w8 ⟨rfl, n8, rfl⟩
                have HT := Lib.hid (HT.out.drewN n8)
                generalize World.drewN _ n8 = w8 at *
                go_wp2_with fail
                go_roundw
                case rel => exact ⟨k + 1, by omega, by go_num, HT⟩
                case measure => simp [intOf]; omega
              · have HX1 : Hid (X = []) := Lib.hid (by rw [HX.out, if_neg hky])
                have hkyI : ((k : Int) == (y : Int)) = false := by simp; omega
                rw [HX1.out]
                go_wp2_with fail
                go_roundw
                case rel => exact ⟨k + 1, by omega, by go_num, HT⟩
                case measure => simp [intOf]; omega
            · obtain rfl : k = m := by omega
              go_wp2_with fail
              refine (num_any _ _).mono ?_; rintro e w' ⟨rfl, rfl⟩
              go_wp2_with fail
              go_ret
              exact ⟨rfl, HT.out.below⟩

end Go.Proofs.Ytfkdohnpfjdehaa
