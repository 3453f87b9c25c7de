/-
  Layer 20's law Nics: it answers true for every input.
-/
import Derived.Test.YtfkdohnpfjdehaaNcAwake
import Derived.Test.YtfkdohnpfjdehaaNd2
import Derived.Test.YtfkdohnpfjdehaaArgs
import Derived.Deep.CutBlock
import Derived.Deep.DeepCutAuto
namespace Go.Proofs.Ytfkdohnpfjdehaa
open Go.RowKit Go.ChangeShapes Go.WideShapes Go.Deep
set_option linter.unusedVariables false
set_option linter.unusedSimpArgs false
set_option maxRecDepth 100000

theorem num_st2 (n : Int) (w : World) : Calls Try.prog 11 #[.int .i64 n] w fun e w' => e = .returned (.int .i64 n) ∧ w' = w := (num_any n w).mono fun _ _ ⟨he, hw⟩ => ⟨he, hw.symm⟩

/-- The k-th act of a row. -/
def ActN (xs : List Value) (i : Nat) : Prop := ∃ (k f t : Int) (s : ByteArray), xs[i * 4]? = some (.int .i64 k) ∧ xs[i * 4 + 1]? = some (.int .i64 f) ∧ xs[i * 4 + 2]? = some (.int .i64 t) ∧ xs[i * 4 + 3]? = some (.string s) ∧ s.size ≤ maxLen
theorem actsn_of {H : Type} {enc : TypeId × Value → H} {W : World} {n : Nat} {xs : List Value}
    (hr : ∀ i, i < n → ∃ (m : Nat) (y : DataW H × List MemPlace), DataW.trod enc Try.prog W 0 (fun _ => true) true m 37 ((xs.drop (i * 4)).take 4) = some y) : ∀ i, i < n → ActN xs i := by
  intro i hi
  obtain ⟨m, y, hy⟩ := hr i hi
  obtain ⟨k, hk, _⟩ := fld_int (P := Try.prog) Try.underlying37 hy 0 0 _ rfl rfl (by kernel_rfl) Try.underlying3
  obtain ⟨p, hp, _⟩ := fld_int (P := Try.prog) Try.underlying37 hy 1 1 _ rfl rfl (by kernel_rfl) Try.underlying3
  obtain ⟨a, ha, _⟩ := fld_int (P := Try.prog) Try.underlying37 hy 2 2 _ rfl rfl (by kernel_rfl) Try.underlying3
  obtain ⟨s, hs, hl⟩ := fld_str (P := Try.prog) Try.underlying37 hy 3 3 _ rfl rfl (by kernel_rfl) Try.underlying9
  rw [elem_at _ _ _ _ (by omega)] at hk hp ha hs
  exact ⟨k, p, a, s, hk, hp, ha, hs, hl⟩
theorem actn_cells {w : World} {h : Nat} {t : TypeId} {K F T : Int} {s : ByteArray} (ha : Blk w h t [.int .i64 K, .int .i64 F, .int .i64 T, .string s]) : w.cell? ⟨h, 0, none⟩ = some (.int .i64 K) ∧ w.cell? ⟨h, 1, none⟩ = some (.int .i64 F) ∧ w.cell? ⟨h, 2, none⟩ = some (.int .i64 T) ∧ w.cell? ⟨h, 3, none⟩ = some (.string s) :=
  ⟨by rw [ha.cell]; rfl, by rw [ha.cell]; rfl, by rw [ha.cell]; rfl, by rw [ha.cell]; rfl⟩

def obR2 (g : Nat) (ls : List (Int × Int)) (q : Qs) : Ob := obRS g ls q.1 q.2
section
variable {S : Nat → Prop} {W0 : World} {os os' : List Ob} {i g : Nat} {ls : List (Int × Int)} {q : Qs}
theorem r2_send (a b : Int) (s : ByteArray) (w : World) (t : Tk S W0 os w) (hi : os[i]? = some (obR2 g ls q)) (hs : s.size ≤ maxLen) (C : Int) (hC : nsC ls a b s.size = C) (ho : os.set i (obR2 g ls (sd ls q a b s.data.toList)) = os') :
    Calls Try.prog 16 #[.pointer (some ⟨g, 0, none⟩), .int .i64 a, .int .i64 b, .string s] w fun e w' => e = .returned (.int .i64 C) ∧ Tk S W0 os' w' :=
  tk_rsend a b s w t hi hs C hC (by rw [← ho]; unfold sd obR2; rw [list_len])
theorem r2_recv (p : Int) (w : World) (t : Tk S W0 os w) (hi : os[i]? = some (obR2 g ls q)) (m : Ms) (C : Int) (hm : nrM ls q.1 p = m) (hC : nrC ls q.1 p = C) (ho : os.set i (obR2 g ls (rc ls q p)) = os') :
    Calls Try.prog 18 #[.pointer (some ⟨g, 0, none⟩), .int .i64 p] w fun e w' => e = .returned (.tuple #[.agg #[.int .i64 m.f, .string (str m.s)], .int .i64 C]) ∧ Tk S W0 os' w' :=
  tk_rrecv p w t hi m C hm hC (by rw [← ho]; rfl)
theorem r2_queue (p : Int) (w : World) (t : Tk S W0 os w) (hi : os[i]? = some (obR2 g ls q)) (x : List Ms) (hq : nqX ls q.1 p = x) :
    Calls Try.prog 21 #[.pointer (some ⟨g, 0, none⟩), .int .i64 p] w fun e w' => ∃ v, e = .returned v ∧ w = w' ∧ Sl w v x.length 2 (mss x) := tk_rqueue p w t hi x hq
theorem r2_drop (p : Int) (w : World) (t : Tk S W0 os w) (hi : os[i]? = some (obR2 g ls q)) (X : Int) (hX : ndX ls q.2 p = X) :
    Calls Try.prog 23 #[.pointer (some ⟨g, 0, none⟩), .int .i64 p] w fun e w' => e = .returned (.int .i64 X) ∧ w = w' := tk_rdrop p w t hi X hX
end
theorem nqX_8 {ls : List (Int × Int)} {Q : Nat → List Ms} {p : Int} (h : ∀ p, (Q p).length ≤ 8) : (nqX ls Q p).length ≤ 8 := by
  unfold nqX
  split
  · exact h _
  · exact Nat.zero_le _
theorem LentB.own {B : Nat} {w : World} {v : Value} {n : Nat} {l : List (Int × Int)} (h : LentB B w v n l) (hl : l.length = n) : w.ownsRow B 54 2 v n (ints (lbs l)) := by
  obtain ⟨g, cap, rfl, hc, h1, h2⟩ := h
  refine ⟨by rw [ints_len, lbs_len, hl], ?_⟩
  rcases h2 with ⟨h3, _⟩ | ⟨g', cap', cur, h3, h4, h5, h6, h7, h8, h9⟩
  · simp at h3
  · simp only [Value.slice.injEq, Option.some.injEq, Addr.mk.injEq] at h3
    obtain ⟨⟨rfl, -⟩, -, rfl⟩ := h3
    refine .inr ⟨g, cap, cur, rfl, h4, h5, by omega, h7, h8, ?_⟩
    have e := congrArg (List.take (n * 2)) h9
    rw [List.take_take, show min (n * 2) ((n + 2) * 2) = n * 2 by omega, ints_append, List.take_left' (by rw [ints_len, lbs_len, hl])] at e
    exact e

/-- The Switches, the program's and the document's, say the same. -/
def BoN (w : World) (g r : Nat) (ls : List (Int × Int)) (wx : World) : Prop := ∃ q : Qs, Tk nos w [ob2 g ls q, obR2 r ls q] wx

set_option maxHeartbeats 8000000 in
theorem nics_yes (v u : Value) (n m : Nat) (ls : List (Int × Int)) (xs : List Value) (w : World) (hs : Sl w v n 2 (ints (lbs ls))) (hl : ls.length = n) (hn : n * 16 ≤ 140737488351232) (hnil : ∀ m c, v = .slice none m c → c = 0)
    (hu : Sl w u m 4 xs) (hm : m ≤ maxLen) (hr : ∀ i, i < m → ActN xs i) :
    Calls Try.prog 3 #[v, u] w fun e w' => e = .returned (.bool true) ∧ Below w.heap.size w w' := by
  obtain ⟨A0, cap0, rfl, _, _, _⟩ := id hs
  obtain ⟨A3, cap3, rfl, -, -, hA3⟩ := hu
  have HS := Lib.hid hs; have HL := Lib.hid hl; have HNIL := Lib.hid hnil
  have HA3 := Lib.hid hA3; have HR := Lib.hid hr
  unfold maxLen at hm
  have hnm : Hid (n ≤ maxLen) := Lib.hid (by unfold maxLen; omega)
  clear hs hl hnil hA3 hr
  go_enter Try.func3, Try.ntmps3
  go_wp2_with fail
  refine (lend_labels _ n ls _ HS.out HL.out hn HNIL.out).mono ?_
  rintro e w1 ⟨x, rfl, hlent, hb⟩
  have HT := Lib.hid ((Tk.empty w).addR hb (hlent.own HL.out))
  obtain ⟨gx, cx, hx, -⟩ := id hlent
  subst hx
  have HLE := Lib.hid hlent
  clear hb hlent
  go_wp2_with fail
  refine (nnew_any _ n ls _ (HLE.out.sl HL.out) HL.out hnm.out).mono ?_
  rintro e w2 hnew
  rcases hnew with ⟨hN, g, rfl, t2⟩ | ⟨hN, rfl, b2⟩
  · have HN := Lib.hid hN
    have HLE := Lib.hid (HLE.out.below t2.below)
    have HT := Lib.hid (HT.out.add (ps := [_]) t2)
    have hn4 : 1 ≤ n ∧ n ≤ 4 := by
      have h := hN
      unfold newL at h
      rw [Bool.and_eq_true, decide_eq_true_iff, HL.out] at h
      exact h.1
    obtain ⟨hn1, hn4⟩ := hn4
    clear t2 hN
    go_wp2_with fail
    refine (rsnew_any _ n ls _ (HS.out.below HT.out.below) HL.out hnm.out).mono ?_
    rintro e w3 hnew
    rcases hnew with ⟨_, r, rfl, t3⟩ | ⟨hN2, _⟩
    case inr => rw [HN.out] at hN2; cases hN2
    have HLE := Lib.hid (HLE.out.below t3.below)
    have HT := Lib.hid (show Tk nos w [obR2 r ls q0, ob2 g ls q0, obR 54 2 (.slice (some ⟨gx, 0, none⟩) n cx) n (ints (lbs ls))] w3 from HT.out.add (ps := [_]) t3)
    clear t3
    go_wp2_with (go_at_call 11; refine (num_any _ _).mono ?_; rintro e w' ⟨rfl, rfl⟩)
    refine (kept_labels _ _ _ n ls _ HLE.out (HS.out.below HT.out.below) HL.out hn).mono ?_
    rintro e w4 ⟨rfl, b4⟩
    have HT := Lib.hid (HT.out.next b4)
    clear b4 HLE
    go_wp2_with fail
    refine (spoil_labels _ 0 n _ _ (HT.out.row (i := 2) rfl) (by have := Lck.lbs ls; rw [HL.out] at this; exact this) (by omega)).mono ?_
    rintro e w5 ⟨rfl, g5⟩
    have HQ : Hid (BoN w g r ls w5) := Lib.hid ⟨q0, ((HT.out.spoilR (i := 2) rfl g5).perm (.swap _ _ _))⟩
    clear HT g5 HN HS HNIL
    go_wp2_with fail
    go_loopw [10] (fun i wr => ∃ (k : Nat), k ≤ m ∧ k ≤ 80 ∧ i = .int .i64 k ∧ Hid (BoN w g r ls wr)) (fun i _ => 80 - (intOf i).toNat)
    case atStart => exact ⟨0, by omega, by omega, rfl, HQ⟩
    case round =>
      clear HQ
      obtain ⟨k, hkn, hk60, rfl, HQ⟩ := hrel
      by_cases hgo : k < m ∧ k < 80
      · obtain ⟨hlt, h60⟩ := hgo
        obtain ⟨b, o, rfl, hbw, hcell⟩ := HA3.out (by omega)
        obtain ⟨K, F, T, s, x0, x1, x2, x3, hs⟩ := HR.out k hlt
        obtain ⟨q, tk⟩ := HQ.out
        have hbel := tk.below
        have c0 := (hbel.cell (p := ⟨b, o + k * 4, none⟩) hbw).trans (hcell _ _ x0)
        have y1 := hcell _ _ x1
        have y2 := hcell _ _ x2
        have y3 := hcell _ _ x3
        rw [← Nat.add_assoc] at y1 y2 y3
        have c1 := (hbel.cell (p := ⟨b, o + k * 4 + 1, none⟩) hbw).trans y1
        have c2 := (hbel.cell (p := ⟨b, o + k * 4 + 2, none⟩) hbw).trans y2
        have c3 := (hbel.cell (p := ⟨b, o + k * 4 + 3, none⟩) hbw).trans y3
        have hltI : (k : Int) < m := by omega
        have h60d : decide ((k : Int) < 80) = true := by simp; omega
        have HT := Lib.hid (tk.alloc 37 [.int .i64 K, .int .i64 F, .int .i64 T, .string s])
        have HSZ := Lib.hid hs
        clear tk hbel y1 y2 y3 hcell x0 x1 x2 x3 HQ hs
        go_upto_if 75 with fail
        go_cut [12, 13, 14, 15, 16] (fun _ _ _ _ _ wx => Hid (BoN w g r ls wx))
        case first =>
          generalize wr.alloc (.cells #[.int .i64 K, .int .i64 F, .int .i64 T, .string s] 37) = w5 at *
          generalize wr.heap.size = hh at *
          obtain ⟨a0, a1, a2, a3⟩ := actn_cells (HT.out.blk (i := 0) rfl)
          clear c0 c1 c2 c3
          by_cases hK : K < 6
          · obtain ⟨C, hC⟩ : ∃ C, nsC ls F T s.size = C := ⟨_, rfl⟩
            have HC := Lib.hid hC
            clear hC
            go_wp2_with fail
            refine (t2_send F T s _ HT.out (i := 1) rfl HSZ.out C HC.out rfl).mono ?_
            rintro e w6 ⟨rfl, t6⟩
            obtain ⟨a0, a1, a2, a3⟩ := actn_cells (t6.blk (i := 0) rfl)
            have T6 := Lib.hid t6
            clear t6 HT
            go_wp2_with fail
            go_still_tail 9, (by kernel_rfl)
            still_call (num_st2 _ _)
            repeat still_step
            refine wpStill_nil ?_
            change wpList _ _ _ _ _ w6.drew
            have T6 := Lib.hid (T6.out.drewN 1)
            clear a0 a1 a2 a3
            go_wp2_with fail
            refine (r2_send F T s _ T6.out (i := 2) rfl HSZ.out C HC.out rfl).mono ?_
            rintro e w7 ⟨rfl, t7⟩
            have T7 : Hid (BoN w g r ls w7) := Lib.hid ⟨_, Tk.tail (a := obB hh 37 [.int .i64 K, .int .i64 F, .int .i64 T, .string s]) t7⟩
            have e1 : (C != C) = false := by simp
            clear t7 T6
            go_wp2_with fail
            go_meet
            exact T7
          · obtain ⟨M, hM⟩ : ∃ M, nrM ls q.1 T = M := ⟨_, rfl⟩
            obtain ⟨C, hC⟩ : ∃ C, nrC ls q.1 T = C := ⟨_, rfl⟩
            have HM := Lib.hid hM; have HC := Lib.hid hC
            clear hM hC
            obtain ⟨mf, ml⟩ := M
            obtain ⟨ms, hms⟩ : ∃ ms, str ml = ms := ⟨_, rfl⟩
            have HMS := Lib.hid hms
            clear hms
            go_wp2_with fail
            refine (t2_recv T _ HT.out (i := 1) rfl ⟨mf, ml⟩ C HM.out HC.out rfl).mono ?_
            rintro e w6 ⟨rfl, t6⟩
            simp only
            rw [HMS.out]
            have T6 := Lib.hid ((show Tk nos w [obB hh 37 [.int .i64 K, .int .i64 F, .int .i64 T, .string s], ob2 g ls (rc ls q T), obR2 r ls q] w6 from t6).alloc 41 [.int .i64 mf, .string ms])
            clear t6 HT a0 a1 a2 a3
            obtain ⟨a0, a1, a2, a3⟩ := actn_cells (T6.out.blk (i := 1) rfl)
            go_wp2_with fail
            generalize w6.heap.size = hm1 at *
            refine (r2_recv T _ T6.out (i := 3) rfl ⟨mf, ml⟩ C HM.out HC.out rfl).mono ?_
            rintro e w7 ⟨rfl, t7⟩
            simp only
            rw [HMS.out]
            have T7 := Lib.hid ((show Tk nos w [obB hm1 41 [.int .i64 mf, .string ms], obB hh 37 [.int .i64 K, .int .i64 F, .int .i64 T, .string s], ob2 g ls (rc ls q T), obR2 r ls (rc ls q T)] w7 from t7).alloc 41 [.int .i64 mf, .string ms])
            clear t7 T6 a0 a1 a2 a3
            have a0 := (T7.out.blk (i := 1) rfl).cell 0
            have a1 := (T7.out.blk (i := 1) rfl).cell 1
            simp only [List.getElem?_cons_zero, List.getElem?_cons_succ] at a0 a1
            have e1 : (C != C) = false := by simp
            have e2 : (mf == mf) = true := by simp
            have e3 : (ms.toList == ms.toList) = true := by simp
            go_wp2_with fail
            refine (num_any _ _).mono ?_; rintro e w' ⟨rfl, rfl⟩
            clear a0 a1
            have HF : Hid (BoN w g r ls (w7.alloc (.cells #[.int .i64 mf, .string ms] 41))) := Lib.hid ⟨_, T7.out.tail.tail.tail⟩
            go_wp2_with fail
            go_meet
            exact HF
        case rest =>
          have HQ := hcut
          clear hcut HT c0 c1 c2 c3
          generalize wc = w5 at *
          go_wp2_with fail
          go_loopw [17] (fun i wr => ∃ pp : Int, -1 ≤ pp ∧ pp ≤ n + 1 ∧ i = .int .i64 pp ∧ Hid (BoN w g r ls wr)) (fun i _ => (n + 1 - intOf i).toNat)
          case atStart => exact ⟨-1, by omega, by omega, rfl, HQ⟩
          case round =>
            clear HQ
            obtain ⟨pp, hp0, hp1, rfl, HQ⟩ := hrel
            by_cases hlp : pp ≤ n
            · obtain ⟨q5, tk⟩ := HQ.out
              have h8 : (nqX ls q5.1 pp).length ≤ 8 := nqX_8 (fun p => (tk.ps (i := 0) rfl).1.q8 p |>.1)
              obtain ⟨X, hX⟩ : ∃ X, nqX ls q5.1 pp = X := ⟨_, rfl⟩
              obtain ⟨D, hD⟩ : ∃ D, ndX ls q5.2 pp = D := ⟨_, rfl⟩
              rw [hX] at h8
              have HX := Lib.hid hX; have HD := Lib.hid hD
              have TK := Lib.hid tk
              clear tk hX hD HQ
              go_wp2_with fail
              refine (t2_queue pp _ TK.out (i := 0) rfl X HX.out).mono ?_
              rintro e w6 ⟨v6, rfl, t6⟩
              have T6 := Lib.hid t6
              clear t6
              go_wp2_with fail
              refine (r2_queue pp _ T6.out (i := 2) rfl X HX.out).mono ?_
              rintro e w' ⟨v7, rfl, rfl, hs7⟩
              have HS7 := Lib.hid hs7
              clear hs7
              go_wp2_with fail
              refine (same_msgs _ _ X.length X _ (T6.out.sl (i := 0) rfl) HS7.out rfl (by unfold maxLen; omega)).mono ?_
              rintro e w' ⟨rfl, n8, rfl⟩
              have T8 := Lib.hid (T6.out.drewN n8)
              clear T6 HS7
              generalize w6.drewN n8 = w8 at *
              have e1 : (D != D) = false := by simp
              go_wp2_with fail
              refine (t2_drop pp _ T8.out (i := 1) rfl D HD.out).mono ?_
              rintro e w' ⟨rfl, rfl⟩
              go_wp2_with fail
              refine (r2_drop pp _ T8.out (i := 2) rfl D HD.out).mono ?_
              rintro e w' ⟨rfl, rfl⟩
              go_wp2_with fail
              refine (spoil_msgs _ 0 X.length _ _ (T8.out.row (i := 0) rfl) (Mck.mss X) (by omega)).mono ?_
              rintro e w9 ⟨rfl, g9⟩
              have HF : Hid (BoN w g r ls w9) := Lib.hid ⟨q5, T8.out.spoilR (i := 0) rfl g9⟩
              clear T8 g9
              go_wp2_with fail
              go_roundw
              case rel => exact ⟨pp + 1, by omega, by omega, by go_num, HF⟩
              case measure => simp [intOf]; omega
            · go_wp2_with fail
              go_roundw
              case rel => exact ⟨k + 1, by omega, by omega, by go_num, HQ⟩
              case measure => simp [intOf]; omega
      · have hx : (k : Int) ≥ m ∨ ((k : Int) < m ∧ decide ((k : Int) < 80) = false) := by
          by_cases h1 : k < m
          · exact .inr ⟨by omega, by simp; omega⟩
          · exact .inl (by omega)
        have HB : Hid (Below w.heap.size w wr) := by
          obtain ⟨q, tk⟩ := HQ.out
          exact Lib.hid tk.below
        clear hgo HQ
        rcases hx with hx | ⟨hx, hx2⟩
        all_goals
          go_wp2_with fail
          refine (nawake_any _).mono ?_
          rintro e wa ⟨rfl, ba⟩
          have BA := Lib.hid ba
          clear ba
          go_wp2_with fail
          go_ret
          exact ⟨rfl, Below.down HB.out BA.out HB.out.size⟩
  · have HN := Lib.hid hN
    have HB := Lib.hid (HT.out.next b2).below
    clear b2 hN HT HLE
    go_wp2_with fail
    refine (rsnew_any _ n ls _ (HS.out.below HB.out) HL.out hnm.out).mono ?_
    rintro e w3 hnew
    rcases hnew with ⟨hN2, _⟩ | ⟨_, rfl, b3⟩
    case inl => rw [HN.out] at hN2; cases hN2
    have HB := Lib.hid (Below.down HB.out b3 HB.out.size)
    clear b3
    go_wp2_with (go_at_call 11; refine (num_any _ _).mono ?_; rintro e w' ⟨rfl, rfl⟩)
    refine (nawake_any _).mono ?_
    rintro e w4 ⟨rfl, b4⟩
    have HB := Lib.hid (Below.down HB.out b4 HB.out.size)
    clear b4
    go_wp2_with fail
    go_ret
    exact ⟨rfl, HB.out⟩

theorem law_Nics (v u : Value) (n m : Nat) (zs : List Int) (xs : List Value) (w : World) (hs : Sl w v n 2 (ints zs)) (hl : zs.length = n * 2) (hz : ∀ A n c, v = .slice A n c → n * 16 ≤ 140737488351232 ∧ (A = none → c = 0))
    (hu : Sl w u m 4 xs) (hm : m ≤ maxLen) (hr : ∀ i, i < m → ActN xs i) :
    Calls Try.prog 3 #[v, u] w fun e w' => e = .returned (.bool true) ∧ Below w.heap.size w w' := by
  obtain ⟨ls, rfl, hll⟩ := lbs_of n zs hl
  obtain ⟨A, cap, hv, _⟩ := id hs
  obtain ⟨h1, h2⟩ := hz A n cap hv
  exact nics_yes v u n m ls xs w hs hll h1 (fun m c e => by rw [hv] at e; simp only [Value.slice.injEq] at e; rw [← e.2.2]; exact h2 e.1) hu hm hr

end Go.Proofs.Ytfkdohnpfjdehaa
