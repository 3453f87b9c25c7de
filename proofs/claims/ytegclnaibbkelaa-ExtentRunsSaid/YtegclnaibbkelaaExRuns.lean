/-
  Layer 18's law ExtentRuns: it answers true for every input.
-/
import Derived.Test.YtegclnaibbkelaaExAwake
import Derived.Test.YtegclnaibbkelaaEx3
namespace Go.Proofs.Ytegclnaibbkelaa
open Go.RowKit
set_option linter.unusedVariables false
set_option linter.unusedSimpArgs false
set_option maxRecDepth 100000

/-- The set behind some shares. -/
def setF : List (Int × Int) → (Nat → Bool) → Nat → Bool
  | [], F => F
  | p :: ps, F => setF ps (addF F p.1.toNat p.2.toNat)
theorem goB_snoc (s : Int) (q : Int × Int) : ∀ (ps : List (Int × Int)) (F : Nat → Bool), goB (ps ++ [q]) s F = (goB ps s F && (runB q.1 q.2 s && freeB (setF ps F) q.1.toNat q.2.toNat)) := by
  intro ps
  induction ps with
  | nil => intro F; simp [goB, setF]
  | cons p ps ih => intro F; simp only [List.cons_append, goB, setF, ih, Bool.and_assoc]
theorem setF_snoc (q : Int × Int) : ∀ (ps : List (Int × Int)) (F : Nat → Bool), setF (ps ++ [q]) F = addF (setF ps F) q.1.toNat q.2.toNat := by
  intro ps
  induction ps with
  | nil => intro F; rfl
  | cons p ps ih => intro F; simp only [List.cons_append, setF, ih]
/-- Shares that lie one behind the other, up to a. -/
structure Rn (ps : List (Int × Int)) (a : Nat) : Prop where
  go : ∀ s : Int, (a : Int) ≤ s → goB ps s noB = true
  free : ∀ t : Nat, a ≤ t → setF ps noB t = false
  le : a ≤ 15 * ps.length
  each : ∀ i, i < ps.length → 0 ≤ (ps.getD i (0, 0)).1 ∧ 0 ≤ (ps.getD i (0, 0)).2 ∧ (ps.getD i (0, 0)).2 ≤ 15 ∧ (ps.getD i (0, 0)).1 + (ps.getD i (0, 0)).2 ≤ a
  last : ∀ i, i + 1 = ps.length → (ps.getD i (0, 0)).1 + (ps.getD i (0, 0)).2 = a
theorem Rn.nil : Rn [] 0 := ⟨fun _ _ => rfl, fun _ _ => rfl, by simp, fun i h => by simp at h, fun i h => by simp at h⟩
theorem Rn.snoc {ps : List (Int × Int)} {a c : Nat} (h : Rn ps a) (hc : c ≤ 15) : Rn (ps ++ [((a : Int), (c : Int))]) (a + c) := by
  have hl : (ps ++ [((a : Int), (c : Int))]).length = ps.length + 1 := by simp
  have g1 : ∀ i, i < ps.length → (ps ++ [((a : Int), (c : Int))]).getD i (0, 0) = ps.getD i (0, 0) := by
    intro i hi; simp only [List.getD, List.getElem?_append_left hi]
  have g2 : (ps ++ [((a : Int), (c : Int))]).getD ps.length (0, 0) = ((a : Int), (c : Int)) := by simp [List.getD]
  refine ⟨fun s hs => ?_, fun t ht => ?_, by rw [hl]; have := h.le; omega, fun i hi => ?_, fun i hi => ?_⟩
  · rw [goB_snoc, h.go s (by omega), Bool.true_and, Bool.and_eq_true]
    refine ⟨decide_eq_true (by simp only; omega), ?_⟩
    simp only [Int.toNat_natCast]
    exact (freeB_iff _ _ _).2 fun i _ => h.free _ (by omega)
  · rw [setF_snoc]
    simp only [Int.toNat_natCast]
    unfold addF
    rw [h.free t (by omega), decide_eq_false (show ¬ t < a + c by omega)]; simp
  · rw [hl] at hi
    by_cases e : i < ps.length
    · rw [g1 i e]; have := h.each i e; omega
    · obtain rfl : i = ps.length := by omega
      rw [g2]; simp only; omega
  · rw [hl] at hi
    obtain rfl : i = ps.length := by omega
    rw [g2]; simp only; omega
theorem Rn.ext {ps : List (Int × Int)} {a : Nat} (h : Rn ps a) (h1 : 1 ≤ ps.length) (h4 : ps.length ≤ 4) {s : Int} (hs : (a : Int) ≤ s) (h64 : s ≤ 64) : extB ps s = true := by
  unfold extB; rw [decide_eq_true (show 1 ≤ ps.length ∧ ps.length ≤ 4 from ⟨h1, h4⟩), decide_eq_true (show 0 ≤ s ∧ s ≤ 64 by omega), h.go s hs]; rfl
/-- Within less than all of them only if the last one holds none. -/
theorem Rn.short {ps : List (Int × Int)} {a : Nat} (h : Rn ps a) {s : Int} (hs : s < a) (he : extB ps s = true) (i : Nat) (hi : i + 1 = ps.length) : False := by
  have h1 := h.last i hi
  have h2 := extB_run he i (by omega)
  omega

set_option maxHeartbeats 4000000 in
theorem law_ExtentRuns (u : Value) (n : Nat) (zs : List Int) (x y z : Int) (w : World) (hs : Sl w u n 1 (ints zs)) (hn : n ≤ maxLen) (hl : zs.length = n) :
    Calls Try.prog 6 #[u, .int .i64 x, .int .i64 y, .int .i64 z] w fun e w' => e = .returned (.bool true) ∧ Below w.heap.size w w' := by
  obtain ⟨A, cap, rfl, hc, _, hA⟩ := hs
  have HA := Lib.hid hA; have HL := Lib.hid hl
  unfold maxLen at hn
  obtain ⟨i0, hi, hy0, hy1, hy2⟩ := info_parts infoPart
  have HI := Lib.hid hi; have HY0 := Lib.hid hy0; have HY1 := Lib.hid hy1; have HY2 := Lib.hid hy2
  have hU := u64b x
  generalize hU' : IntKind.u64.wrap x = U at hU
  obtain ⟨hU0, hU1⟩ := hU
  have hF := band y 15 (by omega) (by omega)
  generalize hF' : bits BinOp.and IntKind.i64 y 15 = F at hF
  have hM := band z 15 (by omega) (by omega)
  generalize hM' : bits BinOp.and IntKind.i64 z 15 = M at hM
  obtain ⟨hF0, hF1⟩ := hF
  obtain ⟨hM0, hM1⟩ := hM
  obtain ⟨f, rfl⟩ := Int.eq_ofNat_of_zero_le hF0
  obtain ⟨m, rfl⟩ := Int.eq_ofNat_of_zero_le hM0
  clear hi hy0 hy1 hy2 hA hl
  go_enter Try.func6, Try.ntmps6
  go_wp2_with fail
  refine (exawake_any _).mono ?_
  rintro e w1 ⟨rfl, b1⟩
  have HB := Lib.hid b1
  clear b1
  go_wp2_with fail
  go_loopw [9, 10, 11] (fun r q i wr => ∃ (k a : Nat) (v : Value) (ps : List (Int × Int)), k ≤ n ∧ k ≤ 4 ∧ v = r ∧ q = .int .i64 a ∧ i = .int .i64 k ∧ a ≤ 60 ∧ Hid (ps.length = k ∧ Rn ps a ∧ wr.ownsRow w.heap.size 39 5 v k (zpl ps) ∧ Below w.heap.size w wr)) (fun _ _ i _ => 4 - (intOf i).toNat)
  case atStart => exact ⟨0, 0, _, [], by omega, by omega, rfl, rfl, rfl, by omega, Lib.hid ⟨rfl, Rn.nil, World.ownsRow_nil _ _ _ _, HB.out⟩⟩
  case round =>
    clear HB
    obtain ⟨k, a, v, ps, hk, hk4, rfl, rfl, rfl, ha, H⟩ := hrel
    by_cases hlt : k < n ∧ k < 4
    · obtain ⟨hlt, hlt4⟩ := hlt
      obtain ⟨b, o, rfl, hb, hcell⟩ := HA.out (by omega)
      have p0 := hcell _ _ (ints_get zs k (by rw [HL.out]; exact hlt))
      obtain ⟨h1, h2, h3, h4⟩ := H.out
      rw [← h4.cell (p := ⟨b, o + k, none⟩) hb] at p0
      generalize zs.getD k 0 = zk at p0
      have hG := band zk 15 (by omega) (by omega)
      generalize hG' : bits BinOp.and IntKind.i64 zk 15 = G at hG
      obtain ⟨hG0, hG1⟩ := hG
      obtain ⟨g, rfl⟩ := Int.eq_ofNat_of_zero_le hG0
      have HRN := Lib.hid (h2.snoc (c := g) (by omega))
      have hle := HRN.out.le
      rw [List.length_append, h1] at hle
      simp only [List.length_cons, List.length_nil] at hle
      have HROW := Lib.hid h3; have HB := Lib.hid h4; have HPL := Lib.hid h1
      have hws := h4.size
      clear hcell h1 h2 h3 h4 H
      go_wp2_with (at_builtin; refine wpList_append_own _ rfl _ _ 22 rfl w.heap.size 39 i0 _ 5 56 Try.underlying22 HI.out HY0.out HY1.out HY2.out rfl (by decide) _ k (zpl ps) rfl (HROW.out.alloc _) ⟨wr.heap.size, 0, none⟩ 1 1 (zpl [((a : Int), (g : Int))]) rfl rfl (by exact row_new wr (zpl [((a : Int), (g : Int))]) _) ?h1 (by unfold maxLen; omega) (by omega) (by simp; omega) ?_)
      case h1 =>
        intro u hu
        rw [zpl_one] at hu
        simp only [zpc, List.mem_cons, List.not_mem_nil, or_false] at hu
        rcases hu with rfl | rfl | rfl | rfl | rfl <;> rfl
      intro v2 w2 ho2 hg2 _
      rw [← zpl_append] at ho2
      have HB2 := Lib.hid ((HB.out.alloc hws _).grown hg2 (by simp; omega) (fun x hx => (HROW.out.lt x hx).1))
      have HO2 := Lib.hid ho2
      clear ho2 hg2
      go_wp2_with fail
      go_roundw
      case rel => exact ⟨k + 1, a + g, _, _, by omega, by omega, rfl, by go_num, by go_num, by omega, Lib.hid ⟨by rw [List.length_append, HPL.out]; rfl, HRN.out, HO2.out, HB2.out⟩⟩
      case measure => simp [intOf]; omega
    · obtain ⟨hPL, hRN, hROW, hBW⟩ := H.out
      have HB := Lib.hid hBW
      have hPT : PtS wr v ps := PtS.of_sl (Sl.own hROW) hPL (by unfold maxLen; omega)
      obtain ⟨Av, cv, rfl, -⟩ := own_nilcap hROW
      have hws := hBW.size
      by_cases h0 : k = 0
      · subst h0
        have hn0 : n = 0 := by omega
        obtain rfl : ps = [] := List.length_eq_zero_iff.1 hPL
        have HPT := Lib.hid hPT
        have HE : Hid (extB [] (a : Int) = false) := Lib.hid (by simp [extB])
        clear hPL hRN hROW hBW hPT H hlt
        go_wp2_with fail
        refine (extmay_is _ [] _ _ HPT.out false HE.out).mono ?_
        rintro e w2 ⟨rfl, b2⟩
        have HB := Lib.hid (Below.down HB.out b2 HB.out.size)
        clear b2
        go_wp2_with fail
        go_ret
        exact ⟨rfl, HB.out⟩
      · have hk1 : 1 ≤ k := by omega
        have HE1 := Lib.hid (hRN.ext (s := a) (by omega) (by omega) (by omega) (by omega))
        have HE64 := Lib.hid (hRN.ext (s := 64) (by omega) (by omega) (by omega) (by omega))
        have hP0 : 0 ≤ U % (k : Int) := Int.emod_nonneg _ (by omega)
        have hP1 : U % (k : Int) < k := Int.emod_lt_of_pos _ (by omega)
        obtain ⟨p, hp⟩ := Int.eq_ofNat_of_zero_le hP0
        rw [hp] at hP1
        have hpk : p < k := by omega
        obtain ⟨q, hq⟩ : ∃ q, k = q + 1 := ⟨k - 1, by omega⟩
        have hpe := hRN.each p (by omega)
        have hshort := fun s hs he => hRN.short (s := s) hs he q (by omega)
        obtain ⟨A', cap', e', -, hA'⟩ := id hPT
        rw [hPL] at e' hA'
        simp only [Value.slice.injEq] at e'
        obtain ⟨rfl, -, rfl⟩ := e'
        obtain ⟨b, o, rfl, hb, hcell⟩ := hA' (by omega)
        obtain ⟨_, _, _, _, _, -, -, -, a3, a4⟩ := hcell p hpk
        have hat := fun lba n => toC_at (lba := lba) (n := n) HE64.out (p := p) (by omega)
        obtain ⟨fi, hfi⟩ := Int.eq_ofNat_of_zero_le hpe.1
        obtain ⟨co, hco⟩ := Int.eq_ofNat_of_zero_le hpe.2.1
        simp only [hfi, hco] at hat a3 a4
        have hco15 : co ≤ 15 := by omega
        have hfi64 : fi ≤ 64 := by omega
        have hcq0 : ∀ s : Int, s < a → extB ps s = true → False := hshort
        have HQ : Hid (∀ W, Below wr.heap.size wr W → W.cell? ⟨b, o + p * 5 + 3, none⟩ = some (.int .i64 fi) ∧ W.cell? ⟨b, o + p * 5 + 4, none⟩ = some (.int .i64 co)) := Lib.hid fun W hW =>
          ⟨(hW.cell (p := ⟨b, _, none⟩) hb).trans a3, (hW.cell (p := ⟨b, _, none⟩) hb).trans a4⟩
        have HAT := Lib.hid hat; have HPT := Lib.hid hPT; have HSH := Lib.hid hcq0
        have HBR := Lib.hid (Below.refl wr.heap.size wr)
        have hw : n ≤ k ∨ (k < n ∧ 4 ≤ k) := by omega
        clear hPL hRN hROW hBW hPT H hlt hP0 hP1 hpe hshort hA' hcell a3 a4 hat hfi hco hcq0 hq HL HA
        rcases hw with hw | ⟨hw, hw2⟩
        all_goals
          go_wp2_with fail
          refine (extmay_is _ ps _ _ HPT.out true HE1.out).mono ?_
          rintro e w2 ⟨rfl, b2⟩
          have HBR := Lib.hid (Below.down HBR.out b2 HBR.out.size)
          clear b2
          obtain ⟨p3, p4⟩ := HQ.out _ HBR.out
          by_cases hfm : f + m ≤ co
          · have hto : toC ps p f m = ((fi : Int) + (f : Int), 0) := by rw [HAT.out, if_pos]; exact decide_eq_true (by omega)
            have HTO := Lib.hid hto
            have HT1 : Hid (∀ i : Nat, i < m → toC ps p ((f : Int) + (i : Int)) 1 = ((fi : Int) + (f : Int) + (i : Int), 0)) := Lib.hid fun i hi => by rw [HAT.out, if_pos (show runB ((f : Int) + (i : Int)) 1 co = true from decide_eq_true (by omega)), Int.add_assoc]
            clear hto
            go_wp2_with fail
            refine (to_is _ ps _ _ _ _ (HPT.out.below HBR.out) _ _ HTO.out).mono ?_
            rintro e w3 ⟨rfl, b3⟩
            have HBR := Lib.hid (Below.down HBR.out b3 HBR.out.size)
            clear b3 p3 p4
            obtain ⟨p3, p4⟩ := HQ.out _ HBR.out
            go_wp2_with fail
            refine (num_any _ _).mono ?_; rintro e w' ⟨rfl, rfl⟩
            go_wp2_with fail
            clear p3 p4
            go_loopw [18] (fun j wi => ∃ i : Nat, i ≤ m ∧ j = .int .i64 i ∧ Hid (Below wr.heap.size wr wi)) (fun j _ => m - (intOf j).toNat)
            case atStart => exact ⟨0, by omega, rfl, HBR⟩
            case round =>
              clear HBR
              obtain ⟨i, hi, rfl, HBR⟩ := hrel
              by_cases him : i < m
              · have HT2 := Lib.hid (HT1.out i him)
                go_wp2_with fail
                refine (to_is _ ps _ _ _ _ (HPT.out.below HBR.out) _ _ HT2.out).mono ?_
                rintro e w4 ⟨rfl, b3⟩
                have HBR := Lib.hid (Below.down HBR.out b3 HBR.out.size)
                clear b3
                go_wp2_with fail
                refine (num_any _ _).mono ?_; rintro e w' ⟨rfl, rfl⟩
                go_wp2_with fail
                go_roundw
                case rel => exact ⟨i + 1, by omega, by go_num, HBR⟩
                case measure => simp [intOf]; omega
              · by_cases ha0 : a = 0
                · subst ha0
                  go_wp2_with fail
                  go_ret
                  exact ⟨rfl, HB.out.trans (HBR.out.mono hws)⟩
                · have k1 : ((a : Int) == 0) = false := by rw [beq_eq_false_iff_ne]; omega
                  have HF : Hid (extB ps ((a : Int) - 1) = false) := Lib.hid (by
                    cases he : extB ps ((a : Int) - 1)
                    · rfl
                    · exact (HSH.out _ (by omega) he).elim)
                  have ha1 : 1 ≤ a := by omega
                  go_wp2_with fail
                  refine (extmay_is _ ps _ _ (HPT.out.below HBR.out) false HF.out).mono ?_
                  rintro e w4 ⟨rfl, b3⟩
                  have HBR := Lib.hid (Below.down HBR.out b3 HBR.out.size)
                  clear b3
                  go_wp2_with fail
                  go_ret
                  exact ⟨rfl, HB.out.trans (HBR.out.mono hws)⟩
          · have hto : toC ps p f m = (0, 1801) := by rw [HAT.out, if_neg]; intro h; have := of_decide_eq_true h; omega
            have HTO := Lib.hid hto
            clear hto
            go_wp2_with fail
            refine (to_is _ ps _ _ _ _ (HPT.out.below HBR.out) 0 1801 HTO.out).mono ?_
            rintro e w3 ⟨rfl, b3⟩
            have HBR := Lib.hid (Below.down HBR.out b3 HBR.out.size)
            clear b3 p3 p4
            obtain ⟨p3, p4⟩ := HQ.out _ HBR.out
            go_wp2_with fail
            refine (num_any _ _).mono ?_; rintro e w' ⟨rfl, rfl⟩
            go_wp2_with fail
            go_ret
            exact ⟨rfl, HB.out.trans (HBR.out.mono hws)⟩

end Go.Proofs.Ytegclnaibbkelaa
