/-
  Layer 20's law NicBlind: it answers true for every input.
-/
import Derived.Test.YtfkdohnpfjdehaaNcAwake
import Derived.Deep.CutBlock
import Derived.Deep.DeepCutAuto
namespace Go.Proofs.Ytfkdohnpfjdehaa
open Go.RowKit
set_option linter.unusedVariables false
set_option linter.unusedSimpArgs false
set_option maxRecDepth 100000

/-- Nothing has come to the first partition. -/
def Bl (q : Qs) : Prop := q.1 0 = [] ∧ q.2 0 = 0
theorem Bl.q0 : Bl q0 := ⟨rfl, rfl⟩
theorem Bl.sd {ls : List (Int × Int)} {q : Qs} (h : Bl q) (a : Int) (s : List UInt8) : Bl (sd ls q a 1 s) := by
  obtain ⟨Q, D⟩ := q
  obtain ⟨h1, h2⟩ := h
  unfold Go.Proofs.Ytfkdohnpfjdehaa.sd nsQ nsD adQ adD
  simp only at h1 h2 ⊢
  constructor
  · split
    · split
      · unfold upF; dsimp only; rw [if_neg (by decide)]; exact h1
      · exact h1
    · exact h1
  · split
    · split
      · exact h2
      · unfold iF; dsimp only; rw [if_neg (by decide)]; exact h2
    · exact h2
theorem Bl.rc1 {ls : List (Int × Int)} {q : Qs} (h : Bl q) : Bl (rc ls q 1) := by
  obtain ⟨h1, h2⟩ := h
  refine ⟨?_, h2⟩
  unfold rc nrQ
  dsimp only
  split
  · unfold upF; rw [if_neg (by decide)]; exact h1
  · exact h1
theorem Bl.rc0 {ls : List (Int × Int)} {q : Qs} (h : Bl q) : Bl (rc ls q 0) := by
  obtain ⟨h1, h2⟩ := h
  refine ⟨?_, h2⟩
  unfold rc nrQ
  dsimp only
  split
  · unfold upF; rw [if_pos (by decide)]; show (q.1 0).tail = []; rw [h1]; rfl
  · exact h1
theorem Bl.nrC {ls : List (Int × Int)} {q : Qs} (h : Bl q) (hl : ls.length = 2) : nrC ls q.1 0 = 2002 ∧ nrM ls q.1 0 = ⟨0, []⟩ ∧ (nqX ls q.1 0).length = 0 ∧ ndX ls q.2 0 = 0 := by
  have e : inP ls.length 0 = true := by rw [hl]; rfl
  unfold Go.Proofs.Ytfkdohnpfjdehaa.nrC nrM nqX ndX
  rw [e]
  show (if (q.1 0).length = 0 then (2002 : Int) else 0) = 2002 ∧ (q.1 0).headD ⟨0, []⟩ = ⟨0, []⟩ ∧ (q.1 0).length = 0 ∧ q.2 0 = 0
  rw [h.1]
  exact ⟨rfl, rfl, rfl, h.2⟩

set_option maxHeartbeats 4000000 in
theorem law_NicBlind (f : Int) (s : ByteArray) (y : Int) (wf : (Lit.int .i64 f).wf = true) (wy : (Lit.int .i64 y).wf = true) (w : World) (hs : s.size ≤ 140737488351232) :
    Calls Try.prog 6 #[.int .i64 f, .string s, .int .i64 y] w fun e w' => e = .returned (.bool true) ∧ Below w.heap.size w w' := by
  have hL := band y 3 (by omega) (by omega)
  have hC := band (y / 4) 15 (by omega) (by omega)
  have hF := band f 31 (by omega) (by omega)
  generalize hL' : bits BinOp.and IntKind.i64 y 3 = L at hL
  generalize hC' : bits BinOp.and IntKind.i64 (y / 4) 15 = C at hC
  generalize hF' : bits BinOp.and IntKind.i64 f 31 = F at hF
  generalize hG' : bits BinOp.and IntKind.i64 f 32 = G
  obtain ⟨hF0, hF1⟩ := hF
  obtain ⟨F, rfl⟩ := Int.eq_ofNat_of_zero_le hF0
  have hN : Hid (newL [(1, 0), (L, C)] = true) := Lib.hid (by
    unfold newL
    rw [allL_yes (fun k hk => by
      have : k = 0 ∨ k = 1 := by simp at hk; omega
      rcases this with rfl | rfl
      · rfl
      · exact lB_yes L C (by omega) (by omega) (by omega) (by omega))]
    rfl)
  have hsm : Hid (s.size ≤ maxLen) := Lib.hid (by unfold maxLen; omega)
  obtain ⟨ls, hls⟩ : ∃ ls : List (Int × Int), [(1, 0), (L, C)] = ls := ⟨_, rfl⟩
  have HL2 : Hid (ls.length = 2) := Lib.hid (by rw [← hls]; rfl)
  have HLS := Lib.hid hls
  clear wf wy hs hL hC hls
  go_enter Try.func6, Try.ntmps6
  go_wp2_with fail
  refine (nawake_any _).mono ?_
  rintro e w1 ⟨rfl, b1⟩
  have HT := Lib.hid (((Tk.empty w).next b1).alloc 54 [.int .i64 L, .int .i64 C])
  clear b1
  have c0 := (HT.out.blk (i := 0) rfl).cell 0
  have c1 := (HT.out.blk (i := 0) rfl).cell 1
  simp only [List.getElem?_cons_zero, List.getElem?_cons_succ] at c0 c1
  go_wp2_with fail
  have HS := lbs_lit (w1.alloc (.cells #[.int .i64 L, .int .i64 C] 54)) [(1, 0), (L, C)] 54
  rw [show (w1.alloc (.cells #[.int .i64 L, .int .i64 C] 54)).heap.size = w1.heap.size + 1 by simp] at HS
  have HT := Lib.hid (HT.out.next ((Below.refl _ _).alloc (Nat.le_refl _) (.cells (ints (lbs [(1, 0), (L, C)])).toArray 54)))
  refine (t2_new _ 2 [(1, 0), (L, C)] _ HT.out HS rfl (by decide) hN.out).mono ?_
  rintro e w2 ⟨ga, rfl, t⟩
  clear c0 c1 HS
  generalize w1.heap.size = bl at *
  have c0 := (t.blk (i := 1) rfl).cell 0
  have c1 := (t.blk (i := 1) rfl).cell 1
  simp only [List.getElem?_cons_zero, List.getElem?_cons_succ] at c0 c1
  have HS := Lib.hid (lbs_lit w2 [(1, 0), (L, C)] 54)
  have HT := Lib.hid (t.next ((Below.refl _ _).alloc (Nat.le_refl _) (.cells (ints (lbs [(1, 0), (L, C)])).toArray 54)))
  clear t
  go_wp2_with fail
  refine (t2_new _ 2 [(1, 0), (L, C)] _ HT.out HS.out rfl (by decide) hN.out).mono ?_
  rintro e w3 ⟨gb, rfl, t⟩
  rw [HLS.out] at t
  have HT := Lib.hid ((t.perm (.swap _ _ _)).sub (List.Sublist.cons_cons _ (List.Sublist.cons_cons _ (List.nil_sublist _))))
  clear t c0 c1 hN
  go_wp2_with fail
  refine (num_any _ _).mono ?_; rintro e w' ⟨rfl, rfl⟩
  go_wp2_with fail
  refine (num_any _ _).mono ?_; rintro e w' ⟨rfl, rfl⟩
  go_wp2_with fail
  go_loopw [12] (fun i wr => ∃ k : Nat, k ≤ F ∧ i = .int .i64 k ∧ Hid (∃ q, Bl q ∧ Tk nos w [ob2 ga ls q, ob2 gb ls q0] wr)) (fun i _ => F - (intOf i).toNat)
  case atStart => exact ⟨0, by omega, rfl, Lib.hid ⟨_, Bl.q0, HT.out⟩⟩
  case round =>
    obtain ⟨k, hk, rfl, H⟩ := hrel
    by_cases hlt : k < F
    · obtain ⟨q, hq, ht⟩ := H.out
      have HQ := Lib.hid hq; have HT := Lib.hid ht
      clear hq ht H
      go_wp2_with fail
      refine (t2_send 1 1 _ _ HT.out (i := 0) rfl (by decide) _ rfl rfl).mono ?_
      rintro e w6 ⟨rfl, t⟩
      have HT := Lib.hid t; clear t
      go_wp2_with fail
      go_roundw
      case rel => exact ⟨k + 1, by omega, by go_num, Lib.hid ⟨_, HQ.out.sd _ _, HT.out⟩⟩
      case measure => simp [intOf]; omega
    · obtain rfl : k = F := by omega
      have HE := H
      clear H
      go_upto_if 67 with fail
      go_cut [] (fun wx => Hid (∃ q, Bl q ∧ Tk nos w [ob2 ga ls q, ob2 gb ls q0] wx))
      case first =>
        obtain ⟨q, hq, ht⟩ := HE.out
        have HQ := Lib.hid hq; have HT := Lib.hid ht
        clear hq ht
        by_cases hg : G = 32
        · go_wp2_with fail
          refine (t2_recv 1 _ HT.out (i := 0) rfl _ _ rfl rfl rfl).mono ?_
          rintro e w6 ⟨rfl, t⟩
          have HT := Lib.hid t; clear t
          go_wp2_with fail
          go_meet
          exact Lib.hid ⟨_, HQ.out.rc1, HT.out⟩
        · have hg' : (G == 32) = false := by simpa using hg
          go_wp2_with fail
          go_meet
          exact HE
      case rest =>
        clear HE
        obtain ⟨q, hq, ht⟩ := hcut.out
        have HQ := Lib.hid hq; have HT := Lib.hid ht
        clear hq ht hcut
        generalize wc = w5 at *
        obtain ⟨N, hN⟩ : ∃ N, nsC ls 0 1 s.size = N := ⟨_, rfl⟩
        have HN := Lib.hid hN
        clear hN
        go_wp2_with fail
        refine (t2_send 0 1 s _ HT.out (i := 0) rfl hsm.out N HN.out rfl).mono ?_
        rintro e w6 ⟨rfl, t⟩
        have HT := Lib.hid t; clear t
        go_wp2_with fail
        refine (t2_send 0 1 s _ HT.out (i := 1) rfl hsm.out N HN.out rfl).mono ?_
        rintro e w7 ⟨rfl, t⟩
        have HA : Hid (Bl (sd ls q 0 1 s.data.toList)) := Lib.hid (HQ.out.sd _ _)
        have HB : Hid (Bl (sd ls q0 0 1 s.data.toList)) := Lib.hid (Bl.q0.sd _ _)
        have HT := Lib.hid (show Tk nos w [ob2 ga ls (sd ls q 0 1 s.data.toList), ob2 gb ls (sd ls q0 0 1 s.data.toList)] w7 from t)
        clear t HQ
        generalize sd ls q 0 1 s.data.toList = qa at *
        generalize sd ls q0 0 1 s.data.toList = qb at *
        go_wp2_with fail
        refine (t2_recv 0 _ HT.out (i := 0) rfl ⟨0, []⟩ 2002 (HA.out.nrC HL2.out).2.1 (HA.out.nrC HL2.out).1 rfl).mono ?_
        rintro e w8 ⟨rfl, t⟩
        have HA := Lib.hid (HA.out.rc0 (ls := ls))
        have HT := Lib.hid ((show Tk nos w [ob2 ga ls (rc ls qa 0), ob2 gb ls qb] w8 from t).alloc 41 [.int .i64 0, .string ⟨#[]⟩])
        clear t
        rw [show str [] = ⟨#[]⟩ from rfl]
        go_wp2_with fail
        generalize w8.heap.size = ba at *
        refine (t2_recv 0 _ HT.out (i := 2) rfl ⟨0, []⟩ 2002 (HB.out.nrC HL2.out).2.1 (HB.out.nrC HL2.out).1 rfl).mono ?_
        rintro e w9 ⟨rfl, t⟩
        have HB := Lib.hid (HB.out.rc0 (ls := ls))
        have HT := Lib.hid ((show Tk nos w [obB ba 41 [.int .i64 0, .string ⟨#[]⟩], ob2 ga ls (rc ls qa 0), ob2 gb ls (rc ls qb 0)] w9 from t).alloc 41 [.int .i64 0, .string ⟨#[]⟩])
        clear t
        generalize rc ls qa 0 = qa at *
        generalize rc ls qb 0 = qb at *
        rw [show str [] = ⟨#[]⟩ from rfl]
        go_wp2_with fail
        refine (num_any _ _).mono ?_; rintro e w' ⟨rfl, rfl⟩
        go_wp2_with fail
        refine (num_any _ _).mono ?_; rintro e w' ⟨rfl, rfl⟩
        have c0 := (HT.out.blk (i := 1) rfl).cell 0
        have c1 := (HT.out.blk (i := 1) rfl).cell 1
        simp only [List.getElem?_cons_zero, List.getElem?_cons_succ] at c0 c1
        have hNN : (N == N) = true := by simp
        go_wp2_with fail
        refine (num_any _ _).mono ?_; rintro e w' ⟨rfl, rfl⟩
        clear c0 c1
        go_wp2_with fail
        refine (num_any _ _).mono ?_; rintro e w' ⟨rfl, rfl⟩
        go_wp2_with fail
        refine (t2_qlen 0 _ HT.out (i := 2) rfl 0 (HA.out.nrC HL2.out).2.2.1).mono ?_
        rintro e w10 ⟨A, c, rfl, t⟩
        have HT := Lib.hid t; clear t
        go_wp2_with fail
        refine (t2_qlen 0 _ HT.out (i := 3) rfl 0 (HB.out.nrC HL2.out).2.2.1).mono ?_
        rintro e w11 ⟨A, c, rfl, t⟩
        have HT := Lib.hid t; clear t
        go_wp2_with fail
        refine (t2_drop 0 _ HT.out (i := 2) rfl 0 (HA.out.nrC HL2.out).2.2.2).mono ?_
        rintro e w' ⟨rfl, rfl⟩
        go_wp2_with fail
        refine (t2_drop 0 _ HT.out (i := 3) rfl 0 (HB.out.nrC HL2.out).2.2.2).mono ?_
        rintro e w' ⟨rfl, rfl⟩
        go_wp2_with fail
        go_ret
        exact ⟨rfl, HT.out.below⟩

end Go.Proofs.Ytfkdohnpfjdehaa
