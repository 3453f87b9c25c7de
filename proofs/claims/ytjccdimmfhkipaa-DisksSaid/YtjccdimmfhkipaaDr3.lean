/-
  Layer 19, the document: NewDisk of shares that may be.
-/
import Derived.Test.YtjccdimmfhkipaaDr2
namespace Go.Proofs.Ytjccdimmfhkipaa
open Go.RowKit Go.ChangeShapes Go.WideShapes Go.Deep
set_option linter.unusedVariables false
set_option linter.unusedSimpArgs false
set_option maxRecDepth 100000

set_option maxHeartbeats 4000000 in
theorem rdnew_yes (v : Value) (ps : List (Int × Int)) (N : Nat) (q : Int) (w : World) (h : PtS w v ps) (hE : extB ps N = true) (q0 : 0 ≤ q) (q64 : q ≤ 64) :
    Calls Try.prog 10 #[v, .int .i64 N, .int .i64 q] w fun e w' => ∃ r, e = .returned (.tuple #[.pointer (some ⟨r, 0, none⟩), .int .i64 0]) ∧ Tk nos w [obRD r ps N q (qF q ps.length) (zeros 1024)] w' := by
  have HM := Lib.hid (rextmay_any v ps N w h)
  rw [hE] at HM
  have HP := Lib.hid h
  have HE := Lib.hid hE
  obtain ⟨h1, h4, _, hN64, _⟩ := extB_parts hE
  obtain ⟨b, o, cap, Lp, rfl, hLp, hps, hbw, hsl, hnews⟩ := h.news h1
  obtain ⟨P, hl⟩ : ∃ P, ps.length = P := ⟨_, rfl⟩
  have HL := Lib.hid hl
  rw [hl] at h1 h4 HM HP hLp ⊢
  have HLP := Lib.hid hLp; have HPS := Lib.hid hps; have HSL := Lib.hid hsl; have HNW := Lib.hid hnews
  have hmk := fun W => make_u8 W (N * 16) (by omega)
  rw [show ((N * 16 : Nat) : Int) = (N : Int) * 16 by omega] at hmk
  obtain ⟨Z, hZ⟩ : ∃ Z, zeros (N * 16) = Z := ⟨_, rfl⟩
  have HZ := Lib.hid hZ
  rw [hZ] at hmk
  obtain ⟨i0, hi, hz0, hz1, hz2⟩ := info_parts infoPart
  have HI := Lib.hid hi; have HZ0 := Lib.hid hz0; have HZ1 := Lib.hid hz1; have HZ2 := Lib.hid hz2
  have n0 : decide (q < 0) = false := by simp; omega
  have n1 : decide (64 < q) = false := by simp; omega
  have HPC : Hid ((pcl Lp).length = P * 5) := Lib.hid (by rw [pcl_len, hLp])
  have H1 := Lib.hid (pcl_one5 hsl)
  clear h hE hl hLp hps hsl hnews hZ hi hz0 hz1 hz2
  have hwr : IntKind.i64.wrap ((N : Int) * 16) = (N : Int) * 16 := IntWalk.i64_in _ (by omega)
  go_enter Try.func10, Try.ntmps10
  go_wp2_with fail
  refine HM.out.mono ?_
  rintro e w1 ⟨rfl, b1⟩
  have HB1 := Lib.hid b1
  have HNW1 : Hid (∀ W, Below w1.heap.size w1 W → ∀ j u, (pcl Lp)[j]? = some u → W.cell? ((⟨b, o, none⟩ : Addr).add j) = some u) := Lib.hid (fun W hW j u hj => by
    rw [add_none]
    exact ((Below.down b1 hW b1.size).cell (p := ⟨b, o + j, none⟩) hbw).trans (HNW.out j u hj))
  clear b1
  have T0 := ((Tk.empty w).next HB1.out).drewN 1
  have T1 : Hid (Tk nos w [obE5 w1.heap.size] (w1.drew.alloc (.cells #[] 39))) := Lib.hid T0.empt
  have T2 : Hid (Tk nos w [obB (w1.heap.size + 1) 5 (bts Z), obE5 w1.heap.size] ((w1.drew.alloc (.cells #[] 39)).alloc (.cells (bts Z).toArray 5))) := Lib.hid (by
    have := T1.out.alloc 5 (bts Z)
    rwa [World.size_alloc] at this)
  have T3 : Hid (Tk nos w [obE5 (w1.heap.size + 1), obB w1.heap.size 5 (bts Z)] ((w1.drew.alloc (.cells (bts Z).toArray 5)).alloc (.cells #[] 39))) := Lib.hid (by
    have := (T0.alloc 5 (bts Z)).empt
    rwa [World.size_alloc] at this)
  have B1 : Hid (Below w1.heap.size w1 (w1.drew.alloc (.cells #[] 39))) := Lib.hid ((bdrewN (Below.refl _ _) 1).alloc (Nat.le_refl _) _)
  have B2 : Hid (Below w1.heap.size w1 ((w1.drew.alloc (.cells #[] 39)).alloc (.cells (bts Z).toArray 5))) := Lib.hid (B1.out.alloc (by simp) _)
  have B3 : Hid (Below w1.heap.size w1 ((w1.drew.alloc (.cells (bts Z).toArray 5)).alloc (.cells #[] 39))) := Lib.hid (((bdrewN (Below.refl _ _) 1).alloc (Nat.le_refl _) _).alloc (by simp) _)
  clear T0 HNW
  go_upto_region 3 with fail
  go_cut [8] (fun v wx => ∃ y, v = .pointer (some ⟨y, 0, none⟩) ∧ Hid (NwD w ps P N q Z y 0 wx))
  case first =>
    go_region_law ((first | (refine step_append_lies _ (by rfl) _ _ 22 (by rfl) 0 39 i0 _ 5 56 Try.underlying22 HI.out HZ0.out HZ1.out HZ2.out (by rfl) (by decide) (.slice (some ⟨w1.heap.size, 0, none⟩) 0 0) 0 [] (by rfl) (T1.out.row (i := 0) rfl) ⟨b, o, none⟩ P cap (pcl Lp) (by rfl) HPC.out ((HNW1.out _ B1.out)) H1.out h1 (by unfold maxLen; omega) (by omega) (Nat.zero_le _) (w1.heap.size + 1) (by simp) ?_; intro g cap2 w2 own2 gr2 hat hlt2; simp only [Nat.zero_add, List.nil_append] at own2) | (refine step_append_lies _ (by rfl) _ _ 22 (by rfl) 0 39 i0 _ 5 56 Try.underlying22 HI.out HZ0.out HZ1.out HZ2.out (by rfl) (by decide) (.slice (some ⟨w1.heap.size, 0, none⟩) 0 0) 0 [] (by rfl) (T2.out.row (i := 1) rfl) ⟨b, o, none⟩ P cap (pcl Lp) (by rfl) HPC.out ((HNW1.out _ B2.out)) H1.out h1 (by unfold maxLen; omega) (by omega) (Nat.zero_le _) (w1.heap.size + 1 + 1) (by simp) ?_; intro g cap2 w2 own2 gr2 hat hlt2; simp only [Nat.zero_add, List.nil_append] at own2) | (refine step_append_lies _ (by rfl) _ _ 22 (by rfl) 0 39 i0 _ 5 56 Try.underlying22 HI.out HZ0.out HZ1.out HZ2.out (by rfl) (by decide) (.slice (some ⟨w1.heap.size + 1, 0, none⟩) 0 0) 0 [] (by rfl) (T3.out.row (i := 0) rfl) ⟨b, o, none⟩ P cap (pcl Lp) (by rfl) HPC.out ((HNW1.out _ B3.out)) H1.out h1 (by unfold maxLen; omega) (by omega) (Nat.zero_le _) (w1.heap.size + 1 + 1) (by simp) ?_; intro g cap2 w2 own2 gr2 hat hlt2; simp only [Nat.zero_add, List.nil_append] at own2)))
    · have t := (T1.out.turnR (i := 0) (n' := P) (xs' := pcl Lp) rfl gr2 own2 (fun x hx => by
          have e : g = x := by simpa [Value.ownBlock] using hx
          subst e
          rcases hat with h | h
          · exact .inl h
          · exact .inr (by simp; omega))).alloc 5 (bts Z)
      have HF := Lib.hid (NwD.of (y := w2.heap.size + 1) (N := N) (Q := q) t h1 (by unfold maxLen; omega) HLP.out HPS.out HSL.out (by simp))
      clear t own2 gr2 hat hlt2
      go_wp2_with fail
      go_meet
      exact ⟨_, rfl, HF⟩
    · have t := T2.out.turnR (i := 1) (n' := P) (xs' := pcl Lp) rfl gr2 own2 (fun x hx => by
          have e : g = x := by simpa [Value.ownBlock] using hx
          subst e
          rcases hat with h | h
          · exact .inl h
          · exact .inr (by simp; omega))
      have HF := Lib.hid (NwD.of (y := w2.heap.size) (N := N) (Q := q) t h1 (by unfold maxLen; omega) HLP.out HPS.out HSL.out rfl)
      clear t own2 gr2 hat hlt2
      go_wp2_with fail
      go_meet
      exact ⟨_, rfl, HF⟩
    · have t := (T3.out.turnR (i := 0) (n' := P) (xs' := pcl Lp) rfl gr2 own2 (fun x hx => by
          have e : g = x := by simpa [Value.ownBlock] using hx
          subst e
          rcases hat with h | h
          · exact .inl h
          · exact .inr (by simp; omega))).perm (.swap _ _ _)
      have HF := Lib.hid (NwD.of (y := w2.heap.size) (N := N) (Q := q) t h1 (by unfold maxLen; omega) HLP.out HPS.out HSL.out rfl)
      clear t own2 gr2 hat hlt2
      go_wp2_with fail
      go_meet
      exact ⟨_, rfl, HF⟩
  case rest =>
    obtain ⟨y, rfl, HD⟩ := hcut
    have HD := HD
    clear T1 T2 T3 B1 B2 B3 HNW1 hmk hwr HI HZ0 HZ1 HZ2 n0 n1
    obtain ⟨j0, hj, hj0, hj1, hj2⟩ := info_parts infoIntD
    have HJ := Lib.hid hj; have HJ0 := Lib.hid hj0; have HJ1 := Lib.hid hj1; have HJ2 := Lib.hid hj2
    clear hj hj0 hj1 hj2
    go_wp2_with fail
    go_loopw [9] (fun i wr => ∃ k : Nat, k ≤ P ∧ i = .int .i64 k ∧ Hid (NwD w ps P N q Z y k wr)) (fun i _ => P - (intOf i).toNat)
    case atStart => exact ⟨0, by omega, rfl, HD⟩
    case round =>
      clear HD
      obtain ⟨k, hk, rfl, H⟩ := hrel
      obtain ⟨a, ca, hb, cs, u, hpt, tk⟩ := H.out
      have HPT := Lib.hid hpt
      clear hpt H
      by_cases hlt : k < P
      · obtain ⟨A4, c4, hu, -⟩ := tk.sl (i := 0) rfl
        subst hu
        have HTK := Lib.hid tk
        have hbk := tk.blk (i := 1) rfl
        have hc := hbk.cell 3
        simp only [List.getElem?_cons_zero, List.getElem?_cons_succ] at hc
        have hca := (hbk.alloc (.cells #[.int .i64 q] 3)).cell 3
        simp only [List.getElem?_cons_zero, List.getElem?_cons_succ] at hca
        have HOW := Lib.hid (tk.row (i := 0) rfl)
        have HBK := Lib.hid (hbk.alloc (.cells #[.int .i64 q] 3))
        have hlt2 := hbk.lt
        have hown : Hid ((wr.alloc (.cells #[.int .i64 q] 3)).ownsRow 0 3 1 (.slice A4 k c4) k (itc (qF q k) k)) := Lib.hid (HOW.out.alloc _)
        clear tk hbk
        go_wp2_with (at_builtin; refine wpList_append_lies _ rfl _ _ 37 rfl 0 3 j0 _ 1 8 Try.underlying37 HJ.out HJ0.out HJ1.out HJ2.out rfl (by decide) (.slice A4 k c4) k (itc (qF q k) k) rfl hown.out ⟨wr.heap.size, 0, none⟩ 1 1 [.int .i64 q] rfl rfl (by exact row_new wr [.int .i64 q] _) (by intro u hu; simp only [List.mem_cons, List.not_mem_nil, or_false] at hu; rw [hu]; rfl) (by omega) (by unfold maxLen; omega) (by omega) (Nat.zero_le _) (wr.heap.size + 1) (by simp) ?_)
        intro g cap2 w2 own2 gr2 hat hlt3
        have hb2 := HBK.out.grown gr2 (fun e => own_apart_blk hown.out HBK.out (by decide) e.symm)
        have hc2 := hb2.cell 3
        simp only [List.getElem?_cons_zero, List.getElem?_cons_succ] at hc2
        have hf2 := hb2.frozen 3
        have t1 := HTK.out.alloc 3 [.int .i64 q]
        have t2 := t1.turnR (i := 1) (n' := k + 1) (xs' := itc (qF q (k + 1)) (k + 1)) rfl gr2 (by rw [itc_qF]; exact own2) (fun x hx => by
            have e : g = x := by simpa [Value.ownBlock] using hx
            subst e
            rcases hat with h | h
            · exact .inl h
            · exact .inr (by rw [World.size_alloc]; omega))
        have t3 := t2.store (i := 2) rfl 3 (.slice (some ⟨g, 0, none⟩) (k + 1) cap2)
        have T3 := Lib.hid (show NwD w ps P N q Z y (k + 1) (w2.setCell ⟨y, 3, none⟩ (.slice (some ⟨g, 0, none⟩) (k + 1) cap2)) from ⟨a, ca, hb, cs, .slice (some ⟨g, 0, none⟩) (k + 1) cap2, HPT.out, t3.tail⟩)
        clear t1 t2 t3 own2 gr2 hat hb2 hc hca HTK HOW HBK hown
        go_wp2_with fail
        go_roundw
        case rel => exact ⟨k + 1, by omega, by go_num, T3⟩
        case measure => simp [intOf]; omega
      · obtain rfl : k = P := by omega
        obtain ⟨g, c, e, -⟩ := (tk.row (i := 0) rfl).form (by omega)
        have HE2 : Hid (Tk nos w [obRD y ps N q (qF q ps.length) (zeros 1024)] wr) := Lib.hid (tk.wrap1 (fun {S w} hh => by
          obtain ⟨S1, S2, h1, ⟨S3, S4, h3, ⟨S5, S6, h5, h6, d3, e3⟩, d2, e2⟩, d1, e1⟩ := hh
          have h6 := obs_one.1 h6
          subst e
          refine ⟨(a, ca, hb, g, c), ⟨HE.out, zeros_len _, fun i => by unfold qF; split <;> omega, ⟨q0, q64⟩, by rw [HL.out]; exact h3.1, ?_, ⟨cs, h5.1, by rw [HL.out]; exact HPT.out _ h5.1⟩, by rw [HL.out]; exact h1.1⟩, fun x => ?_⟩
          · have hz : (zeros 1024).take (N * 16) = Z := by
              rw [← HZ.out]; unfold zeros; rw [List.take_replicate, Nat.min_eq_left (by omega)]
            rw [hz]; exact h6.1
          · rw [e1, e2, e3, h1.2, h3.2, h5.2, h6.2]
            simp only [Value.ownBlock, Option.some.injEq]
            constructor
            · rintro (h | h | h | h) <;> simp [h]
            · rintro (h | h | h | h) <;> simp [h]))
        rw [HL.out] at HE2
        clear tk e
        go_wp2_with fail
        go_ret2
        exact ⟨y, rfl, HE2.out⟩

end Go.Proofs.Ytjccdimmfhkipaa
