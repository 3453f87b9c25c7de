/-
  Contracts of the document's Iommu: Translate.
-/
import Derived.Test.YtggdbiniklchoaaIor4
import Derived.Test.YtggdbiniklchoaaIop10
import Derived.Test.YtggdbiniklchoaaAddrAll
namespace Go.Proofs.Ytggdbiniklchoaa
open Go.RowKit
set_option linter.unusedVariables false
set_option linter.unusedSimpArgs false
set_option maxRecDepth 100000

/-- What the document's Translate answers and leaves. -/
def RtP (B : Nat) (y r b : Nat) (v : Value) (ps : List (List Int)) (l : List UInt8) (w : World) (P : List (Nat × Nat × Nat)) (c : Int) (e : Ending) (w' : World) : Prop :=
  ∃ u, e = .returned (.tuple #[u, .int .i64 c]) ∧ w'.ownsRow w.heap.size 65 3 u P.length (flat P) ∧ Below w.heap.size w w'

def pcR (l : List UInt8) (R : Int) (L : List (Nat × Nat × Nat)) : List (Nat × Nat × Nat) := L.map (fun x => ((wF l R ((x.1 : Nat) : Int)).toNat, x.2.1, x.2.2))

section
variable {B : Nat} {y r b : Nat} {v : Value} {ps : List (List Int)} {l : List UInt8}
set_option maxHeartbeats 4000000 in
theorem rtranslate_no (d a k : Int) (write : Bool) (w : World) (h : Rx B w y r b v ps l) (hB : ioTrB ps d a k = false) :
    Calls Try.prog 33 #[.pointer (some ⟨y, 0, none⟩), .int .i64 d, .int .i64 a, .int .i64 k, .bool write] w (RtP B y r b v ps l w [] 700) := by
  unfold ioTrB at hB
  have hend : RtP B y r b v ps l w [] 700 (.returned (.tuple #[.slice none 0 0, .int .i64 700])) w := ⟨_, rfl, World.ownsRow_nil _ _ _ _, Below.refl _ _⟩
  have HD := Lib.hid (there_any d 0 w h); have HM := Lib.hid (rmay_any a k 16384 w (by omega)); have HEND := Lib.hid hend
  clear hend h
  cases hd : thB ps.length d 0 with
  | false =>
    have HDB := Lib.hid hd
    clear hd hB
    go_enter Try.func33, Try.ntmps33
    go_wp2_with fail
    refine HD.out.mono ?_
    rintro e w1 ⟨rfl, rfl⟩
    rw [HDB.out]
    go_wp2_with fail
    go_ret2
    exact HEND.out
  | true =>
    have HDB := Lib.hid hd
    rw [hd, Bool.true_and] at hB
    clear hd
    by_cases h1 : k < 1
    · clear hB
      go_enter Try.func33, Try.ntmps33
      go_wp2_with fail
      refine HD.out.mono ?_
      rintro e w1 ⟨rfl, rfl⟩
      rw [HDB.out]
      go_wp2_with fail
      go_ret2
      exact HEND.out
    · by_cases h2 : 256 < k
      · clear hB
        go_enter Try.func33, Try.ntmps33
        go_wp2_with fail
        refine HD.out.mono ?_
        rintro e w1 ⟨rfl, rfl⟩
        rw [HDB.out]
        go_wp2_with fail
        go_ret2
        exact HEND.out
      · rw [show decide (1 ≤ k ∧ k ≤ 256) = true from decide_eq_true (by omega), Bool.true_and] at hB
        have HB := Lib.hid hB
        have d1 : decide (k < 1) = false := decide_eq_false h1
        have d2 : decide (256 < k) = false := decide_eq_false h2
        clear hB
        go_enter Try.func33, Try.ntmps33
        go_wp2_with fail
        refine HD.out.mono ?_
        rintro e w1 ⟨rfl, rfl⟩
        rw [HDB.out]
        go_wp2_with fail
        refine HM.out.mono ?_
        rintro e w1 ⟨rfl, rfl⟩
        rw [HB.out]
        go_wp2_with fail
        go_ret2
        exact HEND.out

theorem infoPc : (Try.prog.info? 65).map (fun i => (i.zero, i.size, i.bytes)) = some (some (.agg #[.int .i64 0, .int .i64 0, .int .i64 0]), 3, 24) := by kernel_rfl

set_option maxHeartbeats 8000000 in
theorem rtranslate_yes (d : Int) (a k : Nat) (write : Bool) (w : World) (h : Rx B w y r b v ps l) (h0 : 0 ≤ d) (h1 : d < ps.length) (hk1 : 1 ≤ k) (hk2 : k ≤ 256) (hak : a + k ≤ 16384) :
    Calls Try.prog 33 #[.pointer (some ⟨y, 0, none⟩), .int .i64 d, .int .i64 a, .int .i64 k, .bool write] w (RtP B y r b v ps l w (if runC l (ioRoot ps d) write (spl a k) = 0 then pcR l (ioRoot ps d) (spl a k) else []) (runC l (ioRoot ps d) write (spl a k))) := by
  have HD := Lib.hid (there_any d 0 w h); have HM := Lib.hid (rmay_any (a : Int) (k : Int) 16384 w (by omega))
  have HDB : Hid (thB ps.length d 0 = true) := Lib.hid (decide_eq_true (by omega))
  have HMB : Hid (mayB (a : Int) (k : Int) 16384 = true) := Lib.hid (decide_eq_true (by omega))
  have KW := Lib.hid (fun p W hW => rwlk_any (B := B) (y := y) (r := r) (b := b) (v := v) (ps := ps) (l := l) d p W hW h0 h1)
  have HX := Lib.hid h
  obtain ⟨m, hm⟩ : ∃ m : Nat, l.length = 64 * m := ⟨l.length / 64, by have := h.rm.2.1.2; omega⟩
  have hfr : frs l = m := by unfold frs; omega
  obtain ⟨_, _, _, hr0, hr1⟩ := h.pool h0 h1
  rw [hfr] at hr1
  have HW2 := Lib.hid (fun p hp0 hp1 => walk_two l (ioRoot ps d) p m hm hr0 hr1 hp0 hp1)
  have HLE := Lib.hid (fun p => walk_le l (ioRoot ps d) p)
  have HNN := Lib.hid (fun p => walkF_nn l (ioRoot ps d) p)
  generalize ioRoot ps d = R at *
  obtain ⟨S, hS⟩ : ∃ S, spl a k = S := ⟨_, rfl⟩
  rw [hS]
  generalize hRC : runC l R write S = RC
  generalize hPP : (if RC = 0 then pcR l R S else []) = PP
  have HRC := Lib.hid hRC; have HPP := Lib.hid hPP; have HS := Lib.hid hS
  obtain ⟨i0, hi, hz0, hz1, hz2⟩ := info_parts infoPc
  have HI := Lib.hid hi; have HZ0 := Lib.hid hz0; have HZ1 := Lib.hid hz1; have HZ2 := Lib.hid hz2
  have HAND := Lib.hid (fun Q h1 h3 => has_and Q h1 h3 write)
  clear hi hz0 hz1 hz2 hRC hPP hS h hm hfr hr0 hr1
  go_enter Try.func33, Try.ntmps33
  go_wp2_with fail
  refine HD.out.mono ?_
  rintro e w1 ⟨rfl, rfl⟩
  rw [HDB.out]
  go_wp2_with fail
  refine HM.out.mono ?_
  rintro e w1 ⟨rfl, rfl⟩
  rw [HMB.out]
  go_upto_if 36 with fail
  go_cut [12] (fun s12 wx => s12 = .int .i64 (if write then 2 else 1) ∧ Below w.heap.size w wx)
  case first =>
    cases write with
    | true =>
      go_wp2_with fail
      go_meet
      case rel => exact ⟨rfl, Below.refl _ _⟩
    | false =>
      go_wp2_with fail
      go_meet
      case rel => exact ⟨rfl, Below.refl _ _⟩
  case rest =>
    obtain ⟨rfl, hb0⟩ := hcut
    generalize (if write then (2 : Int) else 1) = need at *
    go_wp2_with fail
    go_loopw [2, 3, 13] (fun s t u wr => ∃ (b' m' : Nat) (ds : List (Nat × Nat × Nat)), s = .int .i64 b' ∧ t = .int .i64 m' ∧ b' + m' = a + k ∧ ds.length + m' ≤ k ∧ Hid (ds ++ spl b' m' = S) ∧ wr.ownsRow w.heap.size 65 3 u ds.length (flat (pcR l R ds)) ∧ Below w.heap.size w wr ∧ Hid (RC = runC l R write (spl b' m')))
      (fun _ t _ _ => (intOf t).toNat)
    case atStart => exact ⟨a, k, [], rfl, rfl, rfl, by simp, by have := HS.out; exact Lib.hid this, World.ownsRow_nil _ _ _ _, hb0, Lib.hid (by rw [← HRC.out, HS.out])⟩
    case round =>
      clear hb0
      obtain ⟨b', m', ds, rfl, rfl, hbm, hdm, HR, hown, hbel, HN⟩ := hrel
      by_cases hm : 0 < m'
      · obtain ⟨q, hq⟩ : ∃ q : Nat, q = min m' (64 - b' % 64) := ⟨_, rfl⟩
        have hqm : q ≤ m' := by omega
        have hq0 : 0 < q := by omega
        have hstep := HN.out
        rw [spl_step b' m' hm, ← hq] at hstep
        have hpg : ((b' / 64 : Nat) : Int) = (b' : Int) / 64 := by omega
        have hrun : RC = if pgC l R write ((b' : Int) / 64) = 0 then runC l R write (spl (b' + q) (m' - q)) else pgC l R write ((b' : Int) / 64) := by rw [hstep, ← hpg]; rfl
        have hpd : pgC l R write ((b' : Int) / 64) = if uC l R ((b' : Int) / 64) = 0 then (if hasP (wP l R ((b' : Int) / 64)) write then 0 else 703) else uC l R ((b' : Int) / 64) := rfl
        have hw2 := HW2.out ((b' : Int) / 64) (by omega) (by omega)
        have hle := HLE.out ((b' : Int) / 64)
        have hnn := HNN.out ((b' : Int) / 64)
        have hfn : (wF l R ((b' / 64 : Nat) : Int)).toNat = (wF l R ((b' : Int) / 64)).toNat := by rw [hpg]
        have HQ := Lib.hid hq
        clear hstep hq
        go_wp2_with fail
        refine (KW.out ((b' : Int) / 64) _ (HX.out.below hbel (Nat.le_refl _)) (by omega) (by omega)).mono ?_
        rintro e w1 ⟨rfl, b1⟩
        have hown1 := own_below hown b1
        have hbel1 := Below.down hbel b1 hbel.size
        clear hown b1 hbel
        obtain ⟨F, hF⟩ := Int.eq_ofNat_of_zero_le hnn
        rw [hF, Int.toNat_natCast] at hfn
        have HFN := Lib.hid hfn
        rw [hF]
        generalize wP l R ((b' : Int) / 64) = Q at *
        have hu : ¬ (wC l R ((b' : Int) / 64) = 0) → uC l R ((b' : Int) / 64) ≠ 0 := by
          intro hn
          rcases hw2 with ⟨e, _⟩ | ⟨_, _, _, e⟩
          · exact absurd e hn
          · rw [e]; split <;> omega
        have hq1 : uC l R ((b' : Int) / 64) = 0 → 1 ≤ Q := by
          intro e
          rcases hw2 with ⟨_, _, e1⟩ | ⟨h1, _⟩
          · exact e1
          · exact absurd e (hu h1)
        generalize uC l R ((b' : Int) / 64) = C at *
        generalize hpgc : pgC l R write ((b' : Int) / 64) = G at *
        have hbk := Blk.new w1 46 [.int .i64 (F : Int), .int .i64 Q]
        obtain ⟨k0, k1, _, _⟩ := two_at hbk
        have hown2 := own_stay hown1 (fun k cs hk => Below.heap_alloc w1 (.cells #[.int .i64 (F : Int), .int .i64 Q] 46) k hk.lt)
        have hbel2 := hbel1.alloc hbel1.size (.cells #[.int .i64 (F : Int), .int .i64 Q] 46)
        clear hown1 hbel1 hbk hF hnn hw2 hu hpgc
        by_cases hC0 : C = 0
        · subst hC0
          have hand := HAND.out Q (hq1 rfl) hle.1
          generalize hZ : bits BinOp.and IntKind.i64 Q need = Z at *
          rcases hand with ⟨hz, hp⟩ | ⟨hz, hp⟩
          · subst hz
            have hG : G = 703 := by rw [hpd, if_pos rfl, hp]; rfl
            subst hG
            have hRC : RC = 703 := by rw [hrun, if_neg (by omega)]
            have HRC2 := Lib.hid hRC
            clear hrun hpd hp hfn hq1 hRC
            go_wp2_with fail
            go_ret2
            refine ⟨_, by rw [HRC2.out]; rfl, ?_, hbel2⟩
            rw [← HPP.out, if_neg (by rw [HRC2.out]; omega)]
            exact World.ownsRow_nil _ _ _ _
          · have hG : G = 0 := by rw [hpd, if_pos rfl, hp]; rfl
            subst hG
            have hz1 : (Z == 0) = false := by simpa using hz
            have HN0 : RC = runC l R write (spl (b' + q) (m' - q)) := by rw [hrun, if_pos rfl]
            clear hrun hpd hp hfn hq1 hz HN
            have hsz := hbel2.size
            have HNN0 := Lib.hid HN0
            clear HN0
            go_wp2_with (at_builtin; refine wpList_append_own _ rfl _ _ 59 rfl w.heap.size 65 i0 _ 3 24 Try.underlying59 HI.out HZ0.out HZ1.out HZ2.out rfl (by decide) _ ds.length (flat (pcR l R ds)) rfl (by have := (own_stay hown2 (fun k cs hk => Below.heap_alloc (w1.alloc (.cells #[.int .i64 (F : Int), .int .i64 Q] 46)) (.cells #[.int .i64 (F : Int), .int .i64 ((b' : Int) % 64), .int .i64 (min (m' : Int) (64 - (b' : Int) % 64))] 65) k hk.lt)); exact this) ⟨w1.heap.size + 1, 0, none⟩ 1 1 [.int .i64 (F : Int), .int .i64 ((b' : Int) % 64), .int .i64 (min (m' : Int) (64 - (b' : Int) % 64))] rfl rfl (by exact pv_new2 w1 _ _ _ _ _) (by exact pv_one _ _ _) (by unfold maxLen; omega) (by omega) (by have := hbel2.size; simp at this ⊢; omega) ?_)
            intro v' w4 hown' hgrow _
            have hbel4 := (hbel2.alloc hbel2.size (.cells #[.int .i64 (F : Int), .int .i64 ((b' : Int) % 64), .int .i64 (min (m' : Int) (64 - (b' : Int) % 64))] 65)).grown hgrow (by have := hbel2.size; simp at this ⊢; omega) (fun i e => own_ge hown2 e)
            clear hgrow hown2 hbel2
            go_wp2
            go_roundw
            case rel => exact ⟨b' + q, m' - q, ds ++ [(b' / 64, b' % 64, q)], by have := HQ.out; go_num, by have := HQ.out; go_num, by omega, by simp; omega, Lib.hid (spl_next b' m' q ds S hm HQ.out HR.out), by
              have e1 : pcR l R (ds ++ [(b' / 64, b' % 64, q)]) = pcR l R ds ++ [(F, b' % 64, q)] := by
                unfold pcR
                rw [List.map_append]
                simp only [List.map_cons, List.map_nil]
                rw [HFN.out]
              rw [e1, flat_append, flat_one, List.length_append]
              have e : (min (m' : Int) (64 - (b' : Int) % 64)) = (q : Int) := by have := HQ.out; omega
              rw [e] at hown'
              exact hown', hbel4, HNN0⟩
            case measure => have := HQ.out; simp [intOf]; omega
        · have hG : G = C := by rw [hpd, if_neg hC0]
          subst hG
          have hRC : RC = G := by rw [hrun, if_neg hC0]
          have HRC2 := Lib.hid hRC
          have HC0 := Lib.hid hC0
          have hc1 : (G == 0) = false := by simpa using hC0
          have hc2 : (G != 0) = true := by simpa using hC0
          clear hrun hpd hfn hq1 hRC hC0
          go_wp2_with fail
          go_ret2
          refine ⟨_, by rw [HRC2.out]; rfl, ?_, hbel2⟩
          rw [← HPP.out, if_neg (by rw [HRC2.out]; exact HC0.out)]
          exact World.ownsRow_nil _ _ _ _
      · obtain rfl : m' = 0 := by omega
        have e := HR.out
        rw [spl_zero, List.append_nil] at e
        have e0 : RC = 0 := by rw [HN.out, spl_zero]; rfl
        have HE0 := Lib.hid e0; have HE := Lib.hid e
        clear e e0 HR HN
        go_wp2_with fail
        go_ret2
        refine ⟨_, by rw [HE0.out]; rfl, ?_, hbel⟩
        rw [← HPP.out, if_pos HE0.out, ← HE.out]
        have hlen : (pcR l R ds).length = ds.length := by unfold pcR; rw [List.length_map]
        rw [hlen]
        exact hown
end

end Go.Proofs.Ytggdbiniklchoaa
