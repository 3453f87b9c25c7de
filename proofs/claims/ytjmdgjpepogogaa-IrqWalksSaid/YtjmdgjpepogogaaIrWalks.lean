/-
  Layer 13's law IrqWalks: it answers true for every input.
-/
import Derived.Test.YtjmdgjpepogogaaIrW0
namespace Go.Proofs.Ytjmdgjpepogogaa
open Go.RowKit Go.ChangeMaps
set_option linter.unusedVariables false
set_option maxRecDepth 100000

def zUp8 : Array Value := (bitc noF 8).toArray
theorem zUp8_ne : ¬ (zUp8 = #[]) := by simp [zUp8, bitc]
theorem zUp8_run (w : World) : Sem.run Try.prog (zeroValue 40) w = .ok (.agg zUp8) w := by
  have hi : (Try.prog.info? 40).map (fun i => i.zero) = some (some (.agg zUp8)) := by kernel_rfl
  cases h : Try.prog.info? 40 with
  | none => rw [h] at hi; cases hi
  | some i =>
    rw [h] at hi
    simp only [Option.map_some, Option.some.injEq] at hi
    simp [zeroValue, typeInfo, h, hi]

/-- The Unit and the law's three rows: where each leads (a), which is masked (b), which was raised (c). -/
def iwG (u a b c : Nat) (T : List Ro) (F : Nat → Bool) (f : Nat → Int) (g h : Nat → Bool) : List Ob :=
  [obB c 40 (bitc h 8), obB b 40 (bitc g 8), obB a 3 (itc f 8), obU u 1 2 T F]
/-- They are alike. -/
def Iws (wa : World) (u a b c : Nat) (w : World) : Prop := ∃ T F up, Iw T F up ∧ Tk nos wa (iwG u a b c T F (toV T) (mV T) up) w
section
variable {wa w w' : World} {u a b c : Nat} {T : List Ro} {F up : Nat → Bool} {f : Nat → Int} {g h : Nat → Bool}
theorem Iws.of (t : Tk nos wa (iwG u a b c T F f g h) w) (hI : Iw T F up) (hf : ∀ i, i < 8 → f i = toV T i) (hg : ∀ i, i < 8 → g i = mV T i) (hh : ∀ i, i < 8 → h i = up i) : Iws wa u a b c w := by
  refine ⟨T, F, up, hI, ?_⟩
  unfold iwG at t ⊢
  rw [itc_congr hf, bitc_congr hg, bitc_congr hh] at t
  exact t
theorem Iws.drewN (h : Iws wa u a b c w) (q : Nat) : Iws wa u a b c (w.drewN q) := by obtain ⟨T, F, up, h1, h2⟩ := h; exact ⟨T, F, up, h1, h2.drewN q⟩
theorem iw_at {os : List Ob} (t : Tk nos wa os w) {i : Nat} (h0 : os[i]? = some (obB c 40 (bitc h 8))) (h1 : os[i + 1]? = some (obB b 40 (bitc g 8))) (h2 : os[i + 2]? = some (obB a 3 (itc f 8))) (v : Nat) (hv : v < 8) :
    w.cell? ⟨a, v, none⟩ = some (.int .i64 (f v)) ∧ w.cell? ⟨b, v, none⟩ = some (.bool (g v)) ∧ w.cell? ⟨c, v, none⟩ = some (.bool (h v)) ∧ w.frozen? ⟨a, v, none⟩ = false ∧ w.frozen? ⟨b, v, none⟩ = false ∧ w.frozen? ⟨c, v, none⟩ = false := by
  have k0 := t.blk h0
  have k1 := t.blk h1
  have k2 := t.blk h2
  exact ⟨by rw [k2.cell, itc_get _ _ _ hv], by rw [k1.cell, bitc_get _ _ _ hv], by rw [k0.cell, bitc_get _ _ _ hv], k2.frozen v, k1.frozen v, k0.frozen v⟩
theorem Tk.sA (t : Tk nos wa (iwG u a b c T F f g h) w) (v : Nat) (x : Int) : Tk nos wa (iwG u a b c T F (iF f v x) g h) (w.setCell ⟨a, v, none⟩ (.int .i64 x)) := by
  have := t.store (i := 2) rfl v (.int .i64 x)
  rw [itc_set] at this; exact this
theorem Tk.sB (t : Tk nos wa (iwG u a b c T F f g h) w) (v : Nat) (x : Bool) : Tk nos wa (iwG u a b c T F f (bitF g v x) h) (w.setCell ⟨b, v, none⟩ (.bool x)) := by
  have := t.store (i := 1) rfl v (.bool x)
  rw [bitc_set] at this; exact this
theorem Tk.sC (t : Tk nos wa (iwG u a b c T F f g h) w) (v : Nat) (x : Bool) : Tk nos wa (iwG u a b c T F f g (bitF h v x)) (w.setCell ⟨c, v, none⟩ (.bool x)) := by
  have := t.store (i := 0) rfl v (.bool x)
  rw [bitc_set] at this; exact this
theorem bitF_same {g : Nat → Bool} {v : Nat} {x : Bool} (h : g v = x) (i : Nat) : bitF g v x i = g i := by
  unfold bitF
  by_cases e : i = v
  · rw [if_pos e, e, h]
  · rw [if_neg e]
theorem iF_same {g : Nat → Int} {v : Nat} {x : Int} (h : g v = x) (i : Nat) : iF g v x i = g i := by
  unfold iF
  by_cases e : i = v
  · rw [if_pos e, e, h]
  · rw [if_neg e]
/-- What was raised, of which the first j places have been told. -/
def upJ (up Q : Nat → Bool) (j : Nat) : Nat → Bool := fun i => up i && !(decide (i < j) && Q i)
theorem upJ_skip {up Q : Nat → Bool} {j : Nat} (h : Q j = false) : upJ up Q (j + 1) = upJ up Q j := by
  funext i
  unfold upJ
  by_cases e : i = j
  · subst e; rw [h]; simp
  · rw [show decide (i < j + 1) = decide (i < j) by rw [decide_eq_decide]; omega]
theorem upJ_take {up Q : Nat → Bool} {j : Nat} (h : Q j = true) : bitF (upJ up Q j) j false = upJ up Q (j + 1) := by
  funext i
  unfold bitF
  by_cases e : i = j
  · subst e; rw [if_pos rfl]; unfold upJ; rw [h]; simp
  · rw [if_neg e]; unfold upJ; rw [show decide (i < j + 1) = decide (i < j) by rw [decide_eq_decide]; omega]
theorem upJ_here (up Q : Nat → Bool) (j : Nat) : upJ up Q j j = up j := by unfold upJ; simp
end

set_option maxHeartbeats 16000000 in
theorem law_IrqWalks (vv : Value) (n : Nat) (zs : List Int) (w : World) (hv : Sl w vv n 1 (ints zs)) (hn : n ≤ maxLen) :
    Calls Try.prog 4 #[vv] w fun e w' => e = .returned (.bool true) ∧ Below w.heap.size w w' := by
  obtain ⟨A, cap, rfl⟩ : ∃ A cap, vv = .slice A n cap := by obtain ⟨A, c, e, _⟩ := hv; exact ⟨A, c, e⟩
  unfold maxLen at hn
  have HV := Lib.hid hv; clear hv
  have hz := zUp8_run
  have hne := zUp8_ne
  obtain ⟨i0, hi, hz0, hz1, hz2⟩ := info_parts infoIq
  have HI := Lib.hid hi; have HZ0 := Lib.hid hz0; have HZ1 := Lib.hid hz1; have HZ2 := Lib.hid hz2; clear hi hz0 hz1 hz2
  go_enter Try.func4, Try.ntmps4
  go_wp2_with fail
  refine (irawake_any _).mono ?_
  rintro e wa ⟨rfl, ba⟩
  have BA := Lib.hid ba
  clear ba
  go_wp2_with fail
  have hN : Calls Try.prog 8 #[.int .i64 1, .int .i64 2] wa fun e w' => ∃ u, e = .returned (.tuple #[.pointer (some ⟨u, 0, none⟩), .int .i64 0]) ∧ Tk nos wa [obU u 1 2 newT noF] w' := unew_yes 1 2 wa (by decide) (by decide) (by decide) (by decide)
  refine hN.mono ?_
  clear hN
  rintro e w1 ⟨u, rfl, t⟩
  have L0 := Lib.hid t
  clear t
  go_wp2_with fail
  refine (num_any _ _).mono ?_
  rintro e w' ⟨rfl, rfl⟩
  go_wp2_with fail
  change Code.wp _ _ _ _ (((w1.alloc (.cells (itc (fun _ => -1) 8).toArray 3)).alloc (.cells zUp8 40)).alloc (.cells zUp8 40))
  have t3 : Tk nos wa (iwG u w1.heap.size (w1.heap.size + 1) (w1.heap.size + 1 + 1) newT noF (fun _ => -1) noF noF) (((w1.alloc (.cells (itc (fun _ => -1) 8).toArray 3)).alloc (.cells zUp8 40)).alloc (.cells zUp8 40)) := by
    have t1 := L0.out.alloc 3 (itc (fun _ => -1) 8)
    have t2 := t1.alloc 40 (bitc noF 8)
    have t3 := t2.alloc 40 (bitc noF 8)
    rw [show ((w1.alloc (.cells (itc (fun _ => -1) 8).toArray 3)).alloc (.cells (bitc noF 8).toArray 40)).heap.size = w1.heap.size + 1 + 1 by simp, show (w1.alloc (.cells (itc (fun _ => -1) 8).toArray 3)).heap.size = w1.heap.size + 1 by simp] at t3
    exact t3
  have hnew : ∀ v, newT.getD v ro0 = ro0 := fun v => by
    unfold newT
    simp only [List.getD_eq_getElem?_getD, List.getElem?_replicate]
    split <;> rfl
  have S0 : Hid (Iws wa u w1.heap.size (w1.heap.size + 1) (w1.heap.size + 1 + 1) _) := Lib.hid (Iws.of t3 Iw.start (fun i _ => by unfold toV; rw [hnew]; rfl) (fun i _ => by unfold mV; rw [hnew]; rfl) (fun _ _ => rfl))
  clear t3 L0 hz hne hnew
  generalize ((w1.alloc (.cells (itc (fun _ => -1) 8).toArray 3)).alloc (.cells zUp8 40)).alloc (.cells zUp8 40) = w2 at *
  have ab : w1.heap.size ≠ w1.heap.size + 1 := by omega
  have ba' : w1.heap.size + 1 ≠ w1.heap.size := by omega
  have ac : w1.heap.size ≠ w1.heap.size + 1 + 1 := by omega
  have ca : w1.heap.size + 1 + 1 ≠ w1.heap.size := by omega
  have bc : w1.heap.size + 1 ≠ w1.heap.size + 1 + 1 := by omega
  have cb : w1.heap.size + 1 + 1 ≠ w1.heap.size + 1 := by omega
  generalize w1.heap.size + 1 + 1 = c at *
  generalize w1.heap.size + 1 = b at *
  generalize w1.heap.size = a at *
  go_loopw [8] (fun i wr => ∃ (k : Nat), k ≤ n ∧ k ≤ 60 ∧ i = .int .i64 k ∧ Hid (Iws wa u a b c wr)) (fun i _ => 60 - (intOf i).toNat)
  case atStart => exact ⟨0, by omega, by omega, rfl, S0⟩
  case round =>
    clear S0
    obtain ⟨k, hkn, hk60, rfl, HS⟩ := hrel
    by_cases hgo : k < n ∧ k < 60
    · obtain ⟨hlt, h60⟩ := hgo
      obtain ⟨T, F, up, hI, tk⟩ := HS.out
      have hsl := HV.out.below (Below.down BA.out tk.below BA.out.size)
      obtain ⟨gb, o, cap', e, hbw, hcell⟩ := sli_at hsl k hlt
      simp only [Value.slice.injEq] at e
      obtain ⟨rfl, -, -⟩ := e
      generalize zs.getD k 0 = q at *
      have hV := band q 7 (by omega) (by omega)
      have hP := band (q / 8) 1 (by omega) (by omega)
      have hK := band (q / 16) 7 (by omega) (by omega)
      generalize hV' : bits BinOp.and IntKind.i64 q 7 = V at hV
      generalize hP' : bits BinOp.and IntKind.i64 (q / 8) 1 = P at hP
      generalize hK' : bits BinOp.and IntKind.i64 (q / 16) 7 = K at hK
      obtain ⟨v, rfl⟩ := Int.eq_ofNat_of_zero_le hV.1
      obtain ⟨p, rfl⟩ := Int.eq_ofNat_of_zero_le hP.1
      have hv8 : v < 8 := by omega
      have hp2 : p < 2 := by omega
      have hv8I : (v : Int) < 8 := by omega
      have hltI : (k : Int) < n := by omega
      have h60I : (k : Int) < 60 := by omega
      have HIw := Lib.hid hI
      have TK := Lib.hid tk
      obtain ⟨c1, c2, c3, f1, f2, f3⟩ := iw_at tk (i := 0) rfl rfl rfl v hv8
      obtain ⟨tv, htv⟩ : ∃ tv, toV T v = tv := ⟨_, rfl⟩
      have HTV := Lib.hid htv
      rw [htv] at c1
      clear hsl hI tk hV hP htv f1 f2 f3
      rcases (show K = 0 ∨ K = 1 ∨ K = 2 ∨ K = 3 ∨ K = 4 ∨ K = 5 ∨ K = 6 ∨ K = 7 by omega) with rfl | rfl | rfl | rfl | rfl | rfl | rfl | rfl
      · as_aux_lemma =>
          cases hup : up v with
          | true =>
            rw [hup] at c3
            by_cases hne : tv = p
            · have HU : Hid (up v = true → toV T v = p) := Lib.hid (fun _ => by rw [HTV.out, hne])
              subst hne
              have hpp : ((p : Int) != (p : Int)) = false := by simp
              clear hup
              obtain ⟨e1, e2⟩ := wroute (T := T) hv8 hp2
              have cR := fun W (tW : Tk nos wa (iwG u a b c T F (toV T) (mV T) up) W) => tk_uroute_is (i := 3) (os' := iwG u a b c (T.set v ⟨true, p, false⟩) F (toV T) (mV T) up) 0 v p 0 W tW rfl e1 (by rw [e2]; rfl)
              clear e1 e2
              go_wp2_with fail
              go_quiet (fail)
              have T1 := Lib.hid (TK.out.drewN nq)
              clear TK
              go_wp2_with fail
              clear hV' hP' hK' hcell
              refine (cR _ T1.out).mono ?_
              rintro e w3 ⟨rfl, t3⟩
              obtain ⟨d1, d2, d3, f1, f2, f3⟩ := iw_at t3 (i := 0) rfl rfl rfl v hv8
              have S4 : Hid (Iws wa u a b c ((w3.setCell ⟨a, v, none⟩ (.int .i64 p)).setCell ⟨b, v, none⟩ (.bool false))) := Lib.hid (Iws.of ((t3.sA v p).sB v false) (HIw.out.route hv8 p hp2 HU.out) (fun i _ => by rw [toV_set HIw.out.len hv8]; rfl) (fun i _ => by rw [mV_set HIw.out.len hv8]) (fun _ _ => rfl))
              clear cR t3 T1 c1 c2 c3
              go_wp2_with fail
              refine (num_any _ _).mono ?_
              rintro e w' ⟨rfl, rfl⟩
              go_wp2_with fail
              go_roundw
              case rel => exact ⟨k + 1, by omega, by omega, by go_num, S4⟩
              case measure => simp [intOf]; omega
            · have hnb : (tv != (p : Int)) = true := by simpa using hne
              have HS2 := HS
              clear hup hne HS
              go_wp2_with fail
              go_quiet (fail)
              have T1 := Lib.hid (TK.out.drewN nq)
              clear TK
              go_wp2_with fail
              clear hV' hP' hK' hcell
              go_roundw
              case rel => exact ⟨k + 1, by omega, by omega, by go_num, Lib.hid (HS2.out.drewN nq)⟩
              case measure => simp [intOf]; omega
          | false =>
            rw [hup] at c3
            have HU : Hid (up v = true → toV T v = p) := Lib.hid (fun h => by rw [hup] at h; cases h)
            clear hup
            obtain ⟨e1, e2⟩ := wroute (T := T) hv8 hp2
            have cR := fun W (tW : Tk nos wa (iwG u a b c T F (toV T) (mV T) up) W) => tk_uroute_is (i := 3) (os' := iwG u a b c (T.set v ⟨true, p, false⟩) F (toV T) (mV T) up) 0 v p 0 W tW rfl e1 (by rw [e2]; rfl)
            clear e1 e2
            go_wp2_with fail
            go_quiet (fail)
            have T1 := Lib.hid (TK.out.drewN nq)
            clear TK
            go_wp2_with fail
            clear hV' hP' hK' hcell
            refine (cR _ T1.out).mono ?_
            rintro e w3 ⟨rfl, t3⟩
            obtain ⟨d1, d2, d3, f1, f2, f3⟩ := iw_at t3 (i := 0) rfl rfl rfl v hv8
            have S4 : Hid (Iws wa u a b c ((w3.setCell ⟨a, v, none⟩ (.int .i64 p)).setCell ⟨b, v, none⟩ (.bool false))) := Lib.hid (Iws.of ((t3.sA v p).sB v false) (HIw.out.route hv8 p hp2 HU.out) (fun i _ => by rw [toV_set HIw.out.len hv8]; rfl) (fun i _ => by rw [mV_set HIw.out.len hv8]) (fun _ _ => rfl))
            clear cR t3 T1 c1 c2 c3
            go_wp2_with fail
            refine (num_any _ _).mono ?_
            rintro e w' ⟨rfl, rfl⟩
            go_wp2_with fail
            go_roundw
            case rel => exact ⟨k + 1, by omega, by omega, by go_num, S4⟩
            case measure => simp [intOf]; omega
      · as_aux_lemma =>
          cases hup : up v with
          | true =>
            rw [hup] at c3
            by_cases hne : tv = p
            · have HU : Hid (up v = true → toV T v = p) := Lib.hid (fun _ => by rw [HTV.out, hne])
              subst hne
              have hpp : ((p : Int) != (p : Int)) = false := by simp
              clear hup
              obtain ⟨e1, e2⟩ := wroute (T := T) hv8 hp2
              have cR := fun W (tW : Tk nos wa (iwG u a b c T F (toV T) (mV T) up) W) => tk_uroute_is (i := 3) (os' := iwG u a b c (T.set v ⟨true, p, false⟩) F (toV T) (mV T) up) 0 v p 0 W tW rfl e1 (by rw [e2]; rfl)
              clear e1 e2
              go_wp2_with fail
              go_quiet (fail)
              have T1 := Lib.hid (TK.out.drewN nq)
              clear TK
              go_wp2_with fail
              clear hV' hP' hK' hcell
              refine (cR _ T1.out).mono ?_
              rintro e w3 ⟨rfl, t3⟩
              obtain ⟨d1, d2, d3, f1, f2, f3⟩ := iw_at t3 (i := 0) rfl rfl rfl v hv8
              have S4 : Hid (Iws wa u a b c ((w3.setCell ⟨a, v, none⟩ (.int .i64 p)).setCell ⟨b, v, none⟩ (.bool false))) := Lib.hid (Iws.of ((t3.sA v p).sB v false) (HIw.out.route hv8 p hp2 HU.out) (fun i _ => by rw [toV_set HIw.out.len hv8]; rfl) (fun i _ => by rw [mV_set HIw.out.len hv8]) (fun _ _ => rfl))
              clear cR t3 T1 c1 c2 c3
              go_wp2_with fail
              refine (num_any _ _).mono ?_
              rintro e w' ⟨rfl, rfl⟩
              go_wp2_with fail
              go_roundw
              case rel => exact ⟨k + 1, by omega, by omega, by go_num, S4⟩
              case measure => simp [intOf]; omega
            · have hnb : (tv != (p : Int)) = true := by simpa using hne
              have HS2 := HS
              clear hup hne HS
              go_wp2_with fail
              go_quiet (fail)
              have T1 := Lib.hid (TK.out.drewN nq)
              clear TK
              go_wp2_with fail
              clear hV' hP' hK' hcell
              go_roundw
              case rel => exact ⟨k + 1, by omega, by omega, by go_num, Lib.hid (HS2.out.drewN nq)⟩
              case measure => simp [intOf]; omega
          | false =>
            rw [hup] at c3
            have HU : Hid (up v = true → toV T v = p) := Lib.hid (fun h => by rw [hup] at h; cases h)
            clear hup
            obtain ⟨e1, e2⟩ := wroute (T := T) hv8 hp2
            have cR := fun W (tW : Tk nos wa (iwG u a b c T F (toV T) (mV T) up) W) => tk_uroute_is (i := 3) (os' := iwG u a b c (T.set v ⟨true, p, false⟩) F (toV T) (mV T) up) 0 v p 0 W tW rfl e1 (by rw [e2]; rfl)
            clear e1 e2
            go_wp2_with fail
            go_quiet (fail)
            have T1 := Lib.hid (TK.out.drewN nq)
            clear TK
            go_wp2_with fail
            clear hV' hP' hK' hcell
            refine (cR _ T1.out).mono ?_
            rintro e w3 ⟨rfl, t3⟩
            obtain ⟨d1, d2, d3, f1, f2, f3⟩ := iw_at t3 (i := 0) rfl rfl rfl v hv8
            have S4 : Hid (Iws wa u a b c ((w3.setCell ⟨a, v, none⟩ (.int .i64 p)).setCell ⟨b, v, none⟩ (.bool false))) := Lib.hid (Iws.of ((t3.sA v p).sB v false) (HIw.out.route hv8 p hp2 HU.out) (fun i _ => by rw [toV_set HIw.out.len hv8]; rfl) (fun i _ => by rw [mV_set HIw.out.len hv8]) (fun _ _ => rfl))
            clear cR t3 T1 c1 c2 c3
            go_wp2_with fail
            refine (num_any _ _).mono ?_
            rintro e w' ⟨rfl, rfl⟩
            go_wp2_with fail
            go_roundw
            case rel => exact ⟨k + 1, by omega, by omega, by go_num, S4⟩
            case measure => simp [intOf]; omega
      · as_aux_lemma =>
          cases his : (T.getD v ro0).is with
          | true =>
            have htp : 0 ≤ tv := by have := (HIw.out.some_ hv8 his).1; rw [HTV.out] at this; omega
            obtain ⟨e1, e2, e3⟩ := wun_yes (T := T) (F := F) hv8 his
            have cR := fun W (tW : Tk nos wa (iwG u a b c T F (toV T) (mV T) up) W) => tk_uunroute_is (i := 3) (os' := iwG u a b c (T.set v ro0) (gvF F v 2) (toV T) (mV T) up) 0 v 0 W tW rfl e1 (by rw [e2, e3]; rfl)
            have HIS := Lib.hid his
            clear e1 e2 e3 his
            go_wp2_with fail
            go_quiet (fail)
            have T1 := Lib.hid (TK.out.drewN nq)
            clear TK
            go_wp2_with fail
            clear hV' hP' hK' hcell
            refine (cR _ T1.out).mono ?_
            rintro e w3 ⟨rfl, t3⟩
            obtain ⟨d1, d2, d3, f1, f2, f3⟩ := iw_at t3 (i := 0) rfl rfl rfl v hv8
            rw [HTV.out] at d1
            have T3 := Lib.hid t3
            clear cR t3 T1 c1 c2 c3
            go_wp2_with fail
            go_quiet ((go_at_call 10; first | exact quiet_ (fun W => num_any _ W) | exact quiet_a (fun W => num_any _ W)))
            have t4 := T3.out.drewN nq
            clear T3
            have S4 := Lib.hid (Iws.of (((t4.sA v (-1)).sB v false).sC v false) (HIw.out.unroute hv8) (fun i _ => by rw [toV_set HIw.out.len hv8]; rfl) (fun i _ => (mV_set HIw.out.len hv8 ro0 i).symm) (fun _ _ => rfl))
            clear t4
            go_wp2_with fail
            go_roundw
            case rel => exact ⟨k + 1, by omega, by omega, by go_num, S4⟩
            case measure => simp [intOf]; omega
          | false =>
            obtain rfl : tv = -1 := by rw [← HTV.out]; exact (HIw.out.none_ hv8 his).1
            obtain ⟨e1, e2, e3⟩ := wun_no (T := T) (F := F) hv8 his
            have cR := fun W (tW : Tk nos wa (iwG u a b c T F (toV T) (mV T) up) W) => tk_uunroute_is (i := 3) (os' := iwG u a b c T F (toV T) (mV T) up) 0 v 1301 W tW rfl e1 (by rw [e2, e3]; rfl)
            have HIS := Lib.hid his
            clear e1 e2 e3 his
            go_wp2_with fail
            go_quiet (fail)
            have T1 := Lib.hid (TK.out.drewN nq)
            clear TK
            go_wp2_with fail
            clear hV' hP' hK' hcell
            refine (cR _ T1.out).mono ?_
            rintro e w3 ⟨rfl, t3⟩
            obtain ⟨d1, d2, d3, f1, f2, f3⟩ := iw_at t3 (i := 0) rfl rfl rfl v hv8
            rw [HTV.out] at d1
            have T3 := Lib.hid t3
            clear cR t3 T1 c1 c2 c3
            go_wp2_with fail
            go_quiet ((go_at_call 10; first | exact quiet_ (fun W => num_any _ W) | exact quiet_a (fun W => num_any _ W)))
            have t4 := T3.out.drewN nq
            clear T3
            have S4 := Lib.hid (Iws.of (((t4.sA v (-1)).sB v false).sC v false) HIw.out (fun i _ => iF_same (HIw.out.none_ hv8 HIS.out).1 i) (fun i _ => bitF_same (HIw.out.none_ hv8 HIS.out).2.1 i) (fun i _ => bitF_same (HIw.out.none_ hv8 HIS.out).2.2 i))
            clear t4
            go_wp2_with fail
            go_roundw
            case rel => exact ⟨k + 1, by omega, by omega, by go_num, S4⟩
            case measure => simp [intOf]; omega
      · as_aux_lemma =>
          cases his : (T.getD v ro0).is with
          | true =>
            have htp : 0 ≤ tv := by have := (HIw.out.some_ hv8 his).1; rw [HTV.out] at this; omega
            rcases (show p = 0 ∨ p = 1 by omega) with rfl | rfl
            · have hvv2 := hp2
              have e1 : uuC 1 T 0 v = 0 := by rw [uu0 hv8, his]; rfl
              have e2 := wmask_yes (T := T) hv8 false his
              have cR := fun W (tW : Tk nos wa (iwG u a b c T F (toV T) (mV T) up) W) => tk_umask_is (i := 3) (os' := iwG u a b c (T.set v { T.getD v ro0 with m := false }) F (toV T) (mV T) up) 0 v false 0 W tW rfl e1 (by rw [e2]; rfl)
              have HIS := Lib.hid his
              clear e1 e2 his
              go_wp2_with fail
              go_quiet (fail)
              have T1 := Lib.hid (TK.out.drewN nq)
              clear TK
              go_wp2_with fail
              clear hV' hP' hK' hcell
              refine (cR _ T1.out).mono ?_
              rintro e w3 ⟨rfl, t3⟩
              obtain ⟨d1, d2, d3, f1, f2, f3⟩ := iw_at t3 (i := 0) rfl rfl rfl v hv8
              rw [HTV.out] at d1
              have T3 := Lib.hid t3
              clear cR t3 T1 c1 c2 c3
              go_wp2_with fail
              go_quiet ((go_at_call 10; first | exact quiet_ (fun W => num_any _ W) | exact quiet_a (fun W => num_any _ W)))
              have t4 := T3.out.drewN nq
              clear T3
              have S4 := Lib.hid (Iws.of (t4.sB v false) (HIw.out.mask hv8 false HIS.out) (fun i _ => by rw [toV_set HIw.out.len hv8]; exact (iF_same (by unfold toV; rw [HIS.out]) i).symm) (fun i _ => by rw [mV_set HIw.out.len hv8]) (fun _ _ => rfl))
              clear t4
              go_wp2_with fail
              go_roundw
              case rel => exact ⟨k + 1, by omega, by omega, by go_num, S4⟩
              case measure => simp [intOf]; omega
            · have hvv2 := hp2
              have e1 : uuC 1 T 0 v = 0 := by rw [uu0 hv8, his]; rfl
              have e2 := wmask_yes (T := T) hv8 true his
              have cR := fun W (tW : Tk nos wa (iwG u a b c T F (toV T) (mV T) up) W) => tk_umask_is (i := 3) (os' := iwG u a b c (T.set v { T.getD v ro0 with m := true }) F (toV T) (mV T) up) 0 v true 0 W tW rfl e1 (by rw [e2]; rfl)
              have HIS := Lib.hid his
              clear e1 e2 his
              go_wp2_with fail
              go_quiet (fail)
              have T1 := Lib.hid (TK.out.drewN nq)
              clear TK
              go_wp2_with fail
              clear hV' hP' hK' hcell
              refine (cR _ T1.out).mono ?_
              rintro e w3 ⟨rfl, t3⟩
              obtain ⟨d1, d2, d3, f1, f2, f3⟩ := iw_at t3 (i := 0) rfl rfl rfl v hv8
              rw [HTV.out] at d1
              have T3 := Lib.hid t3
              clear cR t3 T1 c1 c2 c3
              go_wp2_with fail
              go_quiet ((go_at_call 10; first | exact quiet_ (fun W => num_any _ W) | exact quiet_a (fun W => num_any _ W)))
              have t4 := T3.out.drewN nq
              clear T3
              have S4 := Lib.hid (Iws.of (t4.sB v true) (HIw.out.mask hv8 true HIS.out) (fun i _ => by rw [toV_set HIw.out.len hv8]; exact (iF_same (by unfold toV; rw [HIS.out]) i).symm) (fun i _ => by rw [mV_set HIw.out.len hv8]) (fun _ _ => rfl))
              clear t4
              go_wp2_with fail
              go_roundw
              case rel => exact ⟨k + 1, by omega, by omega, by go_num, S4⟩
              case measure => simp [intOf]; omega
          | false =>
            obtain rfl : tv = -1 := by rw [← HTV.out]; exact (HIw.out.none_ hv8 his).1
            rcases (show p = 0 ∨ p = 1 by omega) with rfl | rfl
            · have hvv2 := hp2
              have e1 : uuC 1 T 0 v = 1301 := by rw [uu0 hv8, his]; rfl
              have e2 := wmask_no (T := T) hv8 false his
              have cR := fun W (tW : Tk nos wa (iwG u a b c T F (toV T) (mV T) up) W) => tk_umask_is (i := 3) (os' := iwG u a b c T F (toV T) (mV T) up) 0 v false 1301 W tW rfl e1 (by rw [e2]; rfl)
              have HIS := Lib.hid his
              clear e1 e2 his
              go_wp2_with fail
              go_quiet (fail)
              have T1 := Lib.hid (TK.out.drewN nq)
              clear TK
              go_wp2_with fail
              clear hV' hP' hK' hcell
              refine (cR _ T1.out).mono ?_
              rintro e w3 ⟨rfl, t3⟩
              obtain ⟨d1, d2, d3, f1, f2, f3⟩ := iw_at t3 (i := 0) rfl rfl rfl v hv8
              rw [HTV.out] at d1
              have T3 := Lib.hid t3
              clear cR t3 T1 c1 c2 c3
              go_wp2_with fail
              go_quiet ((go_at_call 10; first | exact quiet_ (fun W => num_any _ W) | exact quiet_a (fun W => num_any _ W)))
              have t4 := T3.out.drewN nq
              clear T3
              have S4 := Lib.hid (Iws.of (t4.sB v false) HIw.out (fun _ _ => rfl) (fun i _ => bitF_same (HIw.out.none_ hv8 HIS.out).2.1 i) (fun _ _ => rfl))
              clear t4
              go_wp2_with fail
              go_roundw
              case rel => exact ⟨k + 1, by omega, by omega, by go_num, S4⟩
              case measure => simp [intOf]; omega
            · have hvv2 := hp2
              have e1 : uuC 1 T 0 v = 1301 := by rw [uu0 hv8, his]; rfl
              have e2 := wmask_no (T := T) hv8 true his
              have cR := fun W (tW : Tk nos wa (iwG u a b c T F (toV T) (mV T) up) W) => tk_umask_is (i := 3) (os' := iwG u a b c T F (toV T) (mV T) up) 0 v true 1301 W tW rfl e1 (by rw [e2]; rfl)
              have HIS := Lib.hid his
              clear e1 e2 his
              go_wp2_with fail
              go_quiet (fail)
              have T1 := Lib.hid (TK.out.drewN nq)
              clear TK
              go_wp2_with fail
              clear hV' hP' hK' hcell
              refine (cR _ T1.out).mono ?_
              rintro e w3 ⟨rfl, t3⟩
              obtain ⟨d1, d2, d3, f1, f2, f3⟩ := iw_at t3 (i := 0) rfl rfl rfl v hv8
              rw [HTV.out] at d1
              have T3 := Lib.hid t3
              clear cR t3 T1 c1 c2 c3
              go_wp2_with fail
              go_quiet ((go_at_call 10; first | exact quiet_ (fun W => num_any _ W) | exact quiet_a (fun W => num_any _ W)))
              have t4 := T3.out.drewN nq
              clear T3
              have S4 := Lib.hid (Iws.of (t4.sB v false) HIw.out (fun _ _ => rfl) (fun i _ => bitF_same (HIw.out.none_ hv8 HIS.out).2.1 i) (fun _ _ => rfl))
              clear t4
              go_wp2_with fail
              go_roundw
              case rel => exact ⟨k + 1, by omega, by omega, by go_num, S4⟩
              case measure => simp [intOf]; omega
      · as_aux_lemma =>
          by_cases hne : tv = p
          · subst hne
            have HT : Hid (toV T v = p) := Lib.hid HTV.out
            have hpp : ((p : Int) == (p : Int)) = true := by simp
            cases hup : up v with
            | true =>
              have HUP := Lib.hid hup
              rw [hup] at c3
              clear hup
              obtain ⟨e1, e2⟩ := wraise_yes (T := T) (F := F) hv8 hp2 HT.out
              have cR := fun W (tW : Tk nos wa (iwG u a b c T F (toV T) (mV T) up) W) => tk_uraise_is (i := 3) (os' := iwG u a b c T (putF F (p * 32 + v)) (toV T) (mV T) up) 0 v p 0 W tW rfl e1 (by rw [e2]; rfl)
              clear e1 e2
              go_wp2_with fail
              go_quiet (fail)
              have T1 := Lib.hid (TK.out.drewN nq)
              clear TK
              go_wp2_with fail
              clear hV' hP' hK' hcell
              refine (cR _ T1.out).mono ?_
              rintro e w3 ⟨rfl, t3⟩
              obtain ⟨d1, d2, d3, f1, f2, f3⟩ := iw_at t3 (i := 0) rfl rfl rfl v hv8
              rw [HTV.out] at d1
              rw [HUP.out] at d3
              have T3 := Lib.hid t3
              clear cR t3 T1 c1 c2 c3
              go_wp2_with fail
              go_quiet ((go_at_call 10; first | exact quiet_ (fun W => num_any _ W) | exact quiet_a (fun W => num_any _ W)))
              have t4 := T3.out.drewN nq
              clear T3
              have S4 := Lib.hid (Iws.of (t4.sC v true) (HIw.out.raise_ hv8 p hp2 HT.out) (fun _ _ => rfl) (fun _ _ => rfl) (fun _ _ => rfl))
              clear t4
              go_wp2_with fail
              go_roundw
              case rel => exact ⟨k + 1, by omega, by omega, by go_num, S4⟩
              case measure => simp [intOf]; omega
            | false =>
              have HUP := Lib.hid hup
              rw [hup] at c3
              clear hup
              obtain ⟨e1, e2⟩ := wraise_yes (T := T) (F := F) hv8 hp2 HT.out
              have cR := fun W (tW : Tk nos wa (iwG u a b c T F (toV T) (mV T) up) W) => tk_uraise_is (i := 3) (os' := iwG u a b c T (putF F (p * 32 + v)) (toV T) (mV T) up) 0 v p 0 W tW rfl e1 (by rw [e2]; rfl)
              clear e1 e2
              go_wp2_with fail
              go_quiet (fail)
              have T1 := Lib.hid (TK.out.drewN nq)
              clear TK
              go_wp2_with fail
              clear hV' hP' hK' hcell
              refine (cR _ T1.out).mono ?_
              rintro e w3 ⟨rfl, t3⟩
              obtain ⟨d1, d2, d3, f1, f2, f3⟩ := iw_at t3 (i := 0) rfl rfl rfl v hv8
              rw [HTV.out] at d1
              rw [HUP.out] at d3
              have T3 := Lib.hid t3
              clear cR t3 T1 c1 c2 c3
              go_wp2_with fail
              go_quiet ((go_at_call 10; first | exact quiet_ (fun W => num_any _ W) | exact quiet_a (fun W => num_any _ W)))
              have t4 := T3.out.drewN nq
              clear T3
              have S4 := Lib.hid (Iws.of (t4.sC v true) (HIw.out.raise_ hv8 p hp2 HT.out) (fun _ _ => rfl) (fun _ _ => rfl) (fun _ _ => rfl))
              clear t4
              go_wp2_with fail
              go_roundw
              case rel => exact ⟨k + 1, by omega, by omega, by go_num, S4⟩
              case measure => simp [intOf]; omega
          · have HT : Hid (toV T v ≠ p) := Lib.hid (by rw [HTV.out]; exact hne)
            have hpp : (tv == (p : Int)) = false := by simpa using hne
            clear hne
            cases hup : up v with
            | true =>
              have HUP := Lib.hid hup
              rw [hup] at c3
              clear hup
              obtain ⟨e1, e2⟩ := wraise_no (T := T) (F := F) hv8 hp2 HT.out
              have cR := fun W (tW : Tk nos wa (iwG u a b c T F (toV T) (mV T) up) W) => tk_uraise_is (i := 3) (os' := iwG u a b c T F (toV T) (mV T) up) 0 v p 1301 W tW rfl e1 (by rw [e2]; rfl)
              clear e1 e2
              go_wp2_with fail
              go_quiet (fail)
              have T1 := Lib.hid (TK.out.drewN nq)
              clear TK
              go_wp2_with fail
              clear hV' hP' hK' hcell
              refine (cR _ T1.out).mono ?_
              rintro e w3 ⟨rfl, t3⟩
              obtain ⟨d1, d2, d3, f1, f2, f3⟩ := iw_at t3 (i := 0) rfl rfl rfl v hv8
              rw [HTV.out] at d1
              rw [HUP.out] at d3
              have T3 := Lib.hid t3
              clear cR t3 T1 c1 c2 c3
              go_wp2_with fail
              go_quiet ((go_at_call 10; first | exact quiet_ (fun W => num_any _ W) | exact quiet_a (fun W => num_any _ W)))
              have t4 := T3.out.drewN nq
              clear T3
              have S4 := Lib.hid (Iws.of (t4.sC v true) HIw.out (fun _ _ => rfl) (fun _ _ => rfl) (fun i _ => bitF_same HUP.out i))
              clear t4
              go_wp2_with fail
              go_roundw
              case rel => exact ⟨k + 1, by omega, by omega, by go_num, S4⟩
              case measure => simp [intOf]; omega
            | false =>
              have HUP := Lib.hid hup
              rw [hup] at c3
              clear hup
              obtain ⟨e1, e2⟩ := wraise_no (T := T) (F := F) hv8 hp2 HT.out
              have cR := fun W (tW : Tk nos wa (iwG u a b c T F (toV T) (mV T) up) W) => tk_uraise_is (i := 3) (os' := iwG u a b c T F (toV T) (mV T) up) 0 v p 1301 W tW rfl e1 (by rw [e2]; rfl)
              clear e1 e2
              go_wp2_with fail
              go_quiet (fail)
              have T1 := Lib.hid (TK.out.drewN nq)
              clear TK
              go_wp2_with fail
              clear hV' hP' hK' hcell
              refine (cR _ T1.out).mono ?_
              rintro e w3 ⟨rfl, t3⟩
              obtain ⟨d1, d2, d3, f1, f2, f3⟩ := iw_at t3 (i := 0) rfl rfl rfl v hv8
              rw [HTV.out] at d1
              rw [HUP.out] at d3
              have T3 := Lib.hid t3
              clear cR t3 T1 c1 c2 c3
              go_wp2_with fail
              go_quiet ((go_at_call 10; first | exact quiet_ (fun W => num_any _ W) | exact quiet_a (fun W => num_any _ W)))
              have t4 := T3.out.drewN nq
              clear T3
              have S4 := Lib.hid (Iws.of (t4.sC v false) HIw.out (fun _ _ => rfl) (fun _ _ => rfl) (fun i _ => bitF_same HUP.out i))
              clear t4
              go_wp2_with fail
              go_roundw
              case rel => exact ⟨k + 1, by omega, by omega, by go_num, S4⟩
              case measure => simp [intOf]; omega
      · as_aux_lemma =>
          by_cases hne : tv = p
          · subst hne
            have HT : Hid (toV T v = p) := Lib.hid HTV.out
            have hpp : ((p : Int) == (p : Int)) = true := by simp
            cases hup : up v with
            | true =>
              have HUP := Lib.hid hup
              rw [hup] at c3
              clear hup
              obtain ⟨e1, e2⟩ := wraise_yes (T := T) (F := F) hv8 hp2 HT.out
              have cR := fun W (tW : Tk nos wa (iwG u a b c T F (toV T) (mV T) up) W) => tk_uraise_is (i := 3) (os' := iwG u a b c T (putF F (p * 32 + v)) (toV T) (mV T) up) 0 v p 0 W tW rfl e1 (by rw [e2]; rfl)
              clear e1 e2
              go_wp2_with fail
              go_quiet (fail)
              have T1 := Lib.hid (TK.out.drewN nq)
              clear TK
              go_wp2_with fail
              clear hV' hP' hK' hcell
              refine (cR _ T1.out).mono ?_
              rintro e w3 ⟨rfl, t3⟩
              obtain ⟨d1, d2, d3, f1, f2, f3⟩ := iw_at t3 (i := 0) rfl rfl rfl v hv8
              rw [HTV.out] at d1
              rw [HUP.out] at d3
              have T3 := Lib.hid t3
              clear cR t3 T1 c1 c2 c3
              go_wp2_with fail
              go_quiet ((go_at_call 10; first | exact quiet_ (fun W => num_any _ W) | exact quiet_a (fun W => num_any _ W)))
              have t4 := T3.out.drewN nq
              clear T3
              have S4 := Lib.hid (Iws.of (t4.sC v true) (HIw.out.raise_ hv8 p hp2 HT.out) (fun _ _ => rfl) (fun _ _ => rfl) (fun _ _ => rfl))
              clear t4
              go_wp2_with fail
              go_roundw
              case rel => exact ⟨k + 1, by omega, by omega, by go_num, S4⟩
              case measure => simp [intOf]; omega
            | false =>
              have HUP := Lib.hid hup
              rw [hup] at c3
              clear hup
              obtain ⟨e1, e2⟩ := wraise_yes (T := T) (F := F) hv8 hp2 HT.out
              have cR := fun W (tW : Tk nos wa (iwG u a b c T F (toV T) (mV T) up) W) => tk_uraise_is (i := 3) (os' := iwG u a b c T (putF F (p * 32 + v)) (toV T) (mV T) up) 0 v p 0 W tW rfl e1 (by rw [e2]; rfl)
              clear e1 e2
              go_wp2_with fail
              go_quiet (fail)
              have T1 := Lib.hid (TK.out.drewN nq)
              clear TK
              go_wp2_with fail
              clear hV' hP' hK' hcell
              refine (cR _ T1.out).mono ?_
              rintro e w3 ⟨rfl, t3⟩
              obtain ⟨d1, d2, d3, f1, f2, f3⟩ := iw_at t3 (i := 0) rfl rfl rfl v hv8
              rw [HTV.out] at d1
              rw [HUP.out] at d3
              have T3 := Lib.hid t3
              clear cR t3 T1 c1 c2 c3
              go_wp2_with fail
              go_quiet ((go_at_call 10; first | exact quiet_ (fun W => num_any _ W) | exact quiet_a (fun W => num_any _ W)))
              have t4 := T3.out.drewN nq
              clear T3
              have S4 := Lib.hid (Iws.of (t4.sC v true) (HIw.out.raise_ hv8 p hp2 HT.out) (fun _ _ => rfl) (fun _ _ => rfl) (fun _ _ => rfl))
              clear t4
              go_wp2_with fail
              go_roundw
              case rel => exact ⟨k + 1, by omega, by omega, by go_num, S4⟩
              case measure => simp [intOf]; omega
          · have HT : Hid (toV T v ≠ p) := Lib.hid (by rw [HTV.out]; exact hne)
            have hpp : (tv == (p : Int)) = false := by simpa using hne
            clear hne
            cases hup : up v with
            | true =>
              have HUP := Lib.hid hup
              rw [hup] at c3
              clear hup
              obtain ⟨e1, e2⟩ := wraise_no (T := T) (F := F) hv8 hp2 HT.out
              have cR := fun W (tW : Tk nos wa (iwG u a b c T F (toV T) (mV T) up) W) => tk_uraise_is (i := 3) (os' := iwG u a b c T F (toV T) (mV T) up) 0 v p 1301 W tW rfl e1 (by rw [e2]; rfl)
              clear e1 e2
              go_wp2_with fail
              go_quiet (fail)
              have T1 := Lib.hid (TK.out.drewN nq)
              clear TK
              go_wp2_with fail
              clear hV' hP' hK' hcell
              refine (cR _ T1.out).mono ?_
              rintro e w3 ⟨rfl, t3⟩
              obtain ⟨d1, d2, d3, f1, f2, f3⟩ := iw_at t3 (i := 0) rfl rfl rfl v hv8
              rw [HTV.out] at d1
              rw [HUP.out] at d3
              have T3 := Lib.hid t3
              clear cR t3 T1 c1 c2 c3
              go_wp2_with fail
              go_quiet ((go_at_call 10; first | exact quiet_ (fun W => num_any _ W) | exact quiet_a (fun W => num_any _ W)))
              have t4 := T3.out.drewN nq
              clear T3
              have S4 := Lib.hid (Iws.of (t4.sC v true) HIw.out (fun _ _ => rfl) (fun _ _ => rfl) (fun i _ => bitF_same HUP.out i))
              clear t4
              go_wp2_with fail
              go_roundw
              case rel => exact ⟨k + 1, by omega, by omega, by go_num, S4⟩
              case measure => simp [intOf]; omega
            | false =>
              have HUP := Lib.hid hup
              rw [hup] at c3
              clear hup
              obtain ⟨e1, e2⟩ := wraise_no (T := T) (F := F) hv8 hp2 HT.out
              have cR := fun W (tW : Tk nos wa (iwG u a b c T F (toV T) (mV T) up) W) => tk_uraise_is (i := 3) (os' := iwG u a b c T F (toV T) (mV T) up) 0 v p 1301 W tW rfl e1 (by rw [e2]; rfl)
              clear e1 e2
              go_wp2_with fail
              go_quiet (fail)
              have T1 := Lib.hid (TK.out.drewN nq)
              clear TK
              go_wp2_with fail
              clear hV' hP' hK' hcell
              refine (cR _ T1.out).mono ?_
              rintro e w3 ⟨rfl, t3⟩
              obtain ⟨d1, d2, d3, f1, f2, f3⟩ := iw_at t3 (i := 0) rfl rfl rfl v hv8
              rw [HTV.out] at d1
              rw [HUP.out] at d3
              have T3 := Lib.hid t3
              clear cR t3 T1 c1 c2 c3
              go_wp2_with fail
              go_quiet ((go_at_call 10; first | exact quiet_ (fun W => num_any _ W) | exact quiet_a (fun W => num_any _ W)))
              have t4 := T3.out.drewN nq
              clear T3
              have S4 := Lib.hid (Iws.of (t4.sC v false) HIw.out (fun _ _ => rfl) (fun _ _ => rfl) (fun i _ => bitF_same HUP.out i))
              clear t4
              go_wp2_with fail
              go_roundw
              case rel => exact ⟨k + 1, by omega, by omega, by go_num, S4⟩
              case measure => simp [intOf]; omega
      · as_aux_lemma =>
          by_cases hne : tv = p
          · subst hne
            have HT : Hid (toV T v = p) := Lib.hid HTV.out
            have hpp : ((p : Int) == (p : Int)) = true := by simp
            cases hup : up v with
            | true =>
              have HUP := Lib.hid hup
              rw [hup] at c3
              clear hup
              obtain ⟨e1, e2⟩ := wraise_yes (T := T) (F := F) hv8 hp2 HT.out
              have cR := fun W (tW : Tk nos wa (iwG u a b c T F (toV T) (mV T) up) W) => tk_uraise_is (i := 3) (os' := iwG u a b c T (putF F (p * 32 + v)) (toV T) (mV T) up) 0 v p 0 W tW rfl e1 (by rw [e2]; rfl)
              clear e1 e2
              go_wp2_with fail
              go_quiet (fail)
              have T1 := Lib.hid (TK.out.drewN nq)
              clear TK
              go_wp2_with fail
              clear hV' hP' hK' hcell
              refine (cR _ T1.out).mono ?_
              rintro e w3 ⟨rfl, t3⟩
              obtain ⟨d1, d2, d3, f1, f2, f3⟩ := iw_at t3 (i := 0) rfl rfl rfl v hv8
              rw [HTV.out] at d1
              rw [HUP.out] at d3
              have T3 := Lib.hid t3
              clear cR t3 T1 c1 c2 c3
              go_wp2_with fail
              go_quiet ((go_at_call 10; first | exact quiet_ (fun W => num_any _ W) | exact quiet_a (fun W => num_any _ W)))
              have t4 := T3.out.drewN nq
              clear T3
              have S4 := Lib.hid (Iws.of (t4.sC v true) (HIw.out.raise_ hv8 p hp2 HT.out) (fun _ _ => rfl) (fun _ _ => rfl) (fun _ _ => rfl))
              clear t4
              go_wp2_with fail
              go_roundw
              case rel => exact ⟨k + 1, by omega, by omega, by go_num, S4⟩
              case measure => simp [intOf]; omega
            | false =>
              have HUP := Lib.hid hup
              rw [hup] at c3
              clear hup
              obtain ⟨e1, e2⟩ := wraise_yes (T := T) (F := F) hv8 hp2 HT.out
              have cR := fun W (tW : Tk nos wa (iwG u a b c T F (toV T) (mV T) up) W) => tk_uraise_is (i := 3) (os' := iwG u a b c T (putF F (p * 32 + v)) (toV T) (mV T) up) 0 v p 0 W tW rfl e1 (by rw [e2]; rfl)
              clear e1 e2
              go_wp2_with fail
              go_quiet (fail)
              have T1 := Lib.hid (TK.out.drewN nq)
              clear TK
              go_wp2_with fail
              clear hV' hP' hK' hcell
              refine (cR _ T1.out).mono ?_
              rintro e w3 ⟨rfl, t3⟩
              obtain ⟨d1, d2, d3, f1, f2, f3⟩ := iw_at t3 (i := 0) rfl rfl rfl v hv8
              rw [HTV.out] at d1
              rw [HUP.out] at d3
              have T3 := Lib.hid t3
              clear cR t3 T1 c1 c2 c3
              go_wp2_with fail
              go_quiet ((go_at_call 10; first | exact quiet_ (fun W => num_any _ W) | exact quiet_a (fun W => num_any _ W)))
              have t4 := T3.out.drewN nq
              clear T3
              have S4 := Lib.hid (Iws.of (t4.sC v true) (HIw.out.raise_ hv8 p hp2 HT.out) (fun _ _ => rfl) (fun _ _ => rfl) (fun _ _ => rfl))
              clear t4
              go_wp2_with fail
              go_roundw
              case rel => exact ⟨k + 1, by omega, by omega, by go_num, S4⟩
              case measure => simp [intOf]; omega
          · have HT : Hid (toV T v ≠ p) := Lib.hid (by rw [HTV.out]; exact hne)
            have hpp : (tv == (p : Int)) = false := by simpa using hne
            clear hne
            cases hup : up v with
            | true =>
              have HUP := Lib.hid hup
              rw [hup] at c3
              clear hup
              obtain ⟨e1, e2⟩ := wraise_no (T := T) (F := F) hv8 hp2 HT.out
              have cR := fun W (tW : Tk nos wa (iwG u a b c T F (toV T) (mV T) up) W) => tk_uraise_is (i := 3) (os' := iwG u a b c T F (toV T) (mV T) up) 0 v p 1301 W tW rfl e1 (by rw [e2]; rfl)
              clear e1 e2
              go_wp2_with fail
              go_quiet (fail)
              have T1 := Lib.hid (TK.out.drewN nq)
              clear TK
              go_wp2_with fail
              clear hV' hP' hK' hcell
              refine (cR _ T1.out).mono ?_
              rintro e w3 ⟨rfl, t3⟩
              obtain ⟨d1, d2, d3, f1, f2, f3⟩ := iw_at t3 (i := 0) rfl rfl rfl v hv8
              rw [HTV.out] at d1
              rw [HUP.out] at d3
              have T3 := Lib.hid t3
              clear cR t3 T1 c1 c2 c3
              go_wp2_with fail
              go_quiet ((go_at_call 10; first | exact quiet_ (fun W => num_any _ W) | exact quiet_a (fun W => num_any _ W)))
              have t4 := T3.out.drewN nq
              clear T3
              have S4 := Lib.hid (Iws.of (t4.sC v true) HIw.out (fun _ _ => rfl) (fun _ _ => rfl) (fun i _ => bitF_same HUP.out i))
              clear t4
              go_wp2_with fail
              go_roundw
              case rel => exact ⟨k + 1, by omega, by omega, by go_num, S4⟩
              case measure => simp [intOf]; omega
            | false =>
              have HUP := Lib.hid hup
              rw [hup] at c3
              clear hup
              obtain ⟨e1, e2⟩ := wraise_no (T := T) (F := F) hv8 hp2 HT.out
              have cR := fun W (tW : Tk nos wa (iwG u a b c T F (toV T) (mV T) up) W) => tk_uraise_is (i := 3) (os' := iwG u a b c T F (toV T) (mV T) up) 0 v p 1301 W tW rfl e1 (by rw [e2]; rfl)
              clear e1 e2
              go_wp2_with fail
              go_quiet (fail)
              have T1 := Lib.hid (TK.out.drewN nq)
              clear TK
              go_wp2_with fail
              clear hV' hP' hK' hcell
              refine (cR _ T1.out).mono ?_
              rintro e w3 ⟨rfl, t3⟩
              obtain ⟨d1, d2, d3, f1, f2, f3⟩ := iw_at t3 (i := 0) rfl rfl rfl v hv8
              rw [HTV.out] at d1
              rw [HUP.out] at d3
              have T3 := Lib.hid t3
              clear cR t3 T1 c1 c2 c3
              go_wp2_with fail
              go_quiet ((go_at_call 10; first | exact quiet_ (fun W => num_any _ W) | exact quiet_a (fun W => num_any _ W)))
              have t4 := T3.out.drewN nq
              clear T3
              have S4 := Lib.hid (Iws.of (t4.sC v false) HIw.out (fun _ _ => rfl) (fun _ _ => rfl) (fun i _ => bitF_same HUP.out i))
              clear t4
              go_wp2_with fail
              go_roundw
              case rel => exact ⟨k + 1, by omega, by omega, by go_num, S4⟩
              case measure => simp [intOf]; omega
      · as_aux_lemma =>
          obtain ⟨Q, hQ⟩ : ∃ Q, dwB T up p = Q := ⟨_, rfl⟩
          have HQ := Lib.hid hQ
          have hL : udL 1 2 T F p k = tks k (plN Q 8) := by
            unfold udL
            rw [show hP 2 (p : Int) = true by unfold hP; simp; omega, Int.toNat_natCast, HIw.out.told p hp2, hQ]; rfl
          have hF2 : udF 1 2 T F p = dlF 1 T F p := by
            unfold udF
            rw [show hP 2 (p : Int) = true by unfold hP; simp; omega, Int.toNat_natCast]; rfl
          have HLQ := Lib.hid hL
          have HF2 := Lib.hid hF2
          clear hL hF2 hQ c1 c2 c3
          go_wp2_with fail
          go_quiet (fail)
          have T1 := Lib.hid (TK.out.drewN nq)
          clear TK
          go_wp2_with fail
          clear hV' hP' hK' hcell
          generalize wr.drewN nq = wd at *
          have W0 : Hid (Tk nos wa (obI (.slice none 0 0) (tks k (plN Q 0)) :: iwG u a b c T F (toV T) (mV T) (upJ up Q 0)) wd) := Lib.hid (by
            have e : upJ up Q 0 = up := by funext i; unfold upJ; simp
            rw [e]
            exact T1.out.addR (Below.refl _ _) ⟨rfl, .inl ⟨rfl, rfl⟩⟩)
          clear T1
          go_loopw [15, 16] (fun x i wq => ∃ (j : Nat), j ≤ 8 ∧ i = .int .i64 j ∧ Hid (Tk nos wa (obI x (tks k (plN Q j)) :: iwG u a b c T F (toV T) (mV T) (upJ up Q j)) wq)) (fun _ i _ => 8 - (intOf i).toNat)
          case atStart => exact ⟨0, by omega, rfl, W0⟩
          case round =>
            clear W0
            obtain ⟨j, hj, rfl, HW⟩ := hrel
            by_cases hj8 : j < 8
            · have hj8I : (j : Int) < 8 := by omega
              obtain ⟨c1, c2, c3, f1, f2, f3⟩ := iw_at HW.out (i := 1) rfl rfl rfl j hj8
              rw [upJ_here] at c3
              cases hq : Q j with
              | false =>
                have T1 : Hid (Tk nos wa (obI u15 (tks k (plN Q (j + 1))) :: iwG u a b c T F (toV T) (mV T) (upJ up Q (j + 1))) wr) := Lib.hid (by
                  rw [upJ_skip hq, plN_step, hq]; simp only [Bool.false_eq_true, if_false, List.append_nil]; exact HW.out)
                have hq2 : dwB T up p j = false := by rw [HQ.out]; exact hq
                obtain ⟨tj, htj⟩ : ∃ tj, toV T j = tj := ⟨_, rfl⟩
                rw [htj] at c1
                unfold dwB at hq2
                rw [htj] at hq2
                obtain ⟨mj, hmj⟩ : ∃ mj, mV T j = mj := ⟨_, rfl⟩
                rw [hmj] at c2 hq2
                clear hq htj hmj
                cases hup : up j with
                | false =>
                  rw [hup] at c3
                  clear hup hq2
                  go_wp2_with fail
                  go_roundw
                  case rel => exact ⟨j + 1, by omega, by go_num, T1⟩
                  case measure => simp [intOf]; omega
                | true =>
                  rw [hup] at c3 hq2
                  by_cases htp : tj = p
                  · subst htp
                    have hpp : ((p : Int) == (p : Int)) = true := by simp
                    obtain rfl : mj = true := by cases mj <;> simp_all
                    clear hup hq2
                    go_wp2_with fail
                    go_roundw
                    case rel => exact ⟨j + 1, by omega, by go_num, T1⟩
                    case measure => simp [intOf]; omega
                  · have hpp : (tj == (p : Int)) = false := by simpa using htp
                    clear hup hq2 htp
                    go_wp2_with fail
                    go_roundw
                    case rel => exact ⟨j + 1, by omega, by go_num, T1⟩
                    case measure => simp [intOf]; omega
              | true =>
                have hq2 : dwB T up p j = true := by rw [HQ.out]; exact hq
                unfold dwB at hq2
                simp only [Bool.and_eq_true, decide_eq_true_eq, Bool.not_eq_true'] at hq2
                obtain ⟨⟨hup, htp⟩, hm⟩ := hq2
                rw [hup] at c3
                rw [htp] at c1
                rw [hm] at c2
                have hpp : ((p : Int) == (p : Int)) = true := by simp
                have hl := plN_len Q j
                rw [← tks_len (k : Int)] at hl
                have hst : tks (k : Int) (plN Q (j + 1)) = tks k (plN Q j) ++ [⟨(k : Int), 0, (j : Int)⟩] := by
                  rw [plN_step, hq]; simp only [if_true, tks, List.map_append, List.map_cons, List.map_nil]
                  rw [show j / 8 = 0 by omega, show j % 8 = j by omega]; rfl
                have HST := Lib.hid hst
                have HUT := Lib.hid (upJ_take (up := up) hq)
                obtain ⟨z, hzz⟩ : ∃ z, (tks (k : Int) (plN Q j)).length = z := ⟨_, rfl⟩
                have HZ := Lib.hid hzz
                rw [hzz] at hl
                clear hq hup htp hm hst hzz
                have hbl : Below wr.heap.size wr (wr.alloc (.cells #[.int .i64 (k : Int), .int .i64 0, .int .i64 (j : Int)] 46)) := (Below.refl _ _).alloc (Nat.le_refl _) _
                have BL := Lib.hid hbl
                clear hbl f1 f2 f3
                go_wp2_with (at_builtin; refine wpList_append_lies _ rfl _ _ 36 rfl 0 46 i0 _ 3 24 Try.underlying36 HI.out HZ0.out HZ1.out HZ2.out rfl (by decide) u15 (tks (k : Int) (plN Q j)).length (iqs (tks (k : Int) (plN Q j))) rfl (own_below (HW.out.row (i := 0) rfl) BL.out) ⟨wr.heap.size, 0, none⟩ 1 1 [.int .i64 (k : Int), .int .i64 0, .int .i64 (j : Int)] rfl rfl (row_new wr [.int .i64 (k : Int), .int .i64 0, .int .i64 (j : Int)] 46) (iq_one _ _ _) (by omega) (by unfold maxLen; have := HZ.out; omega) (by have := HZ.out; omega) (by omega) _ rfl ?_)
                intro gg cap6 w6 own6 gr6 hat6 hlt6
                have t5 := HW.out.next BL.out
                have t6 : Tk nos wa (obI (.slice (some ⟨gg, 0, none⟩) ((tks (k : Int) (plN Q j)).length + 1) cap6) (tks (k : Int) (plN Q (j + 1))) :: iwG u a b c T F (toV T) (mV T) (upJ up Q j)) w6 := by
                  refine t5.turnR (i := 0) rfl gr6 (by rw [HST.out, iqs_append, List.length_append]; exact own6) (fun x hx => ?_)
                  have e : gg = x := by simpa [Value.ownBlock] using hx
                  subst e
                  rcases hat6 with h | h
                  · exact .inl h
                  · exact .inr (by simp at h ⊢; omega)
                obtain ⟨c1', c2', c3', f1, f2, f3⟩ := iw_at t6 (i := 1) rfl rfl rfl j hj8
                have T7 : Hid (Tk nos wa (obI (.slice (some ⟨gg, 0, none⟩) ((tks (k : Int) (plN Q j)).length + 1) cap6) (tks (k : Int) (plN Q (j + 1))) :: iwG u a b c T F (toV T) (mV T) (upJ up Q (j + 1))) (w6.setCell ⟨c, j, none⟩ (.bool false))) := Lib.hid (by
                  have t7 := t6.store (i := 1) rfl j (.bool false)
                  rw [bitc_set, HUT.out] at t7
                  exact t7)
                clear own6 gr6 hat6 hlt6 t5 t6 c1 c2 c3 c1' c2'
                go_wp2_with fail
                go_roundw
                case rel => exact ⟨j + 1, by omega, by go_num, T7⟩
                case measure => simp [intOf]; omega
            · have e : j = 8 := by omega
              subst e
              go_wp2_with fail
              refine (tk_udeliver_is (i := 4) (os' := obI u15 (tks k (plN Q 8)) :: iwG u a b c T (dlF 1 T F p) (toV T) (mV T) (upJ up Q 8)) p k (tks k (plN Q 8)) wr HW.out rfl HLQ.out (by rw [HF2.out]; rfl)).mono ?_
              rintro e w3 ⟨x, rfl, t3⟩
              have hl := plN_len Q 8
              rw [← tks_len (k : Int)] at hl
              have cS := same_iqs x u15 _ (tks k (plN Q 8)) w3 (t3.sl (i := 0) rfl) (t3.sl (i := 1) rfl) rfl (by unfold maxLen; omega)
              have S4 : Hid (Iws wa u a b c w3) := Lib.hid (Iws.of t3.tail.tail (HIw.out.deliver p hp2) (fun _ _ => rfl) (fun _ _ => rfl) (fun i hi => by rw [HQ.out]; unfold upJ; rw [decide_eq_true hi]; simp))
              clear t3
              go_wp2_with fail
              refine cS.mono ?_
              clear cS
              rintro e w' ⟨rfl, q6, rfl⟩
              have S5 := Lib.hid (S4.out.drewN q6)
              clear S4
              generalize w3.drewN q6 = w4 at *
              go_wp2_with fail
              go_roundw
              case rel => exact ⟨k + 1, by omega, by omega, by go_num, S5⟩
              case measure => simp [intOf]; omega
    · have hx : (k : Int) ≥ n ∨ ((k : Int) < n ∧ decide ((k : Int) < 60) = false) := by
        by_cases h1 : k < n
        · exact .inr ⟨by omega, by simp; omega⟩
        · exact .inl (by omega)
      have BZ : Hid (Below w.heap.size w wr) := Lib.hid (by obtain ⟨T, F, up, hI, tk⟩ := HS.out; exact Below.down BA.out tk.below BA.out.size)
      clear hgo HS
      rcases hx with hx | ⟨hx, hx2⟩
      all_goals
        go_wp2_with fail
        go_ret
        exact ⟨rfl, BZ.out⟩
end Go.Proofs.Ytjmdgjpepogogaa
