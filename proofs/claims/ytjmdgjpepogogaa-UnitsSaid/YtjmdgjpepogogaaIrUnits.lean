/-
  Layer 13's law Units: it answers true for every input.
-/
import Derived.Test.YtjmdgjpepogogaaIr5
import Derived.Test.YtjmdgjpepogogaaIrAwake
import Derived.Test.YtjmdgjpepogogaaArgs
import Derived.StillTailTactics
import Derived.Deep.DeepCutAuto
import Derived.Deep.CutBlock
namespace Go.Proofs.Ytjmdgjpepogogaa
open Go.RowKit Go.ChangeMaps Go.Deep
set_option linter.unusedVariables false
set_option maxRecDepth 100000

/-- A field of one cell that is a bool, out of a struct's cells. -/
theorem fld_boolu {H : Type} {enc : TypeId × Value → H} {P : Program} {W : World} {e : TypeId} {fs : Array Field} {m : Nat} {cs : List Value} {y : DataW H × List MemPlace} (he : P.underlying e = some (.struct fs)) (hy : DataW.trod enc P W 0 (fun _ => true) true m e cs = some y)
    (k o : Nat) (f : Field) (hk : fs[k]? = some f) (ho : f.offset = o) (hc : P.cellsOf f.type = 1) (hu : P.underlying f.type = some .bool) : ∃ b : Bool, cs[o]? = some (.bool b) := by
  obtain ⟨ys, m', _, _, hlen, hyl, hf⟩ := DataW.trod_struct he hy
  have hkl : k < ys.length := by rw [hyl]; exact (Array.getElem?_eq_some_iff.1 hk).1
  have h1 := hf _ f hk
  rw [ho, hc, List.getElem?_eq_getElem hkl] at h1
  obtain ⟨b, hz, _⟩ := DataW.trod_bool hu h1
  refine ⟨b, ?_⟩
  have g : ((cs.drop o).take 1)[0]? = some (Value.bool b) := by rw [hz]; rfl
  rw [List.getElem?_take, if_pos (by omega), List.getElem?_drop] at g
  exact g

/-- The i-th act. -/
def ActU (xs : List Value) (i : Nat) : Prop := ∃ (K D V P Q : Int) (M : Bool), xs[i * 6]? = some (.int .i64 K) ∧ xs[i * 6 + 1]? = some (.int .i64 D) ∧ xs[i * 6 + 2]? = some (.int .i64 V) ∧ xs[i * 6 + 3]? = some (.int .i64 P) ∧ xs[i * 6 + 4]? = some (.int .i64 Q) ∧ xs[i * 6 + 5]? = some (.bool M)
theorem actsu_of {H : Type} {enc : TypeId × Value → H} {W : World} {n : Nat} {xs : List Value}
    (hr : ∀ i, i < n → ∃ (m : Nat) (y : DataW H × List MemPlace), DataW.trod enc Try.prog W 0 (fun _ => true) true m 34 ((xs.drop (i * 6)).take 6) = some y) : ∀ i, i < n → ActU xs i := by
  intro i hi
  obtain ⟨m, y, hy⟩ := hr i hi
  obtain ⟨k, hk, _⟩ := fld_int (P := Try.prog) Try.underlying34 hy 0 0 _ rfl rfl (by kernel_rfl) Try.underlying3
  obtain ⟨d, hd, _⟩ := fld_int (P := Try.prog) Try.underlying34 hy 1 1 _ rfl rfl (by kernel_rfl) Try.underlying3
  obtain ⟨v, hv, _⟩ := fld_int (P := Try.prog) Try.underlying34 hy 2 2 _ rfl rfl (by kernel_rfl) Try.underlying3
  obtain ⟨p, hp, _⟩ := fld_int (P := Try.prog) Try.underlying34 hy 3 3 _ rfl rfl (by kernel_rfl) Try.underlying3
  obtain ⟨q, hq, _⟩ := fld_int (P := Try.prog) Try.underlying34 hy 4 4 _ rfl rfl (by kernel_rfl) Try.underlying3
  obtain ⟨b, hb⟩ := fld_boolu (P := Try.prog) Try.underlying34 hy 5 5 _ rfl rfl (by kernel_rfl) Try.underlying4
  rw [elem_at _ _ _ _ (by omega)] at hk hd hv hp hq hb
  exact ⟨k, d, v, p, q, b, hk, hd, hv, hp, hq, hb⟩
/-- The cells of a slice's k-th act. -/
theorem rec6u {w : World} {A : Option Addr} {n c : Nat} {xs : List Value} (h : Sl w (.slice A n c) n 6 xs) (ha : ∀ i, i < n → ActU xs i) (k : Nat) (hk : k < n) :
    ∃ b o, A = some ⟨b, o, none⟩ ∧ b < w.heap.size ∧ ∃ (K D V P Q : Int) (M : Bool), w.cell? ⟨b, o + k * 6, none⟩ = some (.int .i64 K) ∧ w.cell? ⟨b, o + k * 6 + 1, none⟩ = some (.int .i64 D) ∧ w.cell? ⟨b, o + k * 6 + 2, none⟩ = some (.int .i64 V) ∧ w.cell? ⟨b, o + k * 6 + 3, none⟩ = some (.int .i64 P) ∧ w.cell? ⟨b, o + k * 6 + 4, none⟩ = some (.int .i64 Q) ∧ w.cell? ⟨b, o + k * 6 + 5, none⟩ = some (.bool M) := by
  obtain ⟨A', c', e, _, hl, hA⟩ := h
  simp only [Value.slice.injEq] at e
  obtain ⟨rfl, _, rfl⟩ := e
  obtain ⟨b, o, rfl, hb, hc⟩ := hA (by omega)
  obtain ⟨K, D, V, P, Q, M, h0, h1, h2, h3, h4, h5⟩ := ha k hk
  refine ⟨b, o, rfl, hb, K, D, V, P, Q, M, hc _ _ h0, ?_, ?_, ?_, ?_, ?_⟩
  · have := hc _ _ h1; rwa [← Nat.add_assoc] at this
  · have := hc _ _ h2; rwa [← Nat.add_assoc] at this
  · have := hc _ _ h3; rwa [← Nat.add_assoc] at this
  · have := hc _ _ h4; rwa [← Nat.add_assoc] at this
  · have := hc _ _ h5; rwa [← Nat.add_assoc] at this

/-- An act's cells. -/
def actC (K X V P Q : Int) (M : Bool) : List Value := [.int .i64 K, .int .i64 X, .int .i64 V, .int .i64 P, .int .i64 Q, .bool M]
theorem actC_at {w : World} {k : Nat} {K X V P Q : Int} {M : Bool} (h : Blk w k 34 (actC K X V P Q M)) : w.cell? ⟨k, 0, none⟩ = some (.int .i64 K) ∧ w.cell? ⟨k, 1, none⟩ = some (.int .i64 X) ∧ w.cell? ⟨k, 2, none⟩ = some (.int .i64 V) ∧ w.cell? ⟨k, 3, none⟩ = some (.int .i64 P) ∧ w.cell? ⟨k, 4, none⟩ = some (.int .i64 Q) ∧ w.cell? ⟨k, 5, none⟩ = some (.bool M) := by
  refine ⟨?_, ?_, ?_, ?_, ?_, ?_⟩ <;> (rw [h.cell]; rfl)
theorem num_stu (n : Int) (w : World) : Calls Try.prog 10 #[.int .i64 n] w fun e w' => e = .returned (.int .i64 n) ∧ w' = w := (num_any n w).mono fun _ _ ⟨he, hw⟩ => ⟨he, hw.symm⟩

/-- Both Units say the same. -/
def Bu (W0 : World) (u y D n : Nat) (w : World) : Prop := ∃ T F, Tk nos W0 [obD y D n T F, obU u D n T F] w

set_option maxHeartbeats 2000000 in
theorem step13_route {W0 : World} {u y D n : Nat} (K X V P Q : Int) (M : Bool) (w : World) (h : Bu W0 u y D n w) (hK : K < 4) :
    Calls Try.prog 12 #[.pointer (some ⟨u, 0, none⟩), .pointer (some ⟨y, 0, none⟩), .agg #[.int .i64 K, .int .i64 X, .int .i64 V, .int .i64 P, .int .i64 Q, .bool M]] w fun e w' => e = .returned (.bool true) ∧ Bu W0 u y D n w' := by
  obtain ⟨T, F, tk⟩ := h
  obtain ⟨c, hc⟩ : ∃ c, urC D n X V P = c := ⟨_, rfl⟩
  obtain ⟨T', hT⟩ : ∃ T', urT D n T X V P = T' := ⟨_, rfl⟩
  have HT := Lib.hid hT
  clear hT
  have HC := Lib.hid hc
  clear hc
  have hcc : (c == c) = true := by simp
  have t1 := tk.alloc 34 (actC K X V P Q M)
  have hk1 := t1.blk (i := 0) rfl
  have T1 := Lib.hid t1
  clear t1 tk
  go_enter Try.func12, Try.ntmps12
  go_wp2_with fail
  change Calls _ _ _ (w.alloc (.cells (actC K X V P Q M).toArray 34)) _
  generalize w.alloc (.cells (actC K X V P Q M).toArray 34) = wa at *
  generalize w.heap.size = k at *
  clear hk1
  refine (tk_uroute (i := 2) X V P wa T1.out rfl).mono ?_
  rw [HC.out, HT.out]
  rintro e w2 ⟨rfl, t2⟩
  obtain ⟨d0, d1, d2, d3, d4, d5⟩ := actC_at (t2.blk (i := 0) rfl)
  have T2 := Lib.hid (t2.drewN 1)
  clear t2 T1
  go_wp2_with fail
  go_still_tail 9, (by kernel_rfl)
  still_call (num_stu _ _)
  repeat still_step
  refine wpStill_nil ?_
  change wpList _ _ _ _ _ w2.drew
  have t3 := T2.out
  change Tk _ _ _ w2.drew at t3
  have T3 := Lib.hid t3
  clear T2 t3 d0 d1 d2 d3 d4 d5
  generalize w2.drew = w3 at *
  go_wp2_with fail
  refine (tk_droute (i := 1) X V P w3 T3.out rfl).mono ?_
  rw [HC.out, HT.out]
  rintro e w4 ⟨rfl, t4⟩
  have T4 : Hid (Bu W0 u y D n w4) := Lib.hid ⟨T', F, t4.tail⟩
  clear t4
  go_wp2_with fail
  go_ret
  exact ⟨rfl, T4.out⟩
set_option maxHeartbeats 2000000 in
theorem step13_unroute {W0 : World} {u y D n : Nat} (K X V P Q : Int) (M : Bool) (w : World) (h : Bu W0 u y D n w) (hK : K = 4) :
    Calls Try.prog 12 #[.pointer (some ⟨u, 0, none⟩), .pointer (some ⟨y, 0, none⟩), .agg #[.int .i64 K, .int .i64 X, .int .i64 V, .int .i64 P, .int .i64 Q, .bool M]] w fun e w' => e = .returned (.bool true) ∧ Bu W0 u y D n w' := by
  subst hK
  obtain ⟨T, F, tk⟩ := h
  obtain ⟨c, hc⟩ : ∃ c, uuC D T X V = c := ⟨_, rfl⟩
  obtain ⟨T', hT⟩ : ∃ T', ruT D T X V = T' := ⟨_, rfl⟩
  have HT := Lib.hid hT
  obtain ⟨F', hF⟩ : ∃ F', uuF D n T F X V = F' := ⟨_, rfl⟩
  have HF := Lib.hid hF
  clear hT
  clear hF
  have HC := Lib.hid hc
  clear hc
  have hcc : (c == c) = true := by simp
  have t1 := tk.alloc 34 (actC 4 X V P Q M)
  have hk1 := t1.blk (i := 0) rfl
  have T1 := Lib.hid t1
  clear t1 tk
  go_enter Try.func12, Try.ntmps12
  go_wp2_with fail
  change Calls _ _ _ (w.alloc (.cells (actC 4 X V P Q M).toArray 34)) _
  generalize w.alloc (.cells (actC 4 X V P Q M).toArray 34) = wa at *
  generalize w.heap.size = k at *
  clear hk1
  refine (tk_uunroute (i := 2) X V wa T1.out rfl).mono ?_
  rw [HC.out, HT.out, HF.out]
  rintro e w2 ⟨rfl, t2⟩
  obtain ⟨d0, d1, d2, d3, d4, d5⟩ := actC_at (t2.blk (i := 0) rfl)
  have T2 := Lib.hid (t2.drewN 1)
  clear t2 T1
  go_wp2_with fail
  go_still_tail 7, (by kernel_rfl)
  still_call (num_stu _ _)
  repeat still_step
  refine wpStill_nil ?_
  change wpList _ _ _ _ _ w2.drew
  have t3 := T2.out
  change Tk _ _ _ w2.drew at t3
  have T3 := Lib.hid t3
  clear T2 t3 d0 d1 d2 d3 d4 d5
  generalize w2.drew = w3 at *
  go_wp2_with fail
  refine (tk_dunroute (i := 1) X V w3 T3.out rfl).mono ?_
  rw [HC.out, HT.out, HF.out]
  rintro e w4 ⟨rfl, t4⟩
  have T4 : Hid (Bu W0 u y D n w4) := Lib.hid ⟨T', F', t4.tail⟩
  clear t4
  go_wp2_with fail
  go_ret
  exact ⟨rfl, T4.out⟩
set_option maxHeartbeats 2000000 in
theorem step13_mask {W0 : World} {u y D n : Nat} (K X V P Q : Int) (M : Bool) (w : World) (h : Bu W0 u y D n w) (hK : 4 < K ∧ K < 7) :
    Calls Try.prog 12 #[.pointer (some ⟨u, 0, none⟩), .pointer (some ⟨y, 0, none⟩), .agg #[.int .i64 K, .int .i64 X, .int .i64 V, .int .i64 P, .int .i64 Q, .bool M]] w fun e w' => e = .returned (.bool true) ∧ Bu W0 u y D n w' := by
  obtain ⟨hK1, hK2⟩ := hK
  have hK3 : (K == 4) = false := by simp; omega
  have hK4 : 4 ≤ K := by omega
  obtain ⟨T, F, tk⟩ := h
  obtain ⟨c, hc⟩ : ∃ c, uuC D T X V = c := ⟨_, rfl⟩
  obtain ⟨T', hT⟩ : ∃ T', rmT D T X V M = T' := ⟨_, rfl⟩
  have HT := Lib.hid hT
  clear hT
  have HC := Lib.hid hc
  clear hc
  have hcc : (c == c) = true := by simp
  have t1 := tk.alloc 34 (actC K X V P Q M)
  have hk1 := t1.blk (i := 0) rfl
  have T1 := Lib.hid t1
  clear t1 tk
  go_enter Try.func12, Try.ntmps12
  go_wp2_with fail
  change Calls _ _ _ (w.alloc (.cells (actC K X V P Q M).toArray 34)) _
  generalize w.alloc (.cells (actC K X V P Q M).toArray 34) = wa at *
  generalize w.heap.size = k at *
  clear hk1
  refine (tk_umask (i := 2) X V M wa T1.out rfl).mono ?_
  rw [HC.out, HT.out]
  rintro e w2 ⟨rfl, t2⟩
  obtain ⟨d0, d1, d2, d3, d4, d5⟩ := actC_at (t2.blk (i := 0) rfl)
  have T2 := Lib.hid (t2.drewN 1)
  clear t2 T1
  go_wp2_with fail
  go_still_tail 9, (by kernel_rfl)
  still_call (num_stu _ _)
  repeat still_step
  refine wpStill_nil ?_
  change wpList _ _ _ _ _ w2.drew
  have t3 := T2.out
  change Tk _ _ _ w2.drew at t3
  have T3 := Lib.hid t3
  clear T2 t3 d0 d1 d2 d3 d4 d5
  generalize w2.drew = w3 at *
  go_wp2_with fail
  refine (tk_dmask (i := 1) X V M w3 T3.out rfl).mono ?_
  rw [HC.out, HT.out]
  rintro e w4 ⟨rfl, t4⟩
  have T4 : Hid (Bu W0 u y D n w4) := Lib.hid ⟨T', F, t4.tail⟩
  clear t4
  go_wp2_with fail
  go_ret
  exact ⟨rfl, T4.out⟩
set_option maxHeartbeats 2000000 in
theorem step13_raise {W0 : World} {u y D n : Nat} (K X V P Q : Int) (M : Bool) (w : World) (h : Bu W0 u y D n w) (hK : 7 ≤ K ∧ K < 12) :
    Calls Try.prog 12 #[.pointer (some ⟨u, 0, none⟩), .pointer (some ⟨y, 0, none⟩), .agg #[.int .i64 K, .int .i64 X, .int .i64 V, .int .i64 P, .int .i64 Q, .bool M]] w fun e w' => e = .returned (.bool true) ∧ Bu W0 u y D n w' := by
  obtain ⟨hK1, hK2⟩ := hK
  have hK3 : (K == 4) = false := by simp; omega
  have hK4 : 4 ≤ K := by omega
  obtain ⟨T, F, tk⟩ := h
  obtain ⟨c, hc⟩ : ∃ c, uaC D n T X V P = c := ⟨_, rfl⟩
  obtain ⟨F', hF⟩ : ∃ F', uaF D n T F X V P = F' := ⟨_, rfl⟩
  have HF := Lib.hid hF
  clear hF
  have HC := Lib.hid hc
  clear hc
  have hcc : (c == c) = true := by simp
  have t1 := tk.alloc 34 (actC K X V P Q M)
  have hk1 := t1.blk (i := 0) rfl
  have T1 := Lib.hid t1
  clear t1 tk
  go_enter Try.func12, Try.ntmps12
  go_wp2_with fail
  change Calls _ _ _ (w.alloc (.cells (actC K X V P Q M).toArray 34)) _
  generalize w.alloc (.cells (actC K X V P Q M).toArray 34) = wa at *
  generalize w.heap.size = k at *
  clear hk1
  refine (tk_uraise (i := 2) X V P wa T1.out rfl).mono ?_
  rw [HC.out, HF.out]
  rintro e w2 ⟨rfl, t2⟩
  obtain ⟨d0, d1, d2, d3, d4, d5⟩ := actC_at (t2.blk (i := 0) rfl)
  have T2 := Lib.hid (t2.drewN 1)
  clear t2 T1
  go_wp2_with fail
  go_still_tail 9, (by kernel_rfl)
  still_call (num_stu _ _)
  repeat still_step
  refine wpStill_nil ?_
  change wpList _ _ _ _ _ w2.drew
  have t3 := T2.out
  change Tk _ _ _ w2.drew at t3
  have T3 := Lib.hid t3
  clear T2 t3 d0 d1 d2 d3 d4 d5
  generalize w2.drew = w3 at *
  go_wp2_with fail
  refine (tk_draise (i := 1) X V P w3 T3.out rfl).mono ?_
  rw [HC.out, HF.out]
  rintro e w4 ⟨rfl, t4⟩
  have T4 : Hid (Bu W0 u y D n w4) := Lib.hid ⟨T, F', t4.tail⟩
  clear t4
  go_wp2_with fail
  go_ret
  exact ⟨rfl, T4.out⟩
set_option maxHeartbeats 2000000 in
theorem step13_clear {W0 : World} {u y D n : Nat} (K X V P Q : Int) (M : Bool) (w : World) (h : Bu W0 u y D n w) (hK : 12 < K) :
    Calls Try.prog 12 #[.pointer (some ⟨u, 0, none⟩), .pointer (some ⟨y, 0, none⟩), .agg #[.int .i64 K, .int .i64 X, .int .i64 V, .int .i64 P, .int .i64 Q, .bool M]] w fun e w' => e = .returned (.bool true) ∧ Bu W0 u y D n w' := by
  have hK3 : (K == 4) = false := by simp; omega
  have hK4 : 4 ≤ K := by omega
  have hK7 : 7 ≤ K := by omega
  have hK5 : 12 ≤ K := by omega
  have hK6 : (K == 12) = false := by simp; omega
  obtain ⟨T, F, tk⟩ := h
  obtain ⟨c, hc⟩ : ∃ c, ucC D X = c := ⟨_, rfl⟩
  obtain ⟨T', hT⟩ : ∃ T', rcT D T X = T' := ⟨_, rfl⟩
  have HT := Lib.hid hT
  obtain ⟨F', hF⟩ : ∃ F', ucF D n F X = F' := ⟨_, rfl⟩
  have HF := Lib.hid hF
  clear hT
  clear hF
  have HC := Lib.hid hc
  clear hc
  have hcc : (c == c) = true := by simp
  have t1 := tk.alloc 34 (actC K X V P Q M)
  have hk1 := t1.blk (i := 0) rfl
  have T1 := Lib.hid t1
  clear t1 tk
  go_enter Try.func12, Try.ntmps12
  go_wp2_with fail
  change Calls _ _ _ (w.alloc (.cells (actC K X V P Q M).toArray 34)) _
  generalize w.alloc (.cells (actC K X V P Q M).toArray 34) = wa at *
  generalize w.heap.size = k at *
  clear hk1
  refine (tk_uclear (i := 2) X wa T1.out rfl).mono ?_
  rw [HC.out, HT.out, HF.out]
  rintro e w2 ⟨rfl, t2⟩
  obtain ⟨d0, d1, d2, d3, d4, d5⟩ := actC_at (t2.blk (i := 0) rfl)
  have T2 := Lib.hid (t2.drewN 1)
  clear t2 T1
  go_wp2_with fail
  go_still_tail 5, (by kernel_rfl)
  still_call (num_stu _ _)
  repeat still_step
  refine wpStill_nil ?_
  change wpList _ _ _ _ _ w2.drew
  have t3 := T2.out
  change Tk _ _ _ w2.drew at t3
  have T3 := Lib.hid t3
  clear T2 t3 d0 d1 d2 d3 d4 d5
  generalize w2.drew = w3 at *
  go_wp2_with fail
  refine (tk_dclear (i := 1) X w3 T3.out rfl).mono ?_
  rw [HC.out, HT.out, HF.out]
  rintro e w4 ⟨rfl, t4⟩
  have T4 : Hid (Bu W0 u y D n w4) := Lib.hid ⟨T', F', t4.tail⟩
  clear t4
  go_wp2_with fail
  go_ret
  exact ⟨rfl, T4.out⟩
set_option maxHeartbeats 2000000 in
theorem step13_deliver {W0 : World} {u y D n : Nat} (X V P Q : Int) (M : Bool) (w : World) (h : Bu W0 u y D n w) :
    Calls Try.prog 12 #[.pointer (some ⟨u, 0, none⟩), .pointer (some ⟨y, 0, none⟩), .agg #[.int .i64 12, .int .i64 X, .int .i64 V, .int .i64 P, .int .i64 Q, .bool M]] w fun e w' => e = .returned (.bool true) ∧ Bu W0 u y D n w' := by
  obtain ⟨T, F, tk⟩ := h
  obtain ⟨L, hL⟩ : ∃ L, udL D n T F P Q = L := ⟨_, rfl⟩
  obtain ⟨F', hF⟩ : ∃ F', udF D n T F P = F' := ⟨_, rfl⟩
  have hl : L.length ≤ 32 := by rw [← hL]; exact udL_len ..
  have HL := Lib.hid hL; have HF := Lib.hid hF
  clear hL hF
  have t1 := tk.alloc 34 (actC 12 X V P Q M)
  have T1 := Lib.hid t1
  clear t1 tk
  go_enter Try.func12, Try.ntmps12
  go_wp2_with fail
  change Calls _ _ _ (w.alloc (.cells (actC 12 X V P Q M).toArray 34)) _
  generalize w.alloc (.cells (actC 12 X V P Q M).toArray 34) = wa at *
  generalize w.heap.size = k at *
  refine (tk_udeliver (i := 2) P Q wa T1.out rfl).mono ?_
  rw [HL.out, HF.out]
  rintro e w2 ⟨x, rfl, t2⟩
  obtain ⟨d0, d1, d2, d3, d4, d5⟩ := actC_at (t2.blk (i := 1) rfl)
  have hkl := (t2.blk (i := 1) rfl).lt
  have T2 := Lib.hid t2
  clear t2 T1
  go_wp2_with fail
  clear d0 d1 d2 d3 d4 d5 hkl
  refine (tk_ddeliver (i := 2) P Q w2 T2.out rfl).mono ?_
  rw [HL.out, HF.out]
  rintro e w3 ⟨z, rfl, t3⟩
  have cS := same_iqs x z L.length L w3 (t3.sl (i := 1) rfl) (t3.sl (i := 0) rfl) rfl (by unfold maxLen; omega)
  have T3 := Lib.hid t3
  clear t3 T2
  go_wp2_with fail
  refine cS.mono ?_
  clear cS
  rintro e w' ⟨rfl, q6, rfl⟩
  have t4 := T3.out.drewN q6
  clear T3
  generalize w3.drewN q6 = w4 at *
  have cX := spoil_iqs x 0 L.length (iqs L) w4 (t4.row (i := 1) rfl) (Tck.iqs L) (by omega)
  have T4 := Lib.hid t4
  clear t4
  go_wp2_with fail
  refine cX.mono ?_
  clear cX
  rintro e w5 ⟨rfl, g5⟩
  have t5 := T4.out.spoilR (i := 1) rfl g5
  have T5 : Hid (Bu W0 u y D n w5) := Lib.hid ⟨T, F', t5.tail.tail⟩
  clear t5 g5 T4
  go_wp2_with fail
  go_ret
  exact ⟨rfl, T5.out⟩

theorem step13_any {W0 : World} {u y D n : Nat} (K X V P Q : Int) (M : Bool) (w : World) (h : Bu W0 u y D n w) :
    Calls Try.prog 12 #[.pointer (some ⟨u, 0, none⟩), .pointer (some ⟨y, 0, none⟩), .agg #[.int .i64 K, .int .i64 X, .int .i64 V, .int .i64 P, .int .i64 Q, .bool M]] w fun e w' => e = .returned (.bool true) ∧ Bu W0 u y D n w' := by
  rcases (show K < 4 ∨ K = 4 ∨ (4 < K ∧ K < 7) ∨ (7 ≤ K ∧ K < 12) ∨ K = 12 ∨ 12 < K by omega) with hK | hK | hK | hK | hK | hK
  · exact step13_route K X V P Q M w h hK
  · exact step13_unroute K X V P Q M w h hK
  · exact step13_mask K X V P Q M w h hK
  · exact step13_raise K X V P Q M w h hK
  · subst hK; exact step13_deliver X V P Q M w h
  · exact step13_clear K X V P Q M w h hK

set_option maxHeartbeats 4000000 in
theorem law_Units (d p : Int) (v : Value) (n : Nat) (xs : List Value) (w : World) (hv : Sl w v n 6 xs) (ha : ∀ i, i < n → ActU xs i) (hn : n ≤ maxLen) :
    Calls Try.prog 3 #[.int .i64 d, .int .i64 p, v] w fun e w' => e = .returned (.bool true) ∧ Below w.heap.size w w' := by
  obtain ⟨A, cap, rfl⟩ : ∃ A cap, v = .slice A n cap := by obtain ⟨A, c, e, _⟩ := hv; exact ⟨A, c, e⟩
  unfold maxLen at hn
  have HV := Lib.hid hv; have HA := Lib.hid ha
  clear hv ha
  by_cases hok : (1 ≤ d ∧ d ≤ 4) ∧ 1 ≤ p ∧ p ≤ 4
  · obtain ⟨D, rfl⟩ : ∃ D : Nat, d = (D : Int) := ⟨d.toNat, by omega⟩
    obtain ⟨N, rfl⟩ : ∃ N : Nat, p = (N : Int) := ⟨p.toNat, by omega⟩
    have hD1 : 1 ≤ D := by omega
    have hD4 : D ≤ 4 := by omega
    have hN1 : 1 ≤ N := by omega
    have hN4 : N ≤ 4 := by omega
    clear hok
    go_enter Try.func3, Try.ntmps3
    go_wp2_with fail
    refine (unew_yes D N w hD1 hD4 hN1 hN4).mono ?_
    rintro e w1 ⟨u, rfl, t1⟩
    have T1 := Lib.hid t1
    clear t1
    go_wp2_with fail
    refine (dnew_yes D N w1 hD1 hD4 hN1 hN4).mono ?_
    rintro e w2 ⟨y, rfl, t2⟩
    have B0 : Hid (Bu w u y D N w2) := Lib.hid ⟨newT, noF, T1.out.add t2⟩
    clear t2 T1
    go_wp2_with fail
    refine (num_any _ _).mono ?_
    rintro e w' ⟨rfl, rfl⟩
    go_upto_block 0 with fail
    go_cut [] (fun wx => Hid (Bu w u y D N wx))
    case first =>
      go_wp2_with fail
      go_loopw [11] (fun i wr => ∃ (k : Nat), k ≤ n ∧ k ≤ 80 ∧ i = .int .i64 k ∧ Hid (Bu w u y D N wr)) (fun i _ => 80 - (intOf i).toNat)
      case atStart => exact ⟨0, by omega, by omega, rfl, B0⟩
      case round =>
        clear B0
        obtain ⟨k, hkn, hk80, rfl, HB⟩ := hrel
        by_cases hgo : k < n ∧ k < 80
        · obtain ⟨hlt, h80⟩ := hgo
          have hbel : Below w.heap.size w wr := by obtain ⟨T, F, t⟩ := HB.out; exact t.below
          obtain ⟨b, o, rfl, hbw, K, X, V, P, Q, M, q0, q1, q2, q3, q4, q5⟩ := rec6u (HV.out.below hbel) HA.out k hlt
          have hltI : (k : Int) < n := by omega
          have h80I : (k : Int) < 80 := by omega
          clear hbel
          go_wp2_with fail
          clear q0 q1 q2 q3 q4 q5
          refine (step13_any K X V P Q M wr HB.out).mono ?_
          rintro e w3 ⟨rfl, b3⟩
          have B3 := Lib.hid b3
          clear b3
          go_wp2_with fail
          go_roundw
          case rel => exact ⟨k + 1, by omega, by omega, by go_num, B3⟩
          case measure => simp [intOf]; omega
        · have hx : (k : Int) ≥ n ∨ ((k : Int) < n ∧ decide ((k : Int) < 80) = false) := by
            by_cases h1 : k < n
            · exact .inr ⟨by omega, by simp; omega⟩
            · exact .inl (by omega)
          have HB2 := HB
          clear hgo HB
          rcases hx with hx | ⟨hx, hx2⟩
          all_goals
            go_wp2_with fail
            go_meet
            exact HB2
    case rest =>
      clear B0
      go_wp2_with fail
      go_loopw [12] (fun i wr => ∃ (q : Nat), q ≤ N + 2 ∧ i = .int .i64 ((q : Int) - 1) ∧ Hid (Bu w u y D N wr)) (fun i _ => N + 2 - (intOf i + 1).toNat)
      case atStart => exact ⟨0, by omega, rfl, hcut⟩
      case round =>
        clear hcut
        obtain ⟨q, hq, rfl, HB⟩ := hrel
        obtain ⟨pp, hp⟩ : ∃ pp : Int, (q : Int) - 1 = pp := ⟨_, rfl⟩
        rw [hp]
        by_cases hlt : q < N + 2
        · obtain ⟨T, F, t0⟩ := HB.out
          obtain ⟨L, hL⟩ : ∃ L, udL D N T F pp 9 = L := ⟨_, rfl⟩
          obtain ⟨F', hF⟩ : ∃ F', udF D N T F pp = F' := ⟨_, rfl⟩
          have hl : L.length ≤ 32 := by rw [← hL]; exact udL_len ..
          have HL := Lib.hid hL; have HF := Lib.hid hF; have T0 := Lib.hid t0
          have hle : pp ≤ (N : Int) := by omega
          have hge : -1 ≤ pp := by omega
          have HPP := Lib.hid hp
          clear hL hF t0 HB hp
          go_wp2_with fail
          refine (tk_udeliver (i := 1) pp 9 wr T0.out rfl).mono ?_
          rw [HL.out, HF.out]
          rintro e w3 ⟨x, rfl, t3⟩
          have T3 := Lib.hid t3
          clear t3 T0
          go_wp2_with fail
          refine (tk_ddeliver (i := 1) pp 9 w3 T3.out rfl).mono ?_
          rw [HL.out, HF.out]
          rintro e w4 ⟨z, rfl, t4⟩
          have cS := same_iqs x z L.length L w4 (t4.sl (i := 1) rfl) (t4.sl (i := 0) rfl) rfl (by unfold maxLen; omega)
          have T4 := Lib.hid t4
          clear t4 T3
          go_wp2_with fail
          refine cS.mono ?_
          clear cS
          rintro e w' ⟨rfl, q6, rfl⟩
          have B5 : Hid (Bu w u y D N (w4.drewN q6)) := Lib.hid ⟨T, F', (T4.out.drewN q6).tail.tail⟩
          clear T4
          generalize w4.drewN q6 = w5 at *
          go_wp2_with fail
          go_roundw
          case rel => exact ⟨q + 1, by omega, by have := HPP.out; go_num, B5⟩
          case measure => have := HPP.out; simp [intOf]; omega
        · have hle : (N : Int) < pp := by omega
          have BZ : Hid (Below w.heap.size w wr) := Lib.hid (by obtain ⟨T, F, t⟩ := HB.out; exact t.below)
          clear HB hp
          go_wp2_with fail
          refine (irawake_any _).mono ?_
          rintro e wz ⟨rfl, bz⟩
          have BY := Lib.hid (Below.down BZ.out bz BZ.out.size)
          clear bz
          go_wp2_with fail
          go_ret
          exact ⟨rfl, BY.out⟩
  · have HO := Lib.hid hok
    clear hok
    go_enter Try.func3, Try.ntmps3
    go_wp2_with fail
    refine (unew_no d p w HO.out).mono ?_
    rintro e w1 ⟨rfl, b1⟩
    have B1 := Lib.hid b1
    clear b1
    go_wp2_with fail
    refine (dnew_no d p w1 HO.out).mono ?_
    rintro e w2 ⟨rfl, b2⟩
    have B2 := Lib.hid (Below.down B1.out b2 B1.out.size)
    clear b2 B1
    go_wp2_with fail
    refine (num_any _ _).mono ?_
    rintro e w' ⟨rfl, rfl⟩
    go_wp2_with fail
    refine (irawake_any _).mono ?_
    rintro e wz ⟨rfl, bz⟩
    have BY := Lib.hid (Below.down B2.out bz B2.out.size)
    clear bz
    go_wp2_with fail
    go_ret
    exact ⟨rfl, BY.out⟩
end Go.Proofs.Ytjmdgjpepogogaa
