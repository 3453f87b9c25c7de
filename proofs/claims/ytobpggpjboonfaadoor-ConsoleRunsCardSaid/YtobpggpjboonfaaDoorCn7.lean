/-
  Contracts of package console: tell, Run.
-/
import Derived.Test.YtobpggpjboonfaaDoorCn6
namespace Go.Proofs.YtobpggpjboonfaaDoor
open Go.RowKit Go.Lib
set_option linter.unusedVariables false
set_option linter.unusedSimpArgs false
set_option maxRecDepth 100000

theorem tlC_code (k : Nat) (xs : List Int) : 0 ≤ (tlC k xs).2 ∧ (tlC k xs).2 ≤ 5000 := by
  unfold tlC
  split
  · unfold spS; split <;> simp only <;> omega
  · unfold enS e4; split <;> simp only <;> omega
  · unfold wdS e4; split <;> simp only <;> omega
  · unfold ovS; simp only; omega
  · unfold nxS nxtC; split <;> simp only <;> omega
  · simp only; omega
theorem asS_code (ws : List (List UInt8)) : 0 ≤ (asS ws).2 ∧ (asS ws).2 ≤ 5000 := by
  unfold asS
  split
  · simp only; omega
  · split
    · simp only; omega
    · split
      · simp only; omega
      · exact tlC_code _ _

set_option maxHeartbeats 1000000 in
theorem tellc_any (g : Nat) (v : Value) (n : Nat) (W : List UInt8) (ts : List (List UInt8)) (w : World) (he : Env w) (hT : Blk w g 76 cmT) (hs : Sl w v n 1 (txs (W :: ts))) (hn : n ≤ 65536) (ht : ∀ t ∈ ts, t.length ≤ 65536) :
    Calls Tryd.prog 23 #[.slice (some ⟨g, 0, none⟩) 5 5, v] w fun e w' => e = .returned (.string (str (otS (asS (W :: ts))))) ∧ Below w.heap.size w w' := by
  have H := Lib.hid (answer_any g v n W ts w he hT hs hn ht)
  have hc := asS_code (W :: ts)
  obtain ⟨A, cap, rfl, _⟩ := hs
  generalize asS (W :: ts) = Z at *
  obtain ⟨x, c⟩ := Z
  simp only at hc
  have HE := Lib.hid he
  clear he
  by_cases h0 : c = 0
  · subst h0
    have e1 : otS (x, 0) = x := rfl
    rw [e1]
    go_enter Tryd.func23, Tryd.ntmps23
    go_wp2_with (go_at_call 41; refine H.out.mono ?_; rintro e w1 ⟨rfl, hb1⟩)
    go_ret
    exact ⟨rfl, hb1⟩
  · have e1 : otS (x, c) = erS c := by unfold otS; rw [if_neg h0]
    have hc0 : (c != 0) = true := by simpa using h0
    rw [e1]
    have hadd : ∀ wx, (Op.stringOp .add ⟨#[101, 114, 114, 111, 114, 32]⟩ (str (dcm c))).run Tryd.prog wx = .ok (.string (str (erS c))) wx := fun wx => by
      have := stx_add [101, 114, 114, 111, 114, 32] (dcm c) (by have := dcm_len c; simp; omega) wx
      exact this
    have HI := Lib.hid (fun W (h : Env W) => itoa_any c W h (by omega) (by omega))
    generalize hR : str (erS c) = R at hadd
    have HR := Lib.hid hR
    clear hR
    generalize str (dcm c) = D at *
    go_enter Tryd.func23, Tryd.ntmps23
    go_wp2_with (first
      | (go_at_call 41; refine H.out.mono ?_; rintro e w1 ⟨rfl, hb1⟩; have B1 := Lib.hid hb1; clear hb1)
      | (go_at_call 42; refine (HI.out _ (HE.out.below B1.out)).mono ?_; rintro e w2 ⟨rfl, hb2⟩; have B2 := Lib.hid (B1.out.trans (hb2.mono B1.out.size)); clear hb2))
    go_ret
    refine ⟨?_, B2.out⟩
    show Ending.returned (Value.string R) = _
    rw [← HR.out]

theorem run_long (t : List UInt8) (w : World) (h : 65536 < t.length) (h2 : t.length ≤ 9223372036854775807) :
    Calls Tryd.prog 11 #[.string (str t)] w fun e w' => e = .returned (.tuple #[.string (str []), .int .i64 2501]) ∧ w = w' := by
  have hs : (str t).size = t.length := str_size t
  generalize str t = T at *
  have h3 : 65536 < T.size := by omega
  clear hs
  go_enter Tryd.func11, Tryd.ntmps11
  go_wp2
  go_ret2
  exact ⟨rfl, rfl⟩

/-! ### lengths -/
theorem otS_len (x : List UInt8 × Int) : (otS x).length ≤ x.1.length + 26 := by
  unfold otS erS
  split
  · omega
  · have := dcm_len x.2
    simp only [List.length_append, List.length_cons, List.length_nil]; omega
theorem rwS_len (xs : List Int) : (rwS xs).length ≤ 21 * xs.length := by
  have := jnS_len (xs.map dcm) (fun t ht => by obtain ⟨x, _, rfl⟩ := List.mem_map.1 ht; exact dcm_len x)
  rw [List.length_map] at this
  exact this
theorem tlC_len (k : Nat) (xs : List Int) : (tlC k xs).1.length ≤ 5000 := by
  unfold tlC
  split
  · rename_i a b
    unfold spS
    split
    · rename_i h
      have hh := of_decide_eq_true h
      have h1 := rwS_len (fnS (spl a.toNat b.toNat))
      rw [fnS_len] at h1
      have h2 := spl_few b.toNat a.toNat
      simp only; omega
    · simp
  · unfold enS; simp only; exact Nat.le_trans (rwS_len _) (by simp only [List.length_cons, List.length_nil]; omega)
  · unfold wdS; simp only; exact Nat.le_trans (rwS_len _) (by simp only [List.length_cons, List.length_nil]; omega)
  · unfold ovS yesS; split <;> simp
  · unfold nxS; simp only; exact Nat.le_trans (rwS_len _) (by simp only [List.length_cons, List.length_nil]; omega)
  · simp
theorem asS_len (ws : List (List UInt8)) : (asS ws).1.length ≤ 5000 := by
  unfold asS
  split
  · simp
  · split
    · simp
    · split
      · simp
      · exact tlC_len _ _
theorem lnS_len (t : List UInt8) : (lnS t).length ≤ 6000 := by
  unfold lnS
  split
  · have h1 := otS_len (asS (fld [] t))
    have h2 := asS_len (fld [] t)
    simp only [List.length_append, List.length_cons, List.length_nil]; omega
  · simp
theorem flat_lnS_len (ls : List (List UInt8)) : (ls.flatMap lnS).length ≤ 6000 * ls.length := by
  induction ls with
  | nil => simp
  | cons t ls ih =>
    have := lnS_len t
    simp only [List.flatMap_cons, List.length_append, List.length_cons]; omega
theorem lns10_count (t : List UInt8) : ∀ cur, (lns10 cur t).length ≤ t.length + 1 := by
  induction t with
  | nil => intro cur; simp [lns10]
  | cons c t ih =>
    intro cur
    rw [lns10]
    split
    · have := ih []; simp only [List.length_cons]; omega
    · have := ih (cur ++ [c]); simp only [List.length_cons]; omega
theorem lns10_short (t : List UInt8) : ∀ cur, ∀ l ∈ lns10 cur t, l.length ≤ cur.length + t.length := by
  induction t with
  | nil => intro cur l hl; simp [lns10] at hl; subst hl; simp
  | cons c t ih =>
    intro cur l hl
    rw [lns10] at hl
    split at hl
    · rcases List.mem_cons.1 hl with rfl | hl
      · omega
      · have := ih [] l hl; simp at this ⊢; omega
    · have := ih _ l hl; simp at this ⊢; omega
theorem fld_count (t : List UInt8) : ∀ cur, (fld cur t).length ≤ t.length + (if cur = [] then 0 else 1) := by
  induction t with
  | nil => intro cur; rw [fld_nil]; split <;> simp
  | cons c t ih =>
    intro cur
    rw [fld]
    split
    · split
      · have := ih []; simp only [List.length_cons]; simp at this; omega
      · have := ih []; simp only [List.length_cons]; simp at this; omega
    · have := ih (cur ++ [c]); simp only [List.length_cons]; simp at this; omega
theorem fld_short (t : List UInt8) : ∀ cur, ∀ l ∈ fld cur t, l.length ≤ cur.length + t.length := by
  induction t with
  | nil => intro cur l hl; rw [fld_nil] at hl; split at hl <;> simp at hl; subst hl; simp
  | cons c t ih =>
    intro cur l hl
    rw [fld] at hl
    split at hl
    · split at hl
      · have := ih [] l hl; simp at this ⊢; omega
      · rcases List.mem_cons.1 hl with rfl | hl
        · omega
        · have := ih [] l hl; simp at this ⊢; omega
    · have := ih _ l hl; simp at this ⊢; omega

/-- What stands in memory while a script is told: the Builder, the table, the lines. -/
structure RnS (W1 : World) (gt gb gl : Nat) (L : List (List UInt8)) (k : Nat) (R : List UInt8) (wr : World) : Prop where
  bd : Bd W1 gb ((L.take k).flatMap lnS ++ R) wr
  tb : Blk wr gt 76 cmT
  ln : Blk wr gl 9 (txs L)
theorem RnS.next {W1 : World} {gt gb gl : Nat} {L : List (List UInt8)} {k : Nat} {R : List UInt8} {w w' : World} (h : RnS W1 gt gb gl L k R w) (hb : Below w.heap.size w w') : RnS W1 gt gb gl L k R w' :=
  ⟨bd_next h.bd hb, h.tb.below hb h.tb.lt, h.ln.below hb h.ln.lt⟩

set_option maxHeartbeats 2000000 in
theorem run_any (t : List UInt8) (w : World) (he : Env w) (h : t.length ≤ 65536) :
    Calls Tryd.prog 11 #[.string (str t)] w fun e w' => e = .returned (.tuple #[.string (str (rnS t)), .int .i64 0]) ∧ Below w.heap.size w w' := by
  have hs : (str t).size = t.length := str_size t
  have HSP := Lib.hid (fun W (h9 : Env W) => split_any t W h9 h)
  have hcn := lns10_count t []
  have hsh := lns10_short t []
  have hrn : rnS t = (lns10 [] t).flatMap lnS := rfl
  rw [hrn]
  generalize str t = T at *
  have h3 : ¬ (65536 < T.size) := by omega
  have HSH : Hid (∀ l ∈ lns10 [] t, l.length ≤ 65536) := Lib.hid (fun l hl => by have := hsh l hl; simp at this; omega)
  generalize lns10 [] t = L at *
  obtain ⟨n, hn⟩ : ∃ n, L.length = n := ⟨_, rfl⟩
  have HN := Lib.hid hn
  rw [hn] at hcn HSP
  have hn6 : n ≤ 65537 := by omega
  clear hs hcn hsh hrn h hn
  have k0 := Blk.new w 76 cmT
  have b0 := (Below.refl w.heap.size w).alloc (Nat.le_refl _) (.cells cmT.toArray 76)
  have g0 : w.heap.size < (w.alloc (.cells cmT.toArray 76)).heap.size := by simp
  have HE1 := Lib.hid (he.alloc (.cells cmT.toArray 76))
  clear he
  go_enter Tryd.func11, Tryd.ntmps11
  go_wp2_with fail
  refine (commands_any _).mono ?_
  rintro e w1 ⟨rfl, rfl⟩
  have B0 := Lib.hid b0
  clear b0
  generalize hgt : w.heap.size = gt at g0 k0 ⊢
  have HGT := Lib.hid hgt
  clear hgt
  generalize w.alloc (.cells cmT.toArray 76) = W1 at *
  have K0 := Lib.hid k0
  clear k0
  have d0 := bd_new W1
  have HE2 := Lib.hid (HE1.out.alloc (.cells #[.pointer none, .slice none 0 0] 44))
  have K1 := Lib.hid (K0.out.alloc (.cells #[.pointer none, .slice none 0 0] 44))
  have D0 := Lib.hid d0
  clear d0
  go_wp2_with fail
  have g1 : W1.heap.size < (W1.alloc (.cells #[.pointer none, .slice none 0 0] 44)).heap.size := by simp
  obtain ⟨gb, hgb⟩ : ∃ gb, W1.heap.size = gb := ⟨_, rfl⟩
  have HGB := Lib.hid hgb
  rw [hgb] at g0 g1 D0 ⊢
  clear hgb
  generalize W1.alloc (.cells #[.pointer none, .slice none 0 0] 44) = w2 at *
  refine (HSP.out _ HE2.out).mono ?_
  rintro e w3 ⟨rfl, rfl⟩
  have HS0 : Hid (RnS W1 gt gb w2.heap.size L 0 [] (w2.alloc (.cells (txs L).toArray 9))) := Lib.hid
    ⟨bd_next D0.out ((Below.refl _ w2).alloc (Nat.le_refl _) _), K1.out.alloc _, Blk.new _ _ _⟩
  generalize w2.alloc (.cells (txs L).toArray 9) = w4 at *
  generalize w2.heap.size = gl at *
  clear D0 K1 K0 HE2 HSP
  go_wp2_with fail
  go_loopw [7, 8, 16] (fun _ _ i wr => ∃ (k : Nat), k ≤ n ∧ i = .int .i64 k ∧ Hid (RnS W1 gt gb gl L k [] wr)) (fun _ _ i _ => n - (intOf i).toNat)
  case atStart => exact ⟨0, by omega, rfl, HS0⟩
  case round =>
    obtain ⟨k, hk, rfl, HR⟩ := hrel
    by_cases hlt : k < n
    · have hkl : k < L.length := by rw [HN.out]; exact hlt
      have hc0 : wr.cell? ⟨gl, k, none⟩ = some (.string (str (L.getD k []))) := by rw [HR.out.ln.cell]; exact txs_get L k hkl
      have hmem : L.getD k [] ∈ L := by simp [List.getD, List.getElem?_eq_getElem hkl]
      have hts := HSH.out _ hmem
      have HNX : Hid ((L.take (k + 1)).flatMap lnS = (L.take k).flatMap lnS ++ lnS (L.getD k [])) := Lib.hid (by
        rw [List.take_add_one, List.flatMap_append]; simp [List.getD, List.getElem?_eq_getElem hkl])
      have HPL : Hid (((L.take k).flatMap lnS).length ≤ 6000 * 65537) := Lib.hid (by
        have := flat_lnS_len (L.take k)
        rw [List.length_take] at this; omega)
      generalize L.getD k [] = Q at *
      clear hmem
      have HW := Lib.hid (wflds_any Q wr hts)
      have hwc := fld_count Q []
      have hws := fld_short Q []
      have HWS : Hid (∀ l ∈ fld [] Q, l.length ≤ 65536) := Lib.hid (fun l hl => by have := hws l hl; simp at this; omega)
      have HLN : Hid (lnS Q = if syS (fld [] Q) then otS (asS (fld [] Q)) ++ [10] else []) := Lib.hid rfl
      have HOL := Lib.hid (otS_len (asS (fld [] Q)))
      have HAL := Lib.hid (asS_len (fld [] Q))
      generalize hWS : fld [] Q = ws at *
      generalize hQ : str Q = QS at *
      clear hws hQ hWS
      obtain ⟨m, hm⟩ : ∃ m, ws.length = m := ⟨_, rfl⟩
      rw [hm] at HW hwc
      have hm6 : m ≤ 65536 := by simp at hwc; omega
      have HM := Lib.hid hm
      clear hm hwc
      go_wp2_with fail
      refine HW.out.mono ?_
      rintro e w5 ⟨b, rfl, o5, b5⟩
      have HR5 := Lib.hid (HR.out.next b5)
      have HO5 := Lib.hid (Sl.own o5)
      have HSA := Lib.hid (says_any _ m ws w5 HO5.out hm6)
      clear o5 b5 hc0 HW hts HR
      cases hsy : syS ws with
      | false =>
        have HSB := Lib.hid (by have := HSA.out; rwa [hsy] at this)
        clear HSA
        have HF : Hid (RnS W1 gt gb gl L (k + 1) [] w5) := Lib.hid (by
          have h1 := HLN.out
          rw [hsy] at h1
          have h2 := HNX.out
          rw [h1] at h2
          simp only [Bool.false_eq_true, if_false, List.append_nil] at h2
          exact ⟨by rw [h2]; exact HR5.out.bd, HR5.out.tb, HR5.out.ln⟩)
        clear hsy
        go_wp2_with (go_at_call 21; refine HSB.out.mono ?_; rintro e w6 ⟨rfl, rfl⟩)
        go_roundw
        case rel => exact ⟨k + 1, by omega, by go_num, HF⟩
        case measure => simp [intOf]; omega
      | true =>
        have HSB := Lib.hid (by have := HSA.out; rwa [hsy] at this)
        clear HSA
        cases ws with
        | nil => cases hsy
        | cons W ts =>
          have hE5 : Env w5 := HE1.out.below HR5.out.bd.2
          have HTL := Lib.hid (tellc_any gt _ m W ts w5 hE5 HR5.out.tb HO5.out hm6 (fun l hl => HWS.out l (by simp [hl])))
          have HL1 : Hid (lnS Q = otS (asS (W :: ts)) ++ [10]) := Lib.hid (by have := HLN.out; rw [hsy] at this; exact this)
          clear hsy hE5
          generalize otS (asS (W :: ts)) = O at *
          go_wp2_with (first
            | (go_at_call 21; refine HSB.out.mono ?_; rintro e w6 ⟨rfl, rfl⟩)
            | (go_at_call 23; refine HTL.out.mono ?_; rintro e w6 ⟨rfl, b6⟩; have HR6 := Lib.hid (HR5.out.next b6); clear b6))
          have HOl : O.length ≤ 6000 := by have := HOL.out; have := HAL.out; omega
          refine (bd_write HR6.out.bd O (by have := HPL.out; rw [List.append_nil]; omega)).mono ?_
          rintro e w7 ⟨rfl, d7, k7⟩
          have HR7 : Hid (RnS W1 gt gb gl L k O w7) := Lib.hid ⟨by have := d7; rwa [List.append_nil] at this, k7.blk HR6.out.tb (by omega) (by decide), k7.blk HR6.out.ln (by omega) (by decide)⟩
          clear d7 k7
          go_wp2_with fail
          refine (bd_byte HR7.out.bd (by have := HPL.out; rw [List.length_append]; omega)).mono ?_
          rintro e w8 ⟨rfl, d8, k8⟩
          have HR8 : Hid (RnS W1 gt gb gl L (k + 1) [] w8) := Lib.hid ⟨by rw [HNX.out, HL1.out, List.append_nil, ← List.append_assoc]; exact d8, k8.blk HR7.out.tb (by omega) (by decide), k8.blk HR7.out.ln (by omega) (by decide)⟩
          clear d8 k8
          go_wp2_with fail
          go_roundw
          case rel => exact ⟨k + 1, by omega, by go_num, HR8⟩
          case measure => simp [intOf]; omega
    · have hkn : k = n := by omega
      subst hkn
      have hall : L.take k = L := List.take_of_length_le (by rw [HN.out]; exact Nat.le_refl _)
      have HT := Lib.hid (bd_text HR.out.bd)
      rw [hall, List.append_nil] at HT
      generalize hO : str (L.flatMap lnS) = O at HT
      have HO := Lib.hid hO
      have hg0 := B0.out.size
      clear hO hall
      go_wp2_with (go_at_call 25; refine HT.out.mono ?_; rintro e w5 ⟨rfl, hb5⟩)
      go_ret2
      refine ⟨?_, B0.out.trans (hb5.mono hg0)⟩
      show Ending.returned (Value.tuple #[Value.string O, Value.int .i64 0]) = _
      rw [← HO.out]

end Go.Proofs.YtobpggpjboonfaaDoor
