/-
  The law ConsoleSplits of the console. MADE BY gencnlaws.py.
-/
import Derived.Test.YtobpggpjboonfaaDoorCnAw
namespace Go.Proofs.YtobpggpjboonfaaDoor
open Go.RowKit Go.Lib
set_option linter.unusedVariables false
set_option linter.unusedSimpArgs false
set_option maxRecDepth 100000

theorem tlS_app (a b : List (List UInt8)) : tlS (a ++ b) = tlS a ++ tlS b := by
  induction a with
  | nil => rfl
  | cons t a ih => simp [tlS, ih]
theorem jnS_app (a b : List (List UInt8)) (h : a ≠ []) : jnS (a ++ b) = jnS a ++ tlS b := by
  cases a with
  | nil => exact absurd rfl h
  | cons t a => rw [List.cons_append, jnS, jnS, tlS_app, List.append_assoc]
/-- The numbers of one piece more. -/
theorem rwS_more (ds : List (Nat × Nat × Nat)) (f o l : Nat) (hf : f < 1000000) (ho : o < 1000000) (hl : l < 1000000) :
    (ds = [] → rwS (fnS (ds ++ [(f, o, l)])) = decDigits f ++ [32] ++ decDigits o ++ [32] ++ decDigits l) ∧
    (ds ≠ [] → rwS (fnS (ds ++ [(f, o, l)])) = rwS (fnS ds) ++ [32] ++ decDigits f ++ [32] ++ decDigits o ++ [32] ++ decDigits l) := by
  refine ⟨fun h => ?_, fun h => ?_⟩
  · subst h
    unfold rwS fnS
    simp only [List.nil_append, List.flatMap_cons, List.flatMap_nil, List.append_nil, List.map_cons, List.map_nil]
    rw [dcm_nat f hf, dcm_nat o ho, dcm_nat l hl]; simp [jnS, tlS]
  · have e : fnS (ds ++ [(f, o, l)]) = fnS ds ++ [(f : Int), (o : Int), (l : Int)] := by simp [fnS]
    have hn : (fnS ds).map dcm ≠ [] := by
      cases ds with
      | nil => exact absurd rfl h
      | cons p ds => simp [fnS]
    unfold rwS
    rw [e, List.map_append, jnS_app _ _ hn]
    simp only [List.map_cons, List.map_nil]
    rw [dcm_nat f hf, dcm_nat o ho, dcm_nat l hl]; simp [tlS]
theorem rwS_ne (ds : List (Nat × Nat × Nat)) (h : ds ≠ []) : rwS (fnS ds) ≠ [] := by
  cases ds with
  | nil => exact absurd rfl h
  | cons p ds =>
    intro e
    have : (dcm (p.1 : Int)) = [] := by
      unfold rwS fnS at e
      simp [jnS] at e
      exact e.1
    unfold dcm at this
    rw [if_neg (by omega)] at this
    rw [dcF] at this
    split at this <;> simp at this

set_option maxHeartbeats 4000000 in
theorem law_ConsoleSplits (b c : Int) (w0 : (Lit.int .i64 b).wf = true) (w1 : (Lit.int .i64 c).wf = true) (W : World) (he : Env W) :
    Calls Tryd.prog 9 #[.int .i64 b, .int .i64 c] W fun e w' => e = .returned (.bool true) ∧ Below W.heap.size W w' := by
  have ha := band b 1023 (by omega) (by omega)
  generalize ha' : bits BinOp.and IntKind.i64 b 1023 = A at ha
  obtain ⟨ha0, ha1⟩ := ha
  obtain ⟨a, rfl⟩ := Int.eq_ofNat_of_zero_le ha0
  clear ha0
  have hm := band c 255 (by omega) (by omega)
  generalize hm' : bits BinOp.and IntKind.i64 c 255 = M at hm
  obtain ⟨hm0, hm1⟩ := hm
  obtain ⟨m, rfl⟩ := Int.eq_ofNat_of_zero_le hm0
  clear hm0
  have ha1 : a ≤ 1023 := by omega
  have hm1 : m ≤ 255 := by omega
  have la := dec_len a (by omega)
  obtain ⟨Da, hDa⟩ : ∃ Z, str (decDigits a) = Z := ⟨_, rfl⟩
  have HDa : Hid (∀ w, Calls Tryd.prog 16 #[.int .i64 (a : Int)] w fun e w' => e = .returned (.string Da) ∧ Below w.heap.size w w') := Lib.hid (fun w => by
    have := dcm_any a w (by omega)
    rw [dcm_nat a (by omega), hDa] at this
    exact this)
  have lm := dec_len m (by omega)
  obtain ⟨Dm, hDm⟩ : ∃ Z, str (decDigits m) = Z := ⟨_, rfl⟩
  have HDm : Hid (∀ w, Calls Tryd.prog 16 #[.int .i64 (m : Int)] w fun e w' => e = .returned (.string Dm) ∧ Below w.heap.size w w') := Lib.hid (fun w => by
    have := dcm_any m w (by omega)
    rw [dcm_nat m (by omega), hDm] at this
    exact this)
  obtain ⟨S1, hS1⟩ : ∃ Z, str ([115, 112, 108, 105, 116, 32] ++ (decDigits a)) = Z := ⟨_, rfl⟩
  have aS1 : ∀ wx, (Op.stringOp .add ⟨#[115, 112, 108, 105, 116, 32]⟩ Da).run Tryd.prog wx = .ok (.string S1) wx := add_eq [115, 112, 108, 105, 116, 32] (decDigits a) S1 ⟨#[115, 112, 108, 105, 116, 32]⟩ Da rfl hDa hS1 (by simp only [List.length_append, List.length_cons, List.length_nil]; omega)
  obtain ⟨S2, hS2⟩ : ∃ Z, str (([115, 112, 108, 105, 116, 32] ++ (decDigits a)) ++ [32]) = Z := ⟨_, rfl⟩
  have aS2 : ∀ wx, (Op.stringOp .add S1 ⟨#[32]⟩).run Tryd.prog wx = .ok (.string S2) wx := add_eq ([115, 112, 108, 105, 116, 32] ++ (decDigits a)) [32] S2 S1 ⟨#[32]⟩ hS1 rfl hS2 (by simp only [List.length_append, List.length_cons, List.length_nil]; omega)
  obtain ⟨S3, hS3⟩ : ∃ Z, str ((([115, 112, 108, 105, 116, 32] ++ (decDigits a)) ++ [32]) ++ (decDigits m)) = Z := ⟨_, rfl⟩
  have aS3 : ∀ wx, (Op.stringOp .add S2 Dm).run Tryd.prog wx = .ok (.string S3) wx := add_eq (([115, 112, 108, 105, 116, 32] ++ (decDigits a)) ++ [32]) (decDigits m) S3 S2 Dm hS2 hDm hS3 (by simp only [List.length_append, List.length_cons, List.length_nil]; omega)
  have hX : ((([115, 112, 108, 105, 116, 32] ++ (decDigits a)) ++ [32]) ++ (decDigits m)) = jnS (cmW 0 :: [a, m].map decDigits) := by simp [jnS, tlS, cmW]
  have hR : rnS ((([115, 112, 108, 105, 116, 32] ++ (decDigits a)) ++ [32]) ++ (decDigits m)) = rwS (fnS (spl a m)) ++ [10] := by
    rw [hX, rn_cmd 0 (by omega) [a, m] (by intro u hu; simp at hu; omega) rfl]
    show otS (spS (a : Int) (m : Int)) ++ [10] = _
    unfold otS spS spB
    rw [decide_eq_true (by omega)]
    simp
  have hfew : (spl a m).length ≤ 200 := by have := spl_few m a; omega
  obtain ⟨T, hT⟩ : ∃ Q, str (rwS (fnS (spl a m)) ++ [10]) = Q := ⟨_, rfl⟩
  have HRUN : Hid (∀ w, Env w → Calls Tryd.prog 11 #[.string S3] w fun e w' => e = .returned (.tuple #[.string T, .int .i64 0]) ∧ Below w.heap.size w w') := Lib.hid (fun w h => by
    have := run_any ((([115, 112, 108, 105, 116, 32] ++ (decDigits a)) ++ [32]) ++ (decDigits m)) w h (by simp only [List.length_append, List.length_cons, List.length_nil]; omega)
    rw [hS3, hR, hT] at this
    exact this)
  have HFEW := Lib.hid hfew
  have HT := Lib.hid hT
  obtain ⟨e, hE⟩ : ∃ e : Nat, a + m = e := ⟨_, rfl⟩
  have hEi : (a : Int) + (m : Int) = (e : Int) := by omega
  clear hX hR hT hfew hS1 hS2 hS3 hDa la hDm lm w0 w1
  have B0 := Lib.hid (Below.refl W.heap.size W)
  have HEW := Lib.hid he
  go_enter Tryd.func9, Tryd.ntmps9
  go_wp2_with fail
  refine (cawake_any _ he).mono ?_
  rintro e w1 ⟨rfl, b1⟩
  have B1 := Lib.hid (B0.out.trans (b1.mono B0.out.size))
  have HE1 := Lib.hid (he.below B1.out)
  clear b1
  go_wp2_with fail
  refine (HDa.out _).mono ?_
  rintro e w2 ⟨rfl, b2⟩
  have B2 := Lib.hid (B1.out.trans (b2.mono B1.out.size))
  have HE2 := Lib.hid (he.below B2.out)
  clear b2
  go_wp2_with fail
  refine (HDm.out _).mono ?_
  rintro e w3 ⟨rfl, b3⟩
  have B3 := Lib.hid (B2.out.trans (b3.mono B2.out.size))
  have HE3 := Lib.hid (he.below B3.out)
  clear b3
  go_wp2_with fail
  refine (HRUN.out _ HE3.out).mono ?_
  rintro e w4 ⟨rfl, b4⟩
  have B4 := Lib.hid (B3.out.trans (b4.mono B3.out.size))
  have HE4 := Lib.hid (he.below B4.out)
  clear b4
  clear aS1 aS2 aS3 ha' hm'
  go_wp2_with fail
  go_loopw [9, 10, 11] (fun v i _ wr => ∃ (y r : Nat) (ds : List (Nat × Nat × Nat)) (V : ByteArray), v = .string V ∧ i = .int .i64 (y : Int) ∧ y + r = e ∧ Hid (str (rwS (fnS ds)) = V ∧ ds ++ spl y r = spl a m ∧ Below W.heap.size W wr)) (fun _ i _ _ => e - (RowKit.intOf i).toNat)
  case atStart => exact ⟨a, m, [], ⟨#[]⟩, rfl, rfl, by omega, Lib.hid ⟨rfl, rfl, B4.out⟩⟩
  case round =>
    obtain ⟨y, r, ds, V, rfl, rfl, hye, HQ⟩ := hrel
    by_cases hr : 0 < r
    · obtain ⟨q, hq⟩ : ∃ q : Nat, (y / 64 + 1) * 64 = q := ⟨_, rfl⟩
      have hQi : ((y : Int) / 64 + 1) * 64 = (q : Int) := by omega
      obtain ⟨f, hf⟩ : ∃ f : Nat, y / 64 = f := ⟨_, rfl⟩
      obtain ⟨o, ho⟩ : ∃ o : Nat, y % 64 = o := ⟨_, rfl⟩
      have hfi : (y : Int).tdiv 64 = (f : Int) := by rw [Int.tdiv_eq_ediv_of_nonneg (by omega)]; omega
      have hfi2 : (y : Int) / 64 = (f : Int) := by omega
      have hoi : (y : Int).tmod 64 = (o : Int) := by rw [Int.tmod_eq_emod_of_nonneg (by omega)]; omega
      have hoi2 : (y : Int) % 64 = (o : Int) := by omega
      have hQi3 : ((f : Int) + 1) * 64 = (q : Int) := by omega
      obtain ⟨l, hl⟩ : ∃ l : Nat, min r (64 - y % 64) = l := ⟨_, rfl⟩
      have hst : spl y r = (f, o, l) :: spl (y + l) (r - l) := by rw [spl_step y r hr, hl, hf, ho]
      have hds : ds.length ≤ 200 := by
        have h1 := congrArg List.length HQ.out.2.1
        have h2 := HFEW.out
        rw [List.length_append] at h1; omega
      have hRl : (rwS (fnS ds)).length ≤ 20000 := by
        have h1 := rwS_len (fnS ds)
        rw [fnS_len] at h1; omega
      have HN : Hid ((ds ++ [(f, o, l)]) ++ spl (y + l) (r - l) = spl a m) := Lib.hid (by rw [← HQ.out.2.1, hst]; simp)
      have hmore := rwS_more ds f o l (by omega) (by omega) (by omega)
      have hV := HQ.out.1
      have HBr := Lib.hid HQ.out.2.2
      by_cases hd : ds = []
      · subst hd
        have hd : ([] : List (Nat × Nat × Nat)) = [] := rfl
        have hV0 : V = ⟨#[]⟩ := hV.symm
        subst hV0
        have lf := dec_len f (by omega)
        obtain ⟨Df, hDf⟩ : ∃ Z, str (decDigits f) = Z := ⟨_, rfl⟩
        have HDf : Hid (∀ w, Calls Tryd.prog 16 #[.int .i64 (f : Int)] w fun e w' => e = .returned (.string Df) ∧ Below w.heap.size w w') := Lib.hid (fun w => by
          have := dcm_any f w (by omega)
          rw [dcm_nat f (by omega), hDf] at this
          exact this)
        have lo := dec_len o (by omega)
        obtain ⟨Do, hDo⟩ : ∃ Z, str (decDigits o) = Z := ⟨_, rfl⟩
        have HDo : Hid (∀ w, Calls Tryd.prog 16 #[.int .i64 (o : Int)] w fun e w' => e = .returned (.string Do) ∧ Below w.heap.size w w') := Lib.hid (fun w => by
          have := dcm_any o w (by omega)
          rw [dcm_nat o (by omega), hDo] at this
          exact this)
        have ll := dec_len l (by omega)
        obtain ⟨Dl, hDl⟩ : ∃ Z, str (decDigits l) = Z := ⟨_, rfl⟩
        have HDl : Hid (∀ w, Calls Tryd.prog 16 #[.int .i64 (l : Int)] w fun e w' => e = .returned (.string Dl) ∧ Below w.heap.size w w') := Lib.hid (fun w => by
          have := dcm_any l w (by omega)
          rw [dcm_nat l (by omega), hDl] at this
          exact this)
        obtain ⟨V1, hV1⟩ : ∃ Z, str ((decDigits f) ++ [32]) = Z := ⟨_, rfl⟩
        have aV1 : ∀ wx, (Op.stringOp .add Df ⟨#[32]⟩).run Tryd.prog wx = .ok (.string V1) wx := add_eq (decDigits f) [32] V1 Df ⟨#[32]⟩ hDf rfl hV1 (by simp only [List.length_append, List.length_cons, List.length_nil]; omega)
        obtain ⟨V2, hV2⟩ : ∃ Z, str (((decDigits f) ++ [32]) ++ (decDigits o)) = Z := ⟨_, rfl⟩
        have aV2 : ∀ wx, (Op.stringOp .add V1 Do).run Tryd.prog wx = .ok (.string V2) wx := add_eq ((decDigits f) ++ [32]) (decDigits o) V2 V1 Do hV1 hDo hV2 (by simp only [List.length_append, List.length_cons, List.length_nil]; omega)
        obtain ⟨V3, hV3⟩ : ∃ Z, str ((((decDigits f) ++ [32]) ++ (decDigits o)) ++ [32]) = Z := ⟨_, rfl⟩
        have aV3 : ∀ wx, (Op.stringOp .add V2 ⟨#[32]⟩).run Tryd.prog wx = .ok (.string V3) wx := add_eq (((decDigits f) ++ [32]) ++ (decDigits o)) [32] V3 V2 ⟨#[32]⟩ hV2 rfl hV3 (by simp only [List.length_append, List.length_cons, List.length_nil]; omega)
        obtain ⟨V4, hV4⟩ : ∃ Z, str (((((decDigits f) ++ [32]) ++ (decDigits o)) ++ [32]) ++ (decDigits l)) = Z := ⟨_, rfl⟩
        have aV4 : ∀ wx, (Op.stringOp .add V3 Dl).run Tryd.prog wx = .ok (.string V4) wx := add_eq ((((decDigits f) ++ [32]) ++ (decDigits o)) ++ [32]) (decDigits l) V4 V3 Dl hV3 hDl hV4 (by simp only [List.length_append, List.length_cons, List.length_nil]; omega)
        have HVV : Hid (str (rwS (fnS ([] ++ [(f, o, l)]))) = V4) := Lib.hid (by rw [hmore.1 hd]; exact hV4)
        have aV0 : ∀ wx, (Op.stringOp .add ⟨#[]⟩ Df).run Tryd.prog wx = .ok (.string Df) wx := fun wx => by
          have := add_eq [] (decDigits f) Df ⟨#[]⟩ Df rfl hDf (by rw [List.nil_append]; exact hDf) (by simp only [List.length_nil]; omega) wx
          exact this
        have hel : y + l ≤ e ∧ 0 < l ∧ l ≤ r := by omega
        obtain ⟨z, hz⟩ : ∃ z : Nat, y + l = z := ⟨_, rfl⟩
        have hmn : min (e : Int) (q : Int) = (z : Int) := by omega
        have hmi : (if (q : Int) < (e : Int) then (q : Int) else (e : Int)) = (z : Int) := by split <;> omega
        have hql : (z : Int) - (y : Int) = (l : Int) := by omega
        have HZ := Lib.hid hz
        clear hz hmore hst hl hf ho hV hRl hds hV1 hV2 hV3 hV4 hDf lf hDo lo hDl ll
        go_wp2_with fail
        refine (HDf.out _).mono ?_
        rintro e1 v1 ⟨rfl, c1⟩
        have C1 := Lib.hid (HBr.out.trans (c1.mono HBr.out.size))
        clear c1
        go_wp2_with fail
        refine (HDo.out _).mono ?_
        rintro e2 v2 ⟨rfl, c2⟩
        have C2 := Lib.hid (C1.out.trans (c2.mono C1.out.size))
        clear c2
        go_wp2_with fail
        refine (HDl.out _).mono ?_
        rintro e3 v3 ⟨rfl, c3⟩
        have C3 := Lib.hid (C2.out.trans (c3.mono C2.out.size))
        clear c3
        go_wp2_with fail
        go_roundw
        case rel => exact ⟨y + l, r - l, _, V4, rfl, by rw [HZ.out], by omega, Lib.hid ⟨HVV.out, HN.out, C3.out⟩⟩
        case measure => have := HZ.out; simp [RowKit.intOf]; omega
      · have hVn : ((V).toList == (⟨#[]⟩ : ByteArray).toList) = false := by rw [← hV]; exact str_neB _ [] (rwS_ne ds hd)
        have hVe : V.toList.isEmpty = false := by
          rw [← hV, str_tl]
          have := rwS_ne ds hd
          revert this
          cases rwS (fnS ds) with
          | nil => exact fun h => absurd rfl h
          | cons x l => exact fun _ => rfl
        have lf := dec_len f (by omega)
        obtain ⟨Df, hDf⟩ : ∃ Z, str (decDigits f) = Z := ⟨_, rfl⟩
        have HDf : Hid (∀ w, Calls Tryd.prog 16 #[.int .i64 (f : Int)] w fun e w' => e = .returned (.string Df) ∧ Below w.heap.size w w') := Lib.hid (fun w => by
          have := dcm_any f w (by omega)
          rw [dcm_nat f (by omega), hDf] at this
          exact this)
        have lo := dec_len o (by omega)
        obtain ⟨Do, hDo⟩ : ∃ Z, str (decDigits o) = Z := ⟨_, rfl⟩
        have HDo : Hid (∀ w, Calls Tryd.prog 16 #[.int .i64 (o : Int)] w fun e w' => e = .returned (.string Do) ∧ Below w.heap.size w w') := Lib.hid (fun w => by
          have := dcm_any o w (by omega)
          rw [dcm_nat o (by omega), hDo] at this
          exact this)
        have ll := dec_len l (by omega)
        obtain ⟨Dl, hDl⟩ : ∃ Z, str (decDigits l) = Z := ⟨_, rfl⟩
        have HDl : Hid (∀ w, Calls Tryd.prog 16 #[.int .i64 (l : Int)] w fun e w' => e = .returned (.string Dl) ∧ Below w.heap.size w w') := Lib.hid (fun w => by
          have := dcm_any l w (by omega)
          rw [dcm_nat l (by omega), hDl] at this
          exact this)
        obtain ⟨V1, hV1⟩ : ∃ Z, str ((rwS (fnS ds)) ++ [32]) = Z := ⟨_, rfl⟩
        have aV1 : ∀ wx, (Op.stringOp .add V ⟨#[32]⟩).run Tryd.prog wx = .ok (.string V1) wx := add_eq (rwS (fnS ds)) [32] V1 V ⟨#[32]⟩ hV rfl hV1 (by simp only [List.length_append, List.length_cons, List.length_nil]; omega)
        obtain ⟨V2, hV2⟩ : ∃ Z, str (((rwS (fnS ds)) ++ [32]) ++ (decDigits f)) = Z := ⟨_, rfl⟩
        have aV2 : ∀ wx, (Op.stringOp .add V1 Df).run Tryd.prog wx = .ok (.string V2) wx := add_eq ((rwS (fnS ds)) ++ [32]) (decDigits f) V2 V1 Df hV1 hDf hV2 (by simp only [List.length_append, List.length_cons, List.length_nil]; omega)
        obtain ⟨V3, hV3⟩ : ∃ Z, str ((((rwS (fnS ds)) ++ [32]) ++ (decDigits f)) ++ [32]) = Z := ⟨_, rfl⟩
        have aV3 : ∀ wx, (Op.stringOp .add V2 ⟨#[32]⟩).run Tryd.prog wx = .ok (.string V3) wx := add_eq (((rwS (fnS ds)) ++ [32]) ++ (decDigits f)) [32] V3 V2 ⟨#[32]⟩ hV2 rfl hV3 (by simp only [List.length_append, List.length_cons, List.length_nil]; omega)
        obtain ⟨V4, hV4⟩ : ∃ Z, str (((((rwS (fnS ds)) ++ [32]) ++ (decDigits f)) ++ [32]) ++ (decDigits o)) = Z := ⟨_, rfl⟩
        have aV4 : ∀ wx, (Op.stringOp .add V3 Do).run Tryd.prog wx = .ok (.string V4) wx := add_eq ((((rwS (fnS ds)) ++ [32]) ++ (decDigits f)) ++ [32]) (decDigits o) V4 V3 Do hV3 hDo hV4 (by simp only [List.length_append, List.length_cons, List.length_nil]; omega)
        obtain ⟨V5, hV5⟩ : ∃ Z, str ((((((rwS (fnS ds)) ++ [32]) ++ (decDigits f)) ++ [32]) ++ (decDigits o)) ++ [32]) = Z := ⟨_, rfl⟩
        have aV5 : ∀ wx, (Op.stringOp .add V4 ⟨#[32]⟩).run Tryd.prog wx = .ok (.string V5) wx := add_eq (((((rwS (fnS ds)) ++ [32]) ++ (decDigits f)) ++ [32]) ++ (decDigits o)) [32] V5 V4 ⟨#[32]⟩ hV4 rfl hV5 (by simp only [List.length_append, List.length_cons, List.length_nil]; omega)
        obtain ⟨V6, hV6⟩ : ∃ Z, str (((((((rwS (fnS ds)) ++ [32]) ++ (decDigits f)) ++ [32]) ++ (decDigits o)) ++ [32]) ++ (decDigits l)) = Z := ⟨_, rfl⟩
        have aV6 : ∀ wx, (Op.stringOp .add V5 Dl).run Tryd.prog wx = .ok (.string V6) wx := add_eq ((((((rwS (fnS ds)) ++ [32]) ++ (decDigits f)) ++ [32]) ++ (decDigits o)) ++ [32]) (decDigits l) V6 V5 Dl hV5 hDl hV6 (by simp only [List.length_append, List.length_cons, List.length_nil]; omega)
        have HVV : Hid (str (rwS (fnS (ds ++ [(f, o, l)]))) = V6) := Lib.hid (by rw [hmore.2 hd]; exact hV6)
        have hel : y + l ≤ e ∧ 0 < l ∧ l ≤ r := by omega
        obtain ⟨z, hz⟩ : ∃ z : Nat, y + l = z := ⟨_, rfl⟩
        have hmn : min (e : Int) (q : Int) = (z : Int) := by omega
        have hmi : (if (q : Int) < (e : Int) then (q : Int) else (e : Int)) = (z : Int) := by split <;> omega
        have hql : (z : Int) - (y : Int) = (l : Int) := by omega
        have HZ := Lib.hid hz
        clear hz hmore hst hl hf ho hV hRl hds hV1 hV2 hV3 hV4 hV5 hV6 hDf lf hDo lo hDl ll
        go_wp2_with fail
        refine (HDf.out _).mono ?_
        rintro e1 v1 ⟨rfl, c1⟩
        have C1 := Lib.hid (HBr.out.trans (c1.mono HBr.out.size))
        clear c1
        go_wp2_with fail
        refine (HDo.out _).mono ?_
        rintro e2 v2 ⟨rfl, c2⟩
        have C2 := Lib.hid (C1.out.trans (c2.mono C1.out.size))
        clear c2
        go_wp2_with fail
        refine (HDl.out _).mono ?_
        rintro e3 v3 ⟨rfl, c3⟩
        have C3 := Lib.hid (C2.out.trans (c3.mono C2.out.size))
        clear c3
        go_wp2_with fail
        go_roundw
        case rel => exact ⟨y + l, r - l, _, V6, rfl, by rw [HZ.out], by omega, Lib.hid ⟨HVV.out, HN.out, C3.out⟩⟩
        case measure => have := HZ.out; simp [RowKit.intOf]; omega
    · obtain rfl : r = 0 := by omega
      have hall : rwS (fnS (spl a m)) = rwS (fnS ds) := by rw [← HQ.out.2.1, spl_zero, List.append_nil]
      have hds : (rwS (fnS ds)).length ≤ 20000 := by
        have h1 := rwS_len (fnS (spl a m))
        have h2 := HFEW.out
        rw [fnS_len, hall] at h1; omega
      have aT : ∀ wx, (Op.stringOp .add V ⟨#[10]⟩).run Tryd.prog wx = .ok (.string T) wx := add_eq (rwS (fnS ds)) [10] T V ⟨#[10]⟩ HQ.out.1 rfl (by rw [← hall]; exact HT.out) (by simp only [List.length_cons, List.length_nil]; omega)
      have HB := Lib.hid HQ.out.2.2
      clear hall hds HQ
      go_wp2_with (go_at_call 12; refine (num_any _ _).mono ?_; rintro e wn ⟨rfl, rfl⟩)
      go_ret
      exact ⟨rfl, HB.out⟩

end Go.Proofs.YtobpggpjboonfaaDoor
