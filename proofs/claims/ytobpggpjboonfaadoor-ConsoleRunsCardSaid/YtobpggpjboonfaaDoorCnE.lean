/-
  The document's side of the console: number, words.
-/
import Derived.Test.YtobpggpjboonfaaDoorCnAw
namespace Go.Proofs.YtobpggpjboonfaaDoor
open Go.RowKit Go.Lib
set_option linter.unusedVariables false
set_option linter.unusedSimpArgs false
set_option maxRecDepth 100000

theorem stx_lh (q : List UInt8) (a b : Nat) (hab : a ≤ b) (hb : b ≤ q.length) (wx : World) : (Instr.slice 9 (.string (str q)) (some (.int .i64 (a : Int))) (some (.int .i64 (b : Int))) none).run Tryd.prog wx = .ok (.string (str ((q.drop a).take (b - a)))) wx := by
  have h := run_slice_string (P := Tryd.prog) (w := wx) 9 (str q) .i64 .i64 (a : Int) (b : Int) Tryd.underlying9 (by omega) (by omega) (by rw [str_size]; omega)
  rw [h, Int.toNat_natCast, Int.toNat_natCast, stx_ext]

/-- A word without the '-' ahead. -/
theorem trim_cons (c : UInt8) (l : List UInt8) : trimPrefix (c :: l) [45] = (if c = 45 then l else c :: l) ∧ hasPrefix (c :: l) [45] = decide (c = 45) := by
  by_cases h : c = 45
  · subst h; simp [trimPrefix, hasPrefix, List.isPrefixOf]
  · have h2 : ¬ (45 : UInt8) = c := fun e => h e.symm
    simp [trimPrefix, hasPrefix, List.isPrefixOf, h, h2]

/-- Behind the sign: the digits D of the word t, B: is there a sign? -/
structure NmD (t : List UInt8) (D : List UInt8) (B : Bool) (V : Int) (O : Bool) : Prop where
  long : D.length < 1 ∨ 6 < D.length → V = 0 ∧ O = false
  bad : dgs 0 D = none → V = 0 ∧ O = false
  good : ∀ n, 1 ≤ D.length → D.length ≤ 6 → dgs 0 D = some n → V = (if B then -(n : Int) else n) ∧ O = true
theorem nmD (t : List UInt8) : NmD t (trimPrefix t [45]) (hasPrefix t [45]) (nmV t) (nmO t) := ⟨nm_long, nm_bad, fun n => nm_good⟩

/-- A text's first byte, whether it is none. -/
theorem text_head (c : UInt8) (l : List UInt8) (T : ByteArray) (h : str (c :: l) = T) : ∃ h0 : 0 < T.size, T[0] = c ∧ T.toList.isEmpty = false ∧ T.size = l.length + 1 := by
  have hs : T.size = l.length + 1 := by rw [← h, str_size]; rfl
  refine ⟨by omega, ?_, by rw [← h, str_tl]; rfl, hs⟩
  have := data_getElem? T 0 (by omega)
  have e : T.data.toList = c :: l := by rw [← h, str_list]
  rw [e] at this
  simpa using this.symm
theorem text_empty (D : List UInt8) (Db : ByteArray) (h : str D = Db) : Db.toList.isEmpty = decide (D.length < 1) := by
  rw [← h, str_tl]
  cases D <;> simp

set_option maxHeartbeats 2000000 in
theorem dnumber_any (t : List UInt8) (w : World) (ht : t.length ≤ 9223372036854775807) :
    Calls Tryd.prog 26 #[.string (str t)] w fun e w' => e = .returned (.tuple #[.int .i64 (nmV t), .bool (nmO t)]) ∧ w = w' := by
  cases t with
  | nil =>
    have h := nm_long (t := []) (.inl (by decide))
    rw [h.1, h.2]
    show Calls _ _ #[.string ⟨#[]⟩] _ _
    go_enter Tryd.func26, Tryd.ntmps26
    go_wp2
    go_ret2
    exact ⟨rfl, rfl⟩
  | cons c l =>
    have hN := nmD (c :: l)
    rw [(trim_cons c l).1, (trim_cons c l).2] at hN
    have hsl := stx_l (c :: l) 1 (by simp)
    obtain ⟨T, hT⟩ : ∃ T, str (c :: l) = T := ⟨_, rfl⟩
    obtain ⟨h0, hc0, hTe, hTs⟩ := text_head c l T hT
    rw [hT] at hsl ⊢
    generalize nmV (c :: l) = V at *
    generalize nmO (c :: l) = O at *
    have hcl : ∃ (D : List UInt8) (Db : ByteArray) (B : Bool), NmD [] D B V O ∧ str D = Db ∧ D.length ≤ l.length + 1 ∧ ((B = true ∧ T[0].toNat = 45 ∧ ∀ wx, (Instr.slice 9 (.string T) (some (.int .i64 1)) none none).run Tryd.prog wx = .ok (.string Db) wx) ∨ (B = false ∧ T[0].toNat ≠ 45 ∧ Db = T)) := by
      by_cases h : c = 45
      · rw [if_pos h, decide_eq_true h] at hN
        refine ⟨l, str l, true, ⟨hN.long, hN.bad, hN.good⟩, rfl, by omega, .inl ⟨rfl, by rw [hc0, h]; rfl, fun wx => ?_⟩⟩
        have := hsl wx
        simpa using this
      · rw [if_neg h, decide_eq_false h] at hN
        exact ⟨c :: l, T, false, ⟨hN.long, hN.bad, hN.good⟩, hT, by simp, .inr ⟨rfl, by rw [hc0]; exact fun e => h (UInt8.toNat_inj.1 e), rfl⟩⟩
    obtain ⟨D, Db, B, hD, hDb, hDl, hway⟩ := hcl
    have hDs : Db.size = D.length := by rw [← hDb, str_size]
    have hDe := text_empty D Db hDb
    have hDL : Db.data.toList = D := by rw [← hDb, str_list]
    simp only [List.length_cons] at ht
    have hTm : T.size ≤ 9223372036854775807 := by omega
    have hDm : Db.size ≤ 9223372036854775807 := by omega
    have HD := Lib.hid hD; have HDL := Lib.hid hDL; have HDs := Lib.hid hDs
    clear hN hsl hT hc0 hTs hD hDb hDl hDL ht
    by_cases h1 : D.length < 1
    · obtain ⟨rfl, rfl⟩ := HD.out.long (.inl h1)
      rw [decide_eq_true h1] at hDe
      clear h1 hDs
      rcases hway with ⟨rfl, h45, hrun⟩ | ⟨rfl, h45, rfl⟩
      · go_enter Tryd.func26, Tryd.ntmps26
        go_wp2
        go_ret2
        exact ⟨rfl, rfl⟩
      · rw [hDe] at hTe; cases hTe
    rw [decide_eq_false h1] at hDe
    have h1' : 1 ≤ Db.size := by omega
    clear h1
    by_cases h6 : 6 < Db.size
    · obtain ⟨rfl, rfl⟩ := HD.out.long (.inr (by rw [← HDs.out]; exact h6))
      clear hDs
      rcases hway with ⟨rfl, h45, hrun⟩ | ⟨rfl, h45, rfl⟩
      · go_enter Tryd.func26, Tryd.ntmps26
        go_wp2
        go_ret2
        exact ⟨rfl, rfl⟩
      · have h45' : ((Db[0].toNat : Int) == 45) = false := by simp; omega
        go_enter Tryd.func26, Tryd.ntmps26
        go_wp2
        go_ret2
        exact ⟨rfl, rfl⟩
    have h6' : Db.size ≤ 6 := by omega
    clear h6 hDs
    rcases hway with ⟨rfl, h45, hrun⟩ | ⟨rfl, h45, rfl⟩
    all_goals
      try (have h45' : ((Db[0].toNat : Int) == 45) = false := by simp; omega)
      go_enter Tryd.func26, Tryd.ntmps26
      go_wp2_with fail
      go_loopw [5, 6] (fun x i wr => ∃ (k m : Nat), k ≤ Db.size ∧ x = .int .i64 m ∧ i = .int .i64 k ∧ Hid (dgs 0 (D.take k) = some m) ∧ w = wr) (fun _ i _ => Db.size - (RowKit.intOf i).toNat)
      case atStart => exact ⟨0, 0, by omega, rfl, rfl, Lib.hid rfl, rfl⟩
      case round =>
        obtain ⟨k, m, hk, rfl, rfl, HM, rfl⟩ := hrel
        by_cases hlt : k < Db.size
        · have hc := (Db[k]).toNat_lt
          have hcl : D.getD k 0 = Db[k] := by
            have := data_getElem? Db k hlt
            rw [HDL.out] at this
            simp [List.getD, this]
          have hkL : k < D.length := by rw [← HDs.out]; exact hlt
          have hm := dgs_small D k m (by omega) HM.out
          have HC := Lib.hid hcl; have HK := Lib.hid hkL
          clear hcl hkL
          by_cases hb : (Db[k]).toNat < 48 ∨ 57 < (Db[k]).toNat
          · obtain ⟨rfl, rfl⟩ := HD.out.bad (dgs_bad D k m HK.out HM.out (by rw [HC.out]; exact hb))
            rcases hb with hb | hb
            · go_wp2
              go_ret2
              exact ⟨rfl, rfl⟩
            · have hb2 : ¬ (((Db[k]).toNat : Int) < 48) := by omega
              go_wp2
              go_ret2
              exact ⟨rfl, rfl⟩
          · have hn := dgs_more D k m HK.out HM.out (by rw [HC.out]; exact hb)
            rw [HC.out] at hn
            have HN := Lib.hid hn
            have hb1 : 48 ≤ (Db[k]).toNat := by omega
            have hb2 : (Db[k]).toNat ≤ 57 := by omega
            clear hn hb
            go_wp2
            go_roundw
            case rel => exact ⟨k + 1, 10 * m + ((Db[k]).toNat - 48), by omega, by go_num, by go_num, HN, trivial⟩
            case measure => simp [RowKit.intOf]; omega
        · have hkD : k = Db.size := by omega
          have hm : dgs 0 D = some m := by
            have := HM.out
            rwa [List.take_of_length_le (by rw [← HDs.out]; omega)] at this
          obtain ⟨hv, ho⟩ := HD.out.good m (by rw [← HDs.out]; exact h1') (by rw [← HDs.out]; exact h6') hm
          have hms := dgs_small6 D m (by rw [← HDs.out]; exact h6') hm
          subst hv ho
          clear hm
          go_wp2
          go_ret2
          exact ⟨rfl, rfl⟩

/-- What of a text's words is told when k bytes are read, the current one begun at a. -/
structure WdI (t : List UInt8) (k a : Nat) (ds : List (List UInt8)) : Prop where
  le : a ≤ k
  more : k ≤ t.length → ds ++ fld ((t.drop a).take (k - a)) (t.drop k) = fld [] t
  done : t.length < k → ds = fld [] t
  few : ds.length ≤ k
theorem WdI.start (t : List UInt8) : WdI t 0 0 [] := ⟨Nat.le_refl _, fun _ => by simp, fun h => by omega, by simp⟩
theorem wd_cur (t : List UInt8) (k a : Nat) (ha : a ≤ k) (hk : k < t.length) : (t.drop a).take (k + 1 - a) = (t.drop a).take (k - a) ++ [t.getD k 0] := by
  rw [show k + 1 - a = (k - a) + 1 by omega, List.take_add_one, List.getElem?_drop, show a + (k - a) = k by omega]
  simp [List.getD, List.getElem?_eq_getElem hk]
theorem wd_drop (t : List UInt8) (k : Nat) (hk : k < t.length) : t.drop k = t.getD k 0 :: t.drop (k + 1) := by
  rw [List.drop_eq_getElem_cons hk]; simp [List.getD, List.getElem?_eq_getElem hk]
theorem WdI.byte {t : List UInt8} {k a : Nat} {ds : List (List UInt8)} (h : WdI t k a ds) (hk : k < t.length) (hb : isB (t.getD k 0) = false) : WdI t (k + 1) a ds :=
  ⟨by have := h.le; omega, fun _ => by
    have h1 := h.more (by omega)
    rw [wd_drop t k hk, fld_byte _ _ _ hb, ← wd_cur t k a h.le hk] at h1
    exact h1, fun h2 => by omega, by have := h.few; omega⟩
theorem WdI.blank {t : List UInt8} {k a : Nat} {ds : List (List UInt8)} (h : WdI t k a ds) (hk : k < t.length) (hb : isB (t.getD k 0) = true) :
    (a = k → WdI t (k + 1) (k + 1) ds) ∧ (a < k → WdI t (k + 1) (k + 1) (ds ++ [(t.drop a).take (k - a)])) := by
  have h1 := h.more (by omega)
  rw [wd_drop t k hk, fld_blank _ _ _ hb] at h1
  refine ⟨fun e => ?_, fun e => ?_⟩
  · subst e
    rw [Nat.sub_self, List.take_zero, if_pos rfl] at h1
    exact ⟨Nat.le_refl _, fun _ => by rw [Nat.sub_self, List.take_zero]; exact h1, fun h2 => by omega, by have := h.few; omega⟩
  · have hn : (t.drop a).take (k - a) ≠ [] := by
      intro e2
      have := congrArg List.length e2
      rw [List.length_take, List.length_drop] at this
      simp at this; omega
    rw [if_neg hn] at h1
    exact ⟨Nat.le_refl _, fun _ => by rw [Nat.sub_self, List.take_zero, List.append_assoc]; exact h1, fun h2 => by omega, by have := h.few; simp; omega⟩
theorem WdI.last {t : List UInt8} {k a : Nat} {ds : List (List UInt8)} (h : WdI t k a ds) (hk : k = t.length) :
    (a = k → WdI t (k + 1) (k + 1) ds) ∧ (a < k → WdI t (k + 1) (k + 1) (ds ++ [(t.drop a).take (k - a)])) := by
  have h1 := h.more (by omega)
  rw [List.drop_eq_nil_of_le (show t.length ≤ k by omega), fld_nil] at h1
  refine ⟨fun e => ?_, fun e => ?_⟩
  · subst e
    rw [Nat.sub_self, List.take_zero, if_pos rfl, List.append_nil] at h1
    exact ⟨Nat.le_refl _, fun h2 => by omega, fun _ => h1, by have := h.few; omega⟩
  · have hn : (t.drop a).take (k - a) ≠ [] := by
      intro e2
      have := congrArg List.length e2
      rw [List.length_take, List.length_drop] at this
      simp at this; omega
    rw [if_neg hn] at h1
    exact ⟨Nat.le_refl _, fun h2 => by omega, fun _ => h1, by have := h.few; simp; omega⟩

set_option maxHeartbeats 2000000 in
theorem dwords_any (t : List UInt8) (w : World) (ht : t.length ≤ 65536) :
    Calls Tryd.prog 14 #[.string (str t)] w fun e w' => ∃ v, e = .returned v ∧ w'.ownsRow w.heap.size 9 1 v (fld [] t).length (txs (fld [] t)) ∧ Below w.heap.size w w' := by
  obtain ⟨i0, hi, hz0, hz1, hz2⟩ := info_parts infoStr
  have HI := Lib.hid hi; have HZ0 := Lib.hid hz0; have HZ1 := Lib.hid hz1; have HZ2 := Lib.hid hz2
  clear hi hz0 hz1 hz2
  have hsl := stx_lh t
  obtain ⟨T, hT⟩ : ∃ T, str t = T := ⟨_, rfl⟩
  have hTs : T.size = t.length := by rw [← hT, str_size]
  have hTL : T.data.toList = t := by rw [← hT, str_list]
  rw [hT] at hsl ⊢
  have HSL := Lib.hid hsl; have HTs := Lib.hid hTs; have HTL := Lib.hid hTL
  have hTm : T.size ≤ 65536 := by omega
  clear hsl hT hTs hTL ht
  go_enter Tryd.func14, Tryd.ntmps14
  go_wp2_with fail
  go_loopw [3, 4, 5] (fun v a i wr => ∃ (k p : Nat) (ds : List (List UInt8)) (v' : Value), k ≤ T.size + 1 ∧ p ≤ k ∧ v' = v ∧ a = .int .i64 p ∧ i = .int .i64 k ∧ Hid (WdI t k p ds ∧ wr.ownsRow w.heap.size 9 1 v' ds.length (txs ds) ∧ Below w.heap.size w wr)) (fun _ _ i _ => T.size + 1 - (RowKit.intOf i).toNat)
  case atStart => exact ⟨0, 0, [], _, by omega, by omega, rfl, rfl, rfl, Lib.hid ⟨WdI.start t, World.ownsRow_nil _ _ _ _, Below.refl _ _⟩⟩
  case round =>
    obtain ⟨k, p, ds, v', hk, hpk, rfl, rfl, rfl, HQ⟩ := hrel
    by_cases hgo : k ≤ T.size
    · have app : ∀ (D : ByteArray), Hid (WdI t (k + 1) (k + 1) (ds ++ [(t.drop p).take (k - p)]) ∧ str ((t.drop p).take (k - p)) = D) → True := fun _ _ => trivial
      have hsz := HQ.out.2.2.size
      have HOW := Lib.hid HQ.out.2.1
      have HFW := Lib.hid HQ.out.1.few
      have HBE := Lib.hid HQ.out.2.2
      by_cases hlt : k < T.size
      · have hcl : t.getD k 0 = T[k] := by
          have := data_getElem? T k hlt
          rw [HTL.out] at this
          simp [List.getD, this]
        have hkt : k < t.length := by rw [← HTs.out]; exact hlt
        by_cases hb : (T[k]).toNat = 32 ∨ (T[k]).toNat = 9
        · have hbl := HQ.out.1.blank hkt (by rw [hcl]; exact is_blank hb)
          by_cases hpe : p = k
          · have HN : Hid (WdI t (k + 1) (k + 1) ds) := Lib.hid (hbl.1 hpe)
            have HF : Hid (WdI t (k + 1) (k + 1) ds ∧ wr.ownsRow w.heap.size 9 1 v' ds.length (txs ds) ∧ Below w.heap.size w wr) := Lib.hid ⟨HN.out, HOW.out, HBE.out⟩
            subst hpe
            clear hbl hcl hkt HN HQ HOW HBE app HFW
            rcases hb with hb | hb
            · have hb1 : ((T[p]).toNat : Int) = 32 := by omega
              go_wp2_with fail
              go_roundw
              case rel => exact ⟨p + 1, p + 1, ds, v', by omega, by omega, rfl, by go_num, by go_num, HF⟩
              case measure => simp [RowKit.intOf]; omega
            · have hb1 : ((T[p]).toNat : Int) = 9 := by omega
              go_wp2_with fail
              go_roundw
              case rel => exact ⟨p + 1, p + 1, ds, v', by omega, by omega, rfl, by go_num, by go_num, HF⟩
              case measure => simp [RowKit.intOf]; omega
          · have hpk2 : p < k := by omega
            have HN := Lib.hid (hbl.2 hpk2)
            have hsl := HSL.out p k hpk (by rw [← HTs.out]; exact hgo)
            obtain ⟨D, hD⟩ : ∃ D, str ((t.drop p).take (k - p)) = D := ⟨_, rfl⟩
            rw [hD] at hsl
            have HTX : Hid (txs ds ++ [.string D] = txs (ds ++ [(t.drop p).take (k - p)])) := Lib.hid (by rw [txs_app, ← hD]; rfl)
            have hfw := HFW.out
            clear hD app HQ hbl hcl hkt
            generalize (t.drop p).take (k - p) = P at *
            have HLN : Hid ((ds ++ [P]).length = ds.length + 1) := Lib.hid (by simp)
            generalize txs ds = xs at *
            generalize ds.length = m at *
            rcases hb with hb | hb
            · have hb1 : ((T[k]).toNat : Int) = 32 := by omega
              go_wp2_with (at_builtin; refine wpList_append_own _ rfl _ _ 28 rfl w.heap.size 9 i0 _ 1 16 Tryd.underlying28 HI.out HZ0.out HZ1.out HZ2.out rfl (by decide) _ m xs rfl (HOW.out.alloc _) ⟨wr.heap.size, 0, none⟩ 1 1 [.string D] rfl rfl ?d2 ?d3 ?d4 ?d5 ?d6 ?_)
              case d2 => exact row_new wr [.string D] _
              case d3 => intro u hu; simp at hu; subst hu; rfl
              case d4 => unfold maxLen; omega
              case d5 => omega
              case d6 => simp; omega
              intro v2 w2 hown2 hgrow _
              have HF : Hid (WdI t (k + 1) (k + 1) (ds ++ [P]) ∧ w2.ownsRow w.heap.size 9 1 v2 (ds ++ [P]).length (txs (ds ++ [P])) ∧ Below w.heap.size w w2) :=
                Lib.hid ⟨HN.out, by rw [HLN.out, ← HTX.out]; exact hown2, below_one _ HOW.out hsz HBE.out hgrow⟩
              clear hown2 hgrow HOW HBE HN
              go_wp2_with fail
              go_roundw
              case rel => exact ⟨k + 1, k + 1, ds ++ [P], v2, by omega, by omega, rfl, by go_num, by go_num, HF⟩
              case measure => simp [RowKit.intOf]; omega
            · have hb1 : ((T[k]).toNat : Int) = 9 := by omega
              go_wp2_with (at_builtin; refine wpList_append_own _ rfl _ _ 28 rfl w.heap.size 9 i0 _ 1 16 Tryd.underlying28 HI.out HZ0.out HZ1.out HZ2.out rfl (by decide) _ m xs rfl (HOW.out.alloc _) ⟨wr.heap.size, 0, none⟩ 1 1 [.string D] rfl rfl ?d2 ?d3 ?d4 ?d5 ?d6 ?_)
              case d2 => exact row_new wr [.string D] _
              case d3 => intro u hu; simp at hu; subst hu; rfl
              case d4 => unfold maxLen; omega
              case d5 => omega
              case d6 => simp; omega
              intro v2 w2 hown2 hgrow _
              have HF : Hid (WdI t (k + 1) (k + 1) (ds ++ [P]) ∧ w2.ownsRow w.heap.size 9 1 v2 (ds ++ [P]).length (txs (ds ++ [P])) ∧ Below w.heap.size w w2) :=
                Lib.hid ⟨HN.out, by rw [HLN.out, ← HTX.out]; exact hown2, below_one _ HOW.out hsz HBE.out hgrow⟩
              clear hown2 hgrow HOW HBE HN
              go_wp2_with fail
              go_roundw
              case rel => exact ⟨k + 1, k + 1, ds ++ [P], v2, by omega, by omega, rfl, by go_num, by go_num, HF⟩
              case measure => simp [RowKit.intOf]; omega
        · have HN := Lib.hid (HQ.out.1.byte hkt (by rw [hcl]; exact not_blank (fun e => hb (.inl e)) (fun e => hb (.inr e))))
          have HF : Hid (WdI t (k + 1) p ds ∧ wr.ownsRow w.heap.size 9 1 v' ds.length (txs ds) ∧ Below w.heap.size w wr) := Lib.hid ⟨HN.out, HOW.out, HBE.out⟩
          have hb1 : (((T[k]).toNat : Int) != 32) = true := by simp; omega
          have hb2 : (((T[k]).toNat : Int) != 9) = true := by simp; omega
          clear hcl hkt HN HQ HOW HBE app HFW hb
          go_wp2_with fail
          go_roundw
          case rel => exact ⟨k + 1, p, ds, v', by omega, by omega, rfl, rfl, by go_num, HF⟩
          case measure => simp [RowKit.intOf]; omega
      · have hbl := HQ.out.1.last (by rw [← HTs.out]; omega)
        by_cases hpe : p = k
        · have HN : Hid (WdI t (k + 1) (k + 1) ds) := Lib.hid (hbl.1 hpe)
          have HF : Hid (WdI t (k + 1) (k + 1) ds ∧ wr.ownsRow w.heap.size 9 1 v' ds.length (txs ds) ∧ Below w.heap.size w wr) := Lib.hid ⟨HN.out, HOW.out, HBE.out⟩
          subst hpe
          clear hbl HN HQ HOW HBE app HFW
          go_wp2_with fail
          go_roundw
          case rel => exact ⟨p + 1, p + 1, ds, v', by omega, by omega, rfl, by go_num, by go_num, HF⟩
          case measure => simp [RowKit.intOf]; omega
        · have hpk2 : p < k := by omega
          have HN := Lib.hid (hbl.2 hpk2)
          have hsl := HSL.out p k hpk (by rw [← HTs.out]; exact hgo)
          obtain ⟨D, hD⟩ : ∃ D, str ((t.drop p).take (k - p)) = D := ⟨_, rfl⟩
          rw [hD] at hsl
          have HTX : Hid (txs ds ++ [.string D] = txs (ds ++ [(t.drop p).take (k - p)])) := Lib.hid (by rw [txs_app, ← hD]; rfl)
          have hfw := HFW.out
          clear hD app HQ hbl
          generalize (t.drop p).take (k - p) = P at *
          have HLN : Hid ((ds ++ [P]).length = ds.length + 1) := Lib.hid (by simp)
          generalize txs ds = xs at *
          generalize ds.length = m at *
          go_wp2_with (at_builtin; refine wpList_append_own _ rfl _ _ 28 rfl w.heap.size 9 i0 _ 1 16 Tryd.underlying28 HI.out HZ0.out HZ1.out HZ2.out rfl (by decide) _ m xs rfl (HOW.out.alloc _) ⟨wr.heap.size, 0, none⟩ 1 1 [.string D] rfl rfl ?d2 ?d3 ?d4 ?d5 ?d6 ?_)
          case d2 => exact row_new wr [.string D] _
          case d3 => intro u hu; simp at hu; subst hu; rfl
          case d4 => unfold maxLen; omega
          case d5 => omega
          case d6 => simp; omega
          intro v2 w2 hown2 hgrow _
          have HF : Hid (WdI t (k + 1) (k + 1) (ds ++ [P]) ∧ w2.ownsRow w.heap.size 9 1 v2 (ds ++ [P]).length (txs (ds ++ [P])) ∧ Below w.heap.size w w2) :=
            Lib.hid ⟨HN.out, by rw [HLN.out, ← HTX.out]; exact hown2, below_one _ HOW.out hsz HBE.out hgrow⟩
          clear hown2 hgrow HOW HBE HN
          go_wp2_with fail
          go_roundw
          case rel => exact ⟨k + 1, k + 1, ds ++ [P], v2, by omega, by omega, rfl, by go_num, by go_num, HF⟩
          case measure => simp [RowKit.intOf]; omega
    · have hkT : k = T.size + 1 := by omega
      have HD := Lib.hid (HQ.out.1.done (by rw [← HTs.out]; omega))
      go_wp2_with fail
      go_ret
      exact ⟨v', rfl, by rw [← HD.out]; exact HQ.out.2.1, HQ.out.2.2⟩

end Go.Proofs.YtobpggpjboonfaaDoor
