/-
  The law ConsoleRuns of the console. MADE BY gencnruns.py.
-/
import Derived.Test.YtobpggpjboonfaaDoorCnG
import Derived.Test.YtobpggpjboonfaaDoorCnRn0
import Derived.Test.YtobpggpjboonfaaDoorCnD
namespace Go.Proofs.YtobpggpjboonfaaDoor
open Go.RowKit Go.Lib
set_option linter.unusedVariables false
set_option linter.unusedSimpArgs false
set_option maxRecDepth 100000

set_option maxHeartbeats 16000000 in
theorem law_ConsoleRuns (s0 : ByteArray) (hz0 : s0.size ≤ 140737488351232) (W : World) (he : Env W) :
    Calls Tryd.prog 3 #[.string s0] W fun e w' => e = .returned (.bool true) ∧ Below W.heap.size W w' := by
  obtain ⟨t, hT⟩ : ∃ t, str t = s0 := ⟨_, str_of s0⟩
  have hTs : s0.size = t.length := by rw [← hT, str_size]
  have hTL : s0.data.toList = t := by rw [← hT, str_list]
  generalize s0 = T at *
  by_cases hl : 65536 < T.size
  · have HR : Hid (∀ w, Calls Tryd.prog 11 #[.string T] w fun e w' => e = .returned (.tuple #[.string ⟨#[]⟩, .int .i64 2501]) ∧ w = w') := Lib.hid (fun w => by
      have := run_long t w (by omega) (by omega)
      rw [hT] at this
      exact this)
    have HA := Lib.hid (cawake_any W he)
    have hTm : T.size ≤ 9223372036854775807 := by omega
    clear hT hTs hTL hz0
    go_enter Tryd.func3, Tryd.ntmps3
    go_wp2_with fail
    refine (HR.out _).mono ?_
    rintro e w1 ⟨rfl, rfl⟩
    go_wp2_with (first
      | (go_at_call 12; refine (num_any _ _).mono ?_; rintro e wn ⟨rfl, rfl⟩)
      | (go_at_call 13; refine HA.out.mono ?_; rintro e w2 ⟨rfl, b2⟩))
    go_ret
    exact ⟨rfl, b2⟩
  · have hsl := stx_lh t
    have HR := Lib.hid (run_any t W he (by omega))
    rw [hT] at hsl HR
    have HSL := Lib.hid hsl; have HTs := Lib.hid hTs; have HTL := Lib.hid hTL
    obtain ⟨i0, hi, hz0', hz1, hz2⟩ := info_parts infoByteD
    have HI := Lib.hid hi; have HZ0 := Lib.hid hz0'; have HZ1 := Lib.hid hz1; have HZ2 := Lib.hid hz2
    have HE := Lib.hid he
    have hTm : T.size ≤ 65536 := by omega
    obtain ⟨Z, hZ⟩ : ∃ Z, str (rnS t) = Z := ⟨_, rfl⟩
    rw [hZ] at HR
    have HZ := Lib.hid hZ
    clear hsl hT hTs hTL hz0 hi hz0' hz1 hz2 hl hZ he
    go_enter Tryd.func3, Tryd.ntmps3
    go_wp2_with fail
    refine HR.out.mono ?_
    rintro e w1 ⟨rfl, b1⟩
    have B1 := Lib.hid b1
    clear b1 HR
    go_wp2_with fail
    go_loopw [5, 6, 7, 8] (fun v a i _ wr => ∃ (k p : Nat) (D : List UInt8) (v' : Value), k ≤ T.size + 1 ∧ p ≤ k ∧ v' = v ∧ a = .int .i64 p ∧ i = .int .i64 k ∧ Hid (RnI t k p D ∧ wr.ownsRow W.heap.size 5 1 v' D.length (bts D) ∧ Below W.heap.size W wr)) (fun _ _ i _ _ => T.size + 1 - (RowKit.intOf i).toNat)
    case atStart => exact ⟨0, 0, [], _, by omega, by omega, rfl, rfl, rfl, Lib.hid ⟨RnI.start t, World.ownsRow_nil _ _ _ _, B1.out⟩⟩
    case round =>
      obtain ⟨k, p, D, v', hk, hpk, rfl, rfl, rfl, HQ⟩ := hrel
      by_cases hgo : k ≤ T.size
      · have hsz := HQ.out.2.2.size
        have HOW := Lib.hid HQ.out.2.1
        have HFW := Lib.hid HQ.out.1.few
        have HBE := Lib.hid HQ.out.2.2
        by_cases hlt : k < T.size
        · have hcl : t.getD k 0 = T[k] := by
            have := data_getElem? T k hlt
            rw [HTL.out] at this
            simp [List.getD, this]
          have hkt : k < t.length := by rw [← HTs.out]; exact hlt
          by_cases hb : (T[k]).toNat = 10
          · have HN := Lib.hid (HQ.out.1.lf hkt (by rw [hcl]; exact UInt8.toNat_inj.1 hb))
            have hb1 : ((T[k]).toNat : Int) = 10 := by omega
            clear hcl hkt hb HQ
            have hsl := HSL.out p k hpk (by rw [← HTs.out]; exact hgo)
            obtain ⟨S, hS⟩ : ∃ S, str ((t.drop p).take (k - p)) = S := ⟨_, rfl⟩
            rw [hS] at hsl
            have HDW := Lib.hid (fun w => dwords_any ((t.drop p).take (k - p)) w (by have := HTs.out; simp only [List.length_take, List.length_drop]; omega))
            rw [hS] at HDW
            have HPL : Hid (((t.drop p).take (k - p)).length ≤ 65536) := Lib.hid (by have := HTs.out; simp only [List.length_take, List.length_drop]; omega)
            have hfw := HFW.out
            clear hS HFW
            generalize (t.drop p).take (k - p) = P at *
            have HWS : Hid (∀ v ∈ fld [] P, v ≠ [] ∧ v.length ≤ 65536) := Lib.hid (fun v hv => ⟨fld_ne P [] v hv, by have := fld_short P [] v hv; have := HPL.out; simp at *; omega⟩)
            have HCN : Hid ((fld [] P).length ≤ 65536) := Lib.hid (by have := fld_count P []; have := HPL.out; simp at *; omega)
            cases hF : fld [] P with
            | nil =>
              have HL := Lib.hid (lnS_none hF)
              obtain ⟨n, hn⟩ : ∃ n : Nat, n = 0 := ⟨_, rfl⟩
              have HDW2 : Hid (∀ w, Calls Tryd.prog 14 #[.string S] w fun e w' => ∃ v, e = .returned v ∧ w'.ownsRow w.heap.size 9 1 v n (txs []) ∧ Below w.heap.size w w') := Lib.hid (fun w => by have := HDW.out w; rw [hF, List.length_nil, ← hn] at this; exact this)
              have hn1 : ¬ 0 < n := by omega
              have hn2 : n ≤ 65536 := by omega
              clear hF HDW HWS HCN hn
              go_wp2_with fail
              refine (HDW2.out _).mono ?_
              rintro e w2 ⟨vw, rfl, hw2, b2⟩
              have HF : Hid (RnI t (k + 1) (k + 1) D ∧ w2.ownsRow W.heap.size 5 1 v' D.length (bts D) ∧ Below W.heap.size W w2) := Lib.hid ⟨by have := HN.out; rwa [HL.out, List.append_nil] at this, own_below HOW.out b2, HBE.out.trans (b2.mono hsz)⟩
              obtain ⟨A2, c2, rfl, _, _, _⟩ := Sl.own hw2
              clear hw2 b2 HOW HBE HN
              go_wp2_with fail
              go_roundw
              case rel => exact ⟨k + 1, k + 1, D, v', by omega, by omega, rfl, by go_num, by go_num, HF⟩
              case measure => simp [RowKit.intOf]; omega
            | cons V ts =>
              cases V with
              | nil => exact absurd rfl (HWS.out [] (by rw [hF]; simp)).1
              | cons c l =>
                obtain ⟨m, hm⟩ : ∃ m, ts.length = m := ⟨_, rfl⟩
                have hm6 : m < 65536 := by have := HCN.out; rw [hF, List.length_cons] at this; omega
                obtain ⟨n, hn⟩ : ∃ n : Nat, m + 1 = n := ⟨_, rfl⟩
                have hn1 : 0 < n := by omega
                have hn2 : n ≤ 65536 := by omega
                have HDW2 : Hid (∀ w, Calls Tryd.prog 14 #[.string S] w fun e w' => ∃ v, e = .returned v ∧ w'.ownsRow w.heap.size 9 1 v n (txs ((c :: l) :: ts)) ∧ Below w.heap.size w w') := Lib.hid (fun w => by have := HDW.out w; rw [hF, List.length_cons, hm, hn] at this; exact this)
                have HTS : Hid (∀ u ∈ ts, u.length ≤ 65536) := Lib.hid (fun u hu => (HWS.out u (by rw [hF]; simp [hu])).2)
                obtain ⟨Y, hY⟩ : ∃ Y, str (c :: l) = Y := ⟨_, rfl⟩
                obtain ⟨h0, hc0, hTe, hTs9⟩ := text_head c l Y hY
                have HY := Lib.hid hY
                clear hTe hTs9 HDW HWS HCN HPL hY hm hn hm6
                by_cases hc : c = 35
                · have HL := Lib.hid (lnS_rem (l := l) (ts := ts) (by rw [hF, hc]))
                  have hc1 : ((Y[0]).toNat : Int) = 35 := by rw [hc0, hc]; rfl
                  clear hF hc0 hc
                  go_wp2_with fail
                  refine (HDW2.out _).mono ?_
                  rintro e w2 ⟨vw, rfl, hw2, b2⟩
                  have HF : Hid (RnI t (k + 1) (k + 1) D ∧ w2.ownsRow W.heap.size 5 1 v' D.length (bts D) ∧ Below W.heap.size W w2) := Lib.hid ⟨by have := HN.out; rwa [HL.out, List.append_nil] at this, own_below HOW.out b2, HBE.out.trans (b2.mono hsz)⟩
                  obtain ⟨A2, c2, rfl, _, _, hA2⟩ := Sl.own hw2
                  obtain ⟨b2', o2, rfl, hlt2, hcell2⟩ := hA2 (by omega)
                  have hY0 : w2.cell? ⟨b2', o2, none⟩ = some (.string Y) := by
                    have := hcell2 0 _ rfl
                    rw [Nat.add_zero] at this
                    rw [← HY.out]; exact this
                  clear hw2 b2 HOW HBE HN hcell2 hA2
                  go_wp2_with fail
                  go_roundw
                  case rel => exact ⟨k + 1, k + 1, D, v', by omega, by omega, rfl, by go_num, by go_num, HF⟩
                  case measure => simp [RowKit.intOf]; omega
                · have HL := Lib.hid (lnS_told hF hc)
                  have hc1 : ¬ ((Y[0]).toNat : Int) = 35 := by rw [hc0]; intro e; exact hc (UInt8.toNat_inj.1 (by simpa using (by omega : c.toNat = 35)))
                  have hc2 : (((Y[0]).toNat : Int) != 35) = true := by simp; exact fun e => hc1 (by omega)
                  obtain ⟨X, hX⟩ : ∃ X, str (otS (asS ((c :: l) :: ts))) = X := ⟨_, rfl⟩
                  have HTO := Lib.hid (fun v w (h : Sl w v n 1 (txs ((c :: l) :: ts))) => by have := dtold_any v n (c :: l) ts w h (by omega) HTS.out; rw [hX] at this; exact this)
                  have hXs : X.size ≤ 5026 := by
                    have h1 := otS_len (asS ((c :: l) :: ts))
                    have h2 := asS_len ((c :: l) :: ts)
                    rw [← hX, str_size]; omega
                  have HXB : Hid (bts D ++ strCells X ++ [.int .u8 10] = bts (D ++ lnS P)) := Lib.hid (by rw [HL.out, ← hX, strCells_str, ← List.append_assoc, bts_append, bts_append]; rfl)
                  have HXL : Hid ((D ++ lnS P).length = D.length + X.size + 1) := Lib.hid (by rw [HL.out, ← hX, str_size]; simp; omega)
                  clear hF hc0 hc hX
                  go_wp2_with fail
                  refine (HDW2.out _).mono ?_
                  rintro e w2 ⟨vw, rfl, hw2, b2⟩
                  have HSV := Lib.hid (Sl.own hw2)
                  obtain ⟨A2, c2, rfl, _, _, hA2⟩ := Sl.own hw2
                  obtain ⟨b2', o2, rfl, hlt2, hcell2⟩ := hA2 (by omega)
                  have hY0 : w2.cell? ⟨b2', o2, none⟩ = some (.string Y) := by
                    have := hcell2 0 _ rfl
                    rw [Nat.add_zero] at this
                    rw [← HY.out]; exact this
                  have HO2 := Lib.hid (own_below HOW.out b2)
                  have HB2 := Lib.hid (HBE.out.trans (b2.mono hsz))
                  have hsz2 := HB2.out.size
                  clear hw2 b2 HOW HBE hcell2 hA2
                  go_wp2_with fail
                  refine (HTO.out _ _ HSV.out).mono ?_
                  rintro e w3 ⟨rfl, b3⟩
                  have HO3 := Lib.hid (own_below HO2.out b3)
                  have HB3 := Lib.hid (HB2.out.trans (b3.mono hsz2))
                  have hsz3 := HB3.out.size
                  clear b3 HO2 HB2 hsz2 HSV HTO HDW2 hY0 hlt2
                  go_wp2_with (at_builtin; refine wpList_append_own_string _ rfl _ _ 27 9 rfl W.heap.size 5 i0 Tryd.underlying27 Tryd.underlying9 HI.out HZ0.out HZ1.out HZ2.out _ D.length (bts D) rfl HO3.out X rfl ?d4 ?d5 hsz3 ?_)
                  case d4 => unfold maxLen; omega
                  case d5 => omega
                  intro v4 w4 own4 gr4 _
                  have HB4 := Lib.hid (HB3.out.grown gr4 hsz3 (fun i hi => (HO3.out.lt i hi).1))
                  have HO4 := Lib.hid own4
                  have hsz4 := HB4.out.size
                  clear own4 gr4 HB3 HO3 hsz3
                  go_wp2_with (at_builtin; refine wpList_append_own _ rfl _ _ 27 rfl W.heap.size 5 i0 _ 1 1 Tryd.underlying27 HI.out HZ0.out HZ1.out HZ2.out rfl (by decide) _ (D.length + X.size) (bts D ++ strCells X) rfl (HO4.out.alloc _) ⟨w4.heap.size, 0, none⟩ 1 1 [.int .u8 10] rfl rfl ?d2 ?d3 ?d4 ?d5 ?d6 ?_)
                  case d2 => exact row_new w4 [.int .u8 10] _
                  case d3 => intro u hu; simp at hu; subst hu; rfl
                  case d4 => unfold maxLen; omega
                  case d5 => omega
                  case d6 => simp; omega
                  intro v5 w5 own5 gr5 _
                  have HF : Hid (RnI t (k + 1) (k + 1) (D ++ lnS P) ∧ w5.ownsRow W.heap.size 5 1 v5 (D ++ lnS P).length (bts (D ++ lnS P)) ∧ Below W.heap.size W w5) := Lib.hid ⟨HN.out, by rw [HXL.out, ← HXB.out, List.append_assoc]; exact own5, below_one _ HO4.out hsz4 HB4.out gr5⟩
                  clear own5 gr5 HB4 HO4 hsz4 HN
                  go_wp2_with fail
                  go_roundw
                  case rel => exact ⟨k + 1, k + 1, D ++ lnS P, v5, by omega, by omega, rfl, by go_num, by go_num, HF⟩
                  case measure => simp [RowKit.intOf]; omega
          · have hb1 : ¬ ((T[k]).toNat : Int) = 10 := by omega
            have hb2 : (((T[k]).toNat : Int) != 10) = true := by simp; omega
            have HF : Hid (RnI t (k + 1) p D ∧ wr.ownsRow W.heap.size 5 1 v' D.length (bts D) ∧ Below W.heap.size W wr) := Lib.hid ⟨HQ.out.1.byte hkt (by rw [hcl]; intro e; rw [e] at hb; exact hb rfl), HOW.out, HBE.out⟩
            clear hcl hkt hb HQ HOW HBE HFW
            go_wp2_with fail
            go_roundw
            case rel => exact ⟨k + 1, p, D, v', by omega, by omega, rfl, rfl, by go_num, HF⟩
            case measure => simp [RowKit.intOf]; omega
        · have hlast := HQ.out.1.last (by rw [← HTs.out]; omega)
          by_cases hpe : p = k
          · have HF : Hid (RnI t (k + 1) p D ∧ wr.ownsRow W.heap.size 5 1 v' D.length (bts D) ∧ Below W.heap.size W wr) := Lib.hid ⟨hlast.1 hpe, HOW.out, HBE.out⟩
            have hkT : k = T.size := by omega
            subst hpe
            clear hlast HQ HOW HBE HFW
            have hpi : (p : Int) = (T.size : Int) := by omega
            go_wp2_with fail
            go_roundw
            case rel => exact ⟨p + 1, p, D, v', by omega, by omega, rfl, rfl, by go_num, HF⟩
            case measure => simp [RowKit.intOf]; omega
          · have hpk2 : p < k := by omega
            have HN := Lib.hid hlast.2
            have hkb : ((k : Int) == (T.size : Int)) = true := by simp; omega
            have hpb : ((p : Int) == (k : Int)) = false := by simp; omega
            clear hlast HQ hpe
            have hsl := HSL.out p k hpk (by rw [← HTs.out]; exact hgo)
            obtain ⟨S, hS⟩ : ∃ S, str ((t.drop p).take (k - p)) = S := ⟨_, rfl⟩
            rw [hS] at hsl
            have HDW := Lib.hid (fun w => dwords_any ((t.drop p).take (k - p)) w (by have := HTs.out; simp only [List.length_take, List.length_drop]; omega))
            rw [hS] at HDW
            have HPL : Hid (((t.drop p).take (k - p)).length ≤ 65536) := Lib.hid (by have := HTs.out; simp only [List.length_take, List.length_drop]; omega)
            have hfw := HFW.out
            clear hS HFW
            generalize (t.drop p).take (k - p) = P at *
            have HWS : Hid (∀ v ∈ fld [] P, v ≠ [] ∧ v.length ≤ 65536) := Lib.hid (fun v hv => ⟨fld_ne P [] v hv, by have := fld_short P [] v hv; have := HPL.out; simp at *; omega⟩)
            have HCN : Hid ((fld [] P).length ≤ 65536) := Lib.hid (by have := fld_count P []; have := HPL.out; simp at *; omega)
            cases hF : fld [] P with
            | nil =>
              have HL := Lib.hid (lnS_none hF)
              obtain ⟨n, hn⟩ : ∃ n : Nat, n = 0 := ⟨_, rfl⟩
              have HDW2 : Hid (∀ w, Calls Tryd.prog 14 #[.string S] w fun e w' => ∃ v, e = .returned v ∧ w'.ownsRow w.heap.size 9 1 v n (txs []) ∧ Below w.heap.size w w') := Lib.hid (fun w => by have := HDW.out w; rw [hF, List.length_nil, ← hn] at this; exact this)
              have hn1 : ¬ 0 < n := by omega
              have hn2 : n ≤ 65536 := by omega
              clear hF HDW HWS HCN hn
              go_wp2_with fail
              refine (HDW2.out _).mono ?_
              rintro e w2 ⟨vw, rfl, hw2, b2⟩
              have HF : Hid (RnI t (k + 1) (k + 1) D ∧ w2.ownsRow W.heap.size 5 1 v' D.length (bts D) ∧ Below W.heap.size W w2) := Lib.hid ⟨by have := HN.out; rwa [HL.out, List.append_nil] at this, own_below HOW.out b2, HBE.out.trans (b2.mono hsz)⟩
              obtain ⟨A2, c2, rfl, _, _, _⟩ := Sl.own hw2
              clear hw2 b2 HOW HBE HN
              go_wp2_with fail
              go_roundw
              case rel => exact ⟨k + 1, k + 1, D, v', by omega, by omega, rfl, by go_num, by go_num, HF⟩
              case measure => simp [RowKit.intOf]; omega
            | cons V ts =>
              cases V with
              | nil => exact absurd rfl (HWS.out [] (by rw [hF]; simp)).1
              | cons c l =>
                obtain ⟨m, hm⟩ : ∃ m, ts.length = m := ⟨_, rfl⟩
                have hm6 : m < 65536 := by have := HCN.out; rw [hF, List.length_cons] at this; omega
                obtain ⟨n, hn⟩ : ∃ n : Nat, m + 1 = n := ⟨_, rfl⟩
                have hn1 : 0 < n := by omega
                have hn2 : n ≤ 65536 := by omega
                have HDW2 : Hid (∀ w, Calls Tryd.prog 14 #[.string S] w fun e w' => ∃ v, e = .returned v ∧ w'.ownsRow w.heap.size 9 1 v n (txs ((c :: l) :: ts)) ∧ Below w.heap.size w w') := Lib.hid (fun w => by have := HDW.out w; rw [hF, List.length_cons, hm, hn] at this; exact this)
                have HTS : Hid (∀ u ∈ ts, u.length ≤ 65536) := Lib.hid (fun u hu => (HWS.out u (by rw [hF]; simp [hu])).2)
                obtain ⟨Y, hY⟩ : ∃ Y, str (c :: l) = Y := ⟨_, rfl⟩
                obtain ⟨h0, hc0, hTe, hTs9⟩ := text_head c l Y hY
                have HY := Lib.hid hY
                clear hTe hTs9 HDW HWS HCN HPL hY hm hn hm6
                by_cases hc : c = 35
                · have HL := Lib.hid (lnS_rem (l := l) (ts := ts) (by rw [hF, hc]))
                  have hc1 : ((Y[0]).toNat : Int) = 35 := by rw [hc0, hc]; rfl
                  clear hF hc0 hc
                  go_wp2_with fail
                  refine (HDW2.out _).mono ?_
                  rintro e w2 ⟨vw, rfl, hw2, b2⟩
                  have HF : Hid (RnI t (k + 1) (k + 1) D ∧ w2.ownsRow W.heap.size 5 1 v' D.length (bts D) ∧ Below W.heap.size W w2) := Lib.hid ⟨by have := HN.out; rwa [HL.out, List.append_nil] at this, own_below HOW.out b2, HBE.out.trans (b2.mono hsz)⟩
                  obtain ⟨A2, c2, rfl, _, _, hA2⟩ := Sl.own hw2
                  obtain ⟨b2', o2, rfl, hlt2, hcell2⟩ := hA2 (by omega)
                  have hY0 : w2.cell? ⟨b2', o2, none⟩ = some (.string Y) := by
                    have := hcell2 0 _ rfl
                    rw [Nat.add_zero] at this
                    rw [← HY.out]; exact this
                  clear hw2 b2 HOW HBE HN hcell2 hA2
                  go_wp2_with fail
                  go_roundw
                  case rel => exact ⟨k + 1, k + 1, D, v', by omega, by omega, rfl, by go_num, by go_num, HF⟩
                  case measure => simp [RowKit.intOf]; omega
                · have HL := Lib.hid (lnS_told hF hc)
                  have hc1 : ¬ ((Y[0]).toNat : Int) = 35 := by rw [hc0]; intro e; exact hc (UInt8.toNat_inj.1 (by simpa using (by omega : c.toNat = 35)))
                  have hc2 : (((Y[0]).toNat : Int) != 35) = true := by simp; exact fun e => hc1 (by omega)
                  obtain ⟨X, hX⟩ : ∃ X, str (otS (asS ((c :: l) :: ts))) = X := ⟨_, rfl⟩
                  have HTO := Lib.hid (fun v w (h : Sl w v n 1 (txs ((c :: l) :: ts))) => by have := dtold_any v n (c :: l) ts w h (by omega) HTS.out; rw [hX] at this; exact this)
                  have hXs : X.size ≤ 5026 := by
                    have h1 := otS_len (asS ((c :: l) :: ts))
                    have h2 := asS_len ((c :: l) :: ts)
                    rw [← hX, str_size]; omega
                  have HXB : Hid (bts D ++ strCells X ++ [.int .u8 10] = bts (D ++ lnS P)) := Lib.hid (by rw [HL.out, ← hX, strCells_str, ← List.append_assoc, bts_append, bts_append]; rfl)
                  have HXL : Hid ((D ++ lnS P).length = D.length + X.size + 1) := Lib.hid (by rw [HL.out, ← hX, str_size]; simp; omega)
                  clear hF hc0 hc hX
                  go_wp2_with fail
                  refine (HDW2.out _).mono ?_
                  rintro e w2 ⟨vw, rfl, hw2, b2⟩
                  have HSV := Lib.hid (Sl.own hw2)
                  obtain ⟨A2, c2, rfl, _, _, hA2⟩ := Sl.own hw2
                  obtain ⟨b2', o2, rfl, hlt2, hcell2⟩ := hA2 (by omega)
                  have hY0 : w2.cell? ⟨b2', o2, none⟩ = some (.string Y) := by
                    have := hcell2 0 _ rfl
                    rw [Nat.add_zero] at this
                    rw [← HY.out]; exact this
                  have HO2 := Lib.hid (own_below HOW.out b2)
                  have HB2 := Lib.hid (HBE.out.trans (b2.mono hsz))
                  have hsz2 := HB2.out.size
                  clear hw2 b2 HOW HBE hcell2 hA2
                  go_wp2_with fail
                  refine (HTO.out _ _ HSV.out).mono ?_
                  rintro e w3 ⟨rfl, b3⟩
                  have HO3 := Lib.hid (own_below HO2.out b3)
                  have HB3 := Lib.hid (HB2.out.trans (b3.mono hsz2))
                  have hsz3 := HB3.out.size
                  clear b3 HO2 HB2 hsz2 HSV HTO HDW2 hY0 hlt2
                  go_wp2_with (at_builtin; refine wpList_append_own_string _ rfl _ _ 27 9 rfl W.heap.size 5 i0 Tryd.underlying27 Tryd.underlying9 HI.out HZ0.out HZ1.out HZ2.out _ D.length (bts D) rfl HO3.out X rfl ?d4 ?d5 hsz3 ?_)
                  case d4 => unfold maxLen; omega
                  case d5 => omega
                  intro v4 w4 own4 gr4 _
                  have HB4 := Lib.hid (HB3.out.grown gr4 hsz3 (fun i hi => (HO3.out.lt i hi).1))
                  have HO4 := Lib.hid own4
                  have hsz4 := HB4.out.size
                  clear own4 gr4 HB3 HO3 hsz3
                  go_wp2_with (at_builtin; refine wpList_append_own _ rfl _ _ 27 rfl W.heap.size 5 i0 _ 1 1 Tryd.underlying27 HI.out HZ0.out HZ1.out HZ2.out rfl (by decide) _ (D.length + X.size) (bts D ++ strCells X) rfl (HO4.out.alloc _) ⟨w4.heap.size, 0, none⟩ 1 1 [.int .u8 10] rfl rfl ?d2 ?d3 ?d4 ?d5 ?d6 ?_)
                  case d2 => exact row_new w4 [.int .u8 10] _
                  case d3 => intro u hu; simp at hu; subst hu; rfl
                  case d4 => unfold maxLen; omega
                  case d5 => omega
                  case d6 => simp; omega
                  intro v5 w5 own5 gr5 _
                  have HF : Hid (RnI t (k + 1) (k + 1) (D ++ lnS P) ∧ w5.ownsRow W.heap.size 5 1 v5 (D ++ lnS P).length (bts (D ++ lnS P)) ∧ Below W.heap.size W w5) := Lib.hid ⟨HN.out, by rw [HXL.out, ← HXB.out, List.append_assoc]; exact own5, below_one _ HO4.out hsz4 HB4.out gr5⟩
                  clear own5 gr5 HB4 HO4 hsz4 HN
                  go_wp2_with fail
                  go_roundw
                  case rel => exact ⟨k + 1, k + 1, D ++ lnS P, v5, by omega, by omega, rfl, by go_num, by go_num, HF⟩
                  case measure => simp [RowKit.intOf]; omega
      · have hkT : k = T.size + 1 := by omega
        have HD := Lib.hid (HQ.out.1.done (by rw [← HTs.out]; omega))
        have hcv : (convert 27 9 v').run Tryd.prog wr = .ok (.string Z) wr := by
          rw [← HZ.out, ← HD.out]
          have ho := HQ.out.2.1
          rcases ho.2 with ⟨h1, h2⟩ | ⟨g, cap, cur, h1, _⟩
          · have hD0 : D = [] := List.eq_nil_of_length_eq_zero h2
            rw [h1, hD0]; exact run_convert_bytes_nil wr 27 5 Tryd.underlying27 Tryd.underlying5 0 0 9 Tryd.underlying9
          · have hc := ho.cells (g := g) (by rw [h1]; rfl)
            rw [h1]
            exact conv_str (w := wr) g 0 cap D (fun i hi => by
              have := hc i _ (bts_get D i hi)
              rwa [add_none] at this)
        have HA := Lib.hid (cawake_any wr (HE.out.below HQ.out.2.2))
        have HB := Lib.hid HQ.out.2.2
        have hszf := HB.out.size
        clear HQ HD
        go_wp2_with (first
          | (go_at_call 12; refine (num_any _ _).mono ?_; rintro e wn ⟨rfl, rfl⟩)
          | (go_at_call 13; refine HA.out.mono ?_; rintro e w2 ⟨rfl, b2⟩))
        go_ret
        exact ⟨rfl, HB.out.trans (b2.mono hszf)⟩

end Go.Proofs.YtobpggpjboonfaaDoor
