/-
  Contracts of package console: words, numbers, rows.
-/
import Derived.Test.YtobpggpjboonfaaDoorCnS
import Derived.Test.YtobpggpjboonfaaDoorApn
import Derived.Test.YtobpggpjboonfaaDoorStx
import Derived.Test.YtobpggpjboonfaaDoorSli
import Derived.Test.YtobpggpjboonfaaDoorDe0
namespace Go.Proofs.YtobpggpjboonfaaDoor
open Go.RowKit Go.Lib
set_option linter.unusedVariables false
set_option linter.unusedSimpArgs false
set_option maxRecDepth 100000

theorem truth_any (b : Bool) (w : World) : Calls Tryd.prog 51 #[.bool b] w fun e w' => e = .returned (.string (str (yesS b))) ∧ w = w' := by
  cases b
  all_goals
    go_enter Tryd.func51, Tryd.ntmps51
    go_wp2
    go_ret
    exact ⟨rfl, rfl⟩

theorem says_any (v : Value) (n : Nat) (ts : List (List UInt8)) (w : World) (hs : Sl w v n 1 (txs ts)) (hn : n ≤ 65536) :
    Calls Tryd.prog 21 #[v] w fun e w' => e = .returned (.bool (syS ts)) ∧ w = w' := by
  obtain ⟨A, cap, rfl, hc, hlen, hA⟩ := hs
  rw [txs_len, Nat.mul_one] at hlen
  cases ts with
  | nil =>
    have : n = 0 := by simpa using hlen.symm
    subst this
    go_enter Tryd.func21, Tryd.ntmps21
    go_wp2
    go_ret
    exact ⟨rfl, rfl⟩
  | cons t ts =>
    obtain ⟨b, o, rfl, hlt, hcell⟩ := hA (by rw [← hlen]; simp)
    have h0 := hcell 0 (.string (str t)) rfl
    rw [Nat.add_zero] at h0
    have hn0 : 0 < n := by rw [← hlen]; simp
    clear hcell hlen hA hlt
    have H := Lib.hid (pre_any t w)
    have e1 : syS (t :: ts) = !hasPrefix t [35] := rfl
    rw [e1]
    generalize hasPrefix t [35] = B at *
    generalize str t = S at *
    have hn1 : decide (0 < (n : Int)) = true := by simp; omega
    go_enter Tryd.func21, Tryd.ntmps21
    go_wp2_with (go_at_call 39; refine H.out.mono ?_; rintro e w' ⟨rfl, rfl⟩)
    go_ret
    exact ⟨rfl, rfl⟩

set_option maxHeartbeats 1000000 in
theorem number_any (t : List UInt8) (w : World) (ht : t.length ≤ 9223372036854775807) :
    Calls Tryd.prog 73 #[.string (str t)] w fun e w' => e = .returned (.tuple #[.int .i64 (nmV t), .bool (nmO t)]) ∧ w = w' := by
  have H := cut_any t w
  have hlong := @nm_long t
  have hbad := @nm_bad t
  have hgood := @nm_good t
  have hlen : (trimPrefix t [45]).length ≤ t.length := by unfold trimPrefix; split <;> simp
  generalize hV : nmV t = V at *
  generalize hO : nmO t = O at *
  generalize hB : hasPrefix t [45] = B at *
  generalize hL : trimPrefix t [45] = L at *
  obtain ⟨D, hD⟩ : ∃ D, str L = D := ⟨_, rfl⟩
  have hDL : D.data.toList = L := by rw [← hD, str_list]
  have hDs : D.size = L.length := by rw [← hD, str_size]
  rw [hD] at H
  generalize hT : str t = T at *
  have H := Lib.hid H
  have HLO := Lib.hid hlong; have HBA := Lib.hid hbad; have HGO := Lib.hid (show ∀ n : Nat, _ from fun n => @hgood n); have HD := Lib.hid hD; have HDL := Lib.hid hDL; have HDs := Lib.hid hDs
  have hsz : D.size ≤ 9223372036854775807 := by omega
  clear hlong hbad hgood hV hO hB hL hD hDL hT hlen
  by_cases h1 : D.size < 1
  · obtain ⟨rfl, rfl⟩ := HLO.out (.inl (by rw [← HDs.out]; exact h1))
    have : D.size = 0 := by omega
    clear hDs h1 hsz
    go_enter Tryd.func73, Tryd.ntmps73
    go_wp2_with (go_at_call 82; refine H.out.mono ?_; rintro e w' ⟨rfl, rfl⟩)
    go_ret2
    exact ⟨rfl, rfl⟩
  by_cases h6 : 6 < D.size
  · obtain ⟨rfl, rfl⟩ := HLO.out (.inr (by rw [← HDs.out]; exact h6))
    clear hDs
    go_enter Tryd.func73, Tryd.ntmps73
    go_wp2_with (go_at_call 82; refine H.out.mono ?_; rintro e w' ⟨rfl, rfl⟩)
    go_ret2
    exact ⟨rfl, rfl⟩
  clear hDs
  have h1' : 1 ≤ D.size := by omega
  have h6' : D.size ≤ 6 := by omega
  clear h1 h6 hsz
  go_enter Tryd.func73, Tryd.ntmps73
  go_wp2_with (go_at_call 82; refine H.out.mono ?_; rintro e w' ⟨rfl, rfl⟩)
  go_loopw [6, 7, 23] (fun x _ i wr => ∃ (k m : Nat), k ≤ D.size ∧ x = .int .i64 m ∧ i = .int .i64 k ∧ Hid (dgs 0 (L.take k) = some m) ∧ w = wr) (fun _ _ i _ => D.size - (intOf i).toNat)
  case atStart => exact ⟨0, 0, by omega, rfl, rfl, Lib.hid rfl, rfl⟩
  case round =>
    obtain ⟨k, m, hk, rfl, rfl, HM, rfl⟩ := hrel
    by_cases hlt : k < D.size
    · have hc := (D[k]).toNat_lt
      have hcl : L.getD k 0 = D[k] := by
        have := data_getElem? D k hlt
        rw [HDL.out] at this
        simp [List.getD, this]
      have hkL : k < L.length := by rw [← HDs.out]; exact hlt
      have hm := dgs_small L k m (by omega) HM.out
      have HC := Lib.hid hcl; have HK := Lib.hid hkL
      clear hcl hkL
      by_cases hb : (D[k]).toNat < 48 ∨ 57 < (D[k]).toNat
      · obtain ⟨rfl, rfl⟩ := HBA.out (dgs_bad L k m HK.out HM.out (by rw [HC.out]; exact hb))
        rcases hb with hb | hb
        · go_wp2
          go_ret2
          exact ⟨rfl, rfl⟩
        · have hb2 : ¬ (((D[k]).toNat : Int) < 48) := by omega
          go_wp2
          go_ret2
          exact ⟨rfl, rfl⟩
      · have hn := dgs_more L k m HK.out HM.out (by rw [HC.out]; exact hb)
        rw [HC.out] at hn
        have HN := Lib.hid hn
        have hb1 : 48 ≤ (D[k]).toNat := by omega
        have hb2 : (D[k]).toNat ≤ 57 := by omega
        clear hn hb
        go_wp2
        go_roundw
        case rel => exact ⟨k + 1, 10 * m + ((D[k]).toNat - 48), by omega, by go_num, by go_num, HN, trivial⟩
        case measure => simp [intOf]; omega
    · have hkD : k = D.size := by omega
      have hm : dgs 0 L = some m := by
        have := HM.out
        rwa [List.take_of_length_le (by rw [← HDs.out]; omega)] at this
      obtain ⟨hv, ho⟩ := HGO.out m (by rw [← HDs.out]; exact h1') (by rw [← HDs.out]; exact h6') hm
      have hms := dgs_small6 L m (by rw [← HDs.out]; exact h6') hm
      subst hv ho
      clear hm
      cases B
      · go_wp2
        go_ret2
        exact ⟨rfl, rfl⟩
      · go_wp2
        go_ret2
        exact ⟨rfl, rfl⟩

end Go.Proofs.YtobpggpjboonfaaDoor
