/-
  The document's side of the console: tell, splits.
-/
import Derived.Test.YtobpggpjboonfaaDoorCnE
import Derived.Deep.RegionLaw
import Derived.Deep.AppendLies
import Derived.Deep.DrawnRows
namespace Go.Proofs.YtobpggpjboonfaaDoor
open Go.RowKit Go.Lib
set_option linter.unusedVariables false
set_option linter.unusedSimpArgs false
set_option maxRecDepth 100000

theorem tlS_app2 (a b : List (List UInt8)) : tlS (a ++ b) = tlS a ++ tlS b := by
  induction a with
  | nil => rfl
  | cons t a ih => simp [tlS, ih]
theorem rwS_snoc (ys : List Int) (x : Int) : rwS (ys ++ [x]) = if ys = [] then dcm x else (rwS ys ++ [32]) ++ dcm x := by
  cases ys with
  | nil => simp [rwS, jnS, tlS]
  | cons y ys => simp [rwS, jnS, tlS_app2, tlS]

set_option maxHeartbeats 2000000 in
theorem dtell_any (e : Int) (v : Value) (n : Nat) (xs : List Int) (w : World) (he0 : 0 ≤ e) (he1 : e ≤ 5000) (hs : Sl w v n 1 (ints xs)) (hn : n ≤ 1000) (hx : ∀ x ∈ xs, 0 ≤ x ∧ x < 1000000000) :
    Calls Tryd.prog 29 #[.int .i64 e, v] w fun e' w' => e' = .returned (.string (str (otS (rwS xs, e)))) ∧ Below w.heap.size w w' := by
  obtain ⟨A, cap, rfl, hc, hlen, hA⟩ := hs
  rw [ints_len, Nat.mul_one] at hlen
  by_cases h0 : e = 0
  · subst h0
    have e1 : otS (rwS xs, 0) = rwS xs := rfl
    rw [e1]
    have HA := Lib.hid hA; have HL := Lib.hid hlen; have HX := Lib.hid hx
    clear hA hlen hx
    go_enter Tryd.func29, Tryd.ntmps29
    go_wp2_with fail
    go_loopw [5, 6] (fun s i wr => ∃ (k : Nat) (V : ByteArray), k ≤ n ∧ s = .string V ∧ i = .int .i64 k ∧ Hid (str (rwS (xs.take k)) = V ∧ Below w.heap.size w wr)) (fun _ i _ => n - (RowKit.intOf i).toNat)
    case atStart => exact ⟨0, ⟨#[]⟩, by omega, rfl, rfl, Lib.hid ⟨rfl, Below.refl _ _⟩⟩
    case round =>
      obtain ⟨k, V, hk, rfl, rfl, HQ⟩ := hrel
      by_cases hlt : k < n
      · obtain ⟨b, o, rfl, hb, hcell⟩ := HA.out (by omega)
        have hkl : k < xs.length := by rw [HL.out]; exact hlt
        have hc0 := (HQ.out.2.cell (p := ⟨b, o + k, none⟩) hb).trans (hcell k _ (ints_get xs k hkl))
        have hmem : xs.getD k 0 ∈ xs := by simp [List.getD, List.getElem?_eq_getElem hkl]
        have hxb := HX.out _ hmem
        have hsn : xs.take (k + 1) = xs.take k ++ [xs.getD k 0] := by rw [List.take_add_one]; simp [List.getD, List.getElem?_eq_getElem hkl]
        have hrw := rwS_snoc (xs.take k) (xs.getD k 0)
        rw [← hsn] at hrw
        have hl := rwS_len (xs.take k)
        rw [List.length_take] at hl
        have htk : (xs.take k = []) ↔ k = 0 := by
          constructor
          · intro h
            have := congrArg List.length h
            rw [List.length_take, List.length_nil] at this; omega
          · intro h; subst h; simp
        generalize xs.getD k 0 = x at *
        obtain ⟨u, rfl⟩ := Int.eq_ofNat_of_zero_le hxb.1
        have hdl := dcm_len (u : Int)
        obtain ⟨D, hD⟩ : ∃ D, str (dcm (u : Int)) = D := ⟨_, rfl⟩
        have HDC : Hid (∀ w, Calls Tryd.prog 16 #[.int .i64 (u : Int)] w fun e w' => e = .returned (.string D) ∧ Below w.heap.size w w') := Lib.hid (fun w => by
          have := dcm_any u w (by omega)
          rw [hD] at this; exact this)
        have HB := Lib.hid HQ.out.2
        have hV := HQ.out.1
        by_cases hk0 : k = 0
        · subst hk0
          rw [if_pos (by simp)] at hrw
          rw [Nat.add_zero] at hc0
          have hV0 : V = ⟨#[]⟩ := hV.symm
          subst hV0
          have a0 : ∀ wx, (Op.stringOp .add ⟨#[]⟩ D).run Tryd.prog wx = .ok (.string D) wx := fun wx => by
            have := add_eq [] (dcm (u : Int)) D ⟨#[]⟩ D rfl hD (by rw [List.nil_append]; exact hD) (by simp only [List.length_nil]; omega) wx
            exact this
          have HN : Hid (str (rwS (xs.take (0 + 1))) = D) := Lib.hid (by rw [hrw]; exact hD)
          clear hrw hsn htk hl hD hV HQ hcell hmem hxb
          go_wp2_with (go_at_call 16; refine (HDC.out _).mono ?_; rintro e w2 ⟨rfl, b2⟩; have B2 := Lib.hid (HB.out.trans (b2.mono HB.out.size)); clear b2)
          go_roundw
          case rel => exact ⟨1, D, by omega, rfl, by go_num, Lib.hid ⟨HN.out, B2.out⟩⟩
          case measure => simp [RowKit.intOf]; omega
        · rw [if_neg (fun h => hk0 (htk.1 h))] at hrw
          obtain ⟨V1, hV1⟩ : ∃ Z, str (rwS (xs.take k) ++ [32]) = Z := ⟨_, rfl⟩
          obtain ⟨V2, hV2⟩ : ∃ Z, str ((rwS (xs.take k) ++ [32]) ++ dcm (u : Int)) = Z := ⟨_, rfl⟩
          have a1 : ∀ wx, (Op.stringOp .add V ⟨#[32]⟩).run Tryd.prog wx = .ok (.string V1) wx := add_eq (rwS (xs.take k)) [32] V1 V ⟨#[32]⟩ hV rfl hV1 (by simp only [List.length_cons, List.length_nil]; omega)
          have a2 : ∀ wx, (Op.stringOp .add V1 D).run Tryd.prog wx = .ok (.string V2) wx := add_eq (rwS (xs.take k) ++ [32]) (dcm (u : Int)) V2 V1 D hV1 hD hV2 (by simp only [List.length_append, List.length_cons, List.length_nil]; omega)
          have HN : Hid (str (rwS (xs.take (k + 1))) = V2) := Lib.hid (by rw [hrw]; exact hV2)
          have hk1 : 0 < k := by omega
          clear hrw hsn htk hl hD hV hV1 hV2 HQ hcell hmem hxb
          go_wp2_with (go_at_call 16; refine (HDC.out _).mono ?_; rintro e w2 ⟨rfl, b2⟩; have B2 := Lib.hid (HB.out.trans (b2.mono HB.out.size)); clear b2)
          go_roundw
          case rel => exact ⟨k + 1, V2, by omega, rfl, by go_num, Lib.hid ⟨HN.out, B2.out⟩⟩
          case measure => simp [RowKit.intOf]; omega
      · have hkn : k = n := by omega
        subst hkn
        have hall : xs.take k = xs := List.take_of_length_le (by rw [HL.out]; exact Nat.le_refl _)
        go_wp2_with fail
        go_ret
        refine ⟨?_, HQ.out.2⟩
        show Ending.returned (Value.string V) = _
        rw [← HQ.out.1, hall]
  · have e1 : otS (rwS xs, e) = erS e := by unfold otS; rw [if_neg h0]
    rw [e1]
    have hc0 : (e != 0) = true := by simpa using h0
    obtain ⟨u, rfl⟩ := Int.eq_ofNat_of_zero_le he0
    have hdl := dcm_len (u : Int)
    obtain ⟨D, hD⟩ : ∃ D, str (dcm (u : Int)) = D := ⟨_, rfl⟩
    have HDC : Hid (∀ w, Calls Tryd.prog 16 #[.int .i64 (u : Int)] w fun e w' => e = .returned (.string D) ∧ Below w.heap.size w w') := Lib.hid (fun w => by
      have := dcm_any u w (by omega)
      rw [hD] at this; exact this)
    obtain ⟨R, hR⟩ : ∃ R, str (erS (u : Int)) = R := ⟨_, rfl⟩
    have a1 : ∀ wx, (Op.stringOp .add ⟨#[101, 114, 114, 111, 114, 32]⟩ D).run Tryd.prog wx = .ok (.string R) wx := add_eq [101, 114, 114, 111, 114, 32] (dcm (u : Int)) R _ D rfl hD hR (by simp only [List.length_cons, List.length_nil]; omega)
    have HR := Lib.hid hR
    clear hD hR h0 hA hx
    go_enter Tryd.func29, Tryd.ntmps29
    go_wp2_with (go_at_call 16; refine (HDC.out _).mono ?_; rintro e w2 ⟨rfl, b2⟩)
    go_ret
    refine ⟨?_, b2⟩
    show Ending.returned (Value.string R) = _
    rw [← HR.out]

/-- Numbers that a list's pieces are. -/
theorem fnS_nat (L : List (Nat × Nat × Nat)) (h : ∀ p ∈ L, p.1 ≤ 4096 ∧ p.2.1 ≤ 4096 ∧ p.2.2 ≤ 4096) : ∀ x ∈ fnS L, 0 ≤ x ∧ x < 1000000000 := by
  intro x hx
  obtain ⟨p, hp, hx⟩ := List.mem_flatMap.1 hx
  have := h p hp
  simp only [List.mem_cons, List.not_mem_nil, or_false] at hx
  rcases hx with rfl | rfl | rfl <;> omega

set_option maxHeartbeats 1000000 in
theorem dsplits_no (a n : Int) (w : World) (h : spB a n = false) :
    Calls Tryd.prog 27 #[.int .i64 a, .int .i64 n] w fun e w' => e = .returned (.string (str (otS (spS a n)))) ∧ Below w.heap.size w w' := by
  have hP := Lib.hid (rsplit_no a n w (of_decide_eq_false h))
  have hE : spS a n = ([], 100) := by unfold spS; rw [h]; rfl
  rw [hE]
  have HT := Lib.hid (fun w => dtell_any 100 (.slice none 0 0) 0 [] w (by omega) (by omega) ⟨none, 0, rfl, by omega, rfl, fun h => by omega⟩ (by omega) (by simp))
  have e1 : otS (rwS [], 100) = otS ([], 100) := rfl
  rw [e1] at HT
  clear h
  go_enter Tryd.func27, Tryd.ntmps27
  go_wp2_with (go_at_call 43; refine hP.out.mono ?_; rintro e w1 ⟨rfl, rfl⟩)
  go_loopw [7, 8] (fun x i wr => x = .slice none 0 0 ∧ i = .int .i64 0 ∧ w = wr) (fun _ _ _ => 0)
  case atStart => exact ⟨rfl, rfl, rfl⟩
  case round =>
    obtain ⟨rfl, rfl, rfl⟩ := hrel
    go_wp2_with (go_at_call 29; refine (HT.out _).mono ?_; rintro e w2 ⟨rfl, b2⟩)
    go_ret
    exact ⟨rfl, b2⟩

set_option maxHeartbeats 2000000 in
theorem dsplits_yes (a n : Int) (w : World) (h : spB a n = true) :
    Calls Tryd.prog 27 #[.int .i64 a, .int .i64 n] w fun e w' => e = .returned (.string (str (otS (spS a n)))) ∧ Below w.heap.size w w' := by
  have hh := of_decide_eq_true h
  have hP := Lib.hid (rsplit_yes a n w hh.1 hh.2.1 (by omega))
  have hE : spS a n = (rwS (fnS (spl a.toNat n.toNat)), 0) := by unfold spS; rw [h]; rfl
  rw [hE]
  have hsm := Lib.hid (fnS_nat _ (spl_small n.toNat a.toNat (by omega)))
  have hfew : (spl a.toNat n.toNat).length ≤ 200 := by
    have h1 := spl_few n.toNat a.toNat
    omega
  clear h hh hE
  obtain ⟨i0, hi, hz0, hz1, hz2⟩ := info_parts infoInt
  have HI := Lib.hid hi; have HZ0 := Lib.hid hz0; have HZ1 := Lib.hid hz1; have HZ2 := Lib.hid hz2
  clear hi hz0 hz1 hz2
  generalize spl a.toNat n.toNat = L at *
  obtain ⟨m, hm⟩ : ∃ m, L.length = m := ⟨_, rfl⟩
  rw [hm] at hfew
  have HM := Lib.hid hm
  clear hm
  go_enter Tryd.func27, Tryd.ntmps27
  go_wp2_with fail
  refine hP.out.mono ?_
  rintro e w1 ⟨v, rfl, ho, hb⟩
  have B1 := Lib.hid hb
  have O1 : Hid (w1.ownsRow w.heap.size 87 3 v m (flat L)) := Lib.hid (HM.out ▸ ho)
  clear ho hb
  obtain ⟨pA, pc, hv, _, _, _⟩ := Sl.own O1.out
  subst hv
  go_wp2_with fail
  go_loopw [7, 8] (fun x i wr => ∃ (k : Nat) (x' : Value), k ≤ m ∧ x' = x ∧ i = .int .i64 k ∧ Hid (wr.ownsRow w1.heap.size 3 1 x' (k * 3) (ints (fnS (L.take k))) ∧ Below w1.heap.size w1 wr)) (fun _ i _ => m - (RowKit.intOf i).toNat)
  case atStart => exact ⟨0, _, by omega, rfl, rfl, Lib.hid ⟨World.ownsRow_nil _ _ _ _, Below.refl _ _⟩⟩
  case round =>
    obtain ⟨k, x', hk, rfl, rfl, HR⟩ := hrel
    by_cases hkm : k < m
    · have hor := own_below O1.out HR.out.2
      obtain ⟨pb, rfl, hpb, p0, p1, p2⟩ := cpiece_row hor HM.out hkm
      have HS := Lib.hid (fnS_snoc L k (by rw [HM.out]; exact hkm))
      clear hor
      generalize hx0 : (((L.getD k (0, 0, 0)).1 : Nat) : Int) = X at *
      generalize hx1 : (((L.getD k (0, 0, 0)).2.1 : Nat) : Int) = Y at *
      generalize hx2 : (((L.getD k (0, 0, 0)).2.2 : Nat) : Int) = Z at *
      clear hx0 hx1 hx2
      have HOW := Lib.hid HR.out.1
      have hsz := HR.out.2.size
      have hr0 := HR.out.2
      have HFR : Hid (∀ (g cap2 : Nat) (w2 : World), w2.ownsRow w1.heap.size 3 1 (.slice (some ⟨g, 0, none⟩) (k * 3 + 3) cap2) (k * 3 + 3) (ints (fnS (L.take k)) ++ [.int .i64 X, .int .i64 Y, .int .i64 Z]) → ((wr.alloc (.cells #[.int .i64 X, .int .i64 Y, .int .i64 Z] 3)).drewN 1).grownBy w2 x'.ownBlock →
          w2.ownsRow w1.heap.size 3 1 (.slice (some ⟨g, 0, none⟩) (k * 3 + 3) cap2) ((k + 1) * 3) (ints (fnS (L.take (k + 1)))) ∧ Below w1.heap.size w1 w2) := Lib.hid (fun g cap2 w2 h1 h2 =>
        ⟨by rw [HS.out, ints_append, show (k + 1) * 3 = k * 3 + 3 by omega]; exact h1, (bdrewN (hr0.alloc hsz _) 1).grown h2 (by show w1.heap.size ≤ (wr.alloc _).heap.size; simp; omega) (fun i hi => (HOW.out.lt i hi).1)⟩)
      obtain ⟨xA, xc, hxv, _, _, _⟩ := Sl.own HOW.out
      subst hxv
      clear hr0 HS HR
      go_wp2_with fail
      go_region_law ((refine step_append_lies _ (by rfl) _ _ 33 (by rfl) w1.heap.size 3 i0 _ 1 8 Tryd.underlying33 HI.out HZ0.out HZ1.out HZ2.out (by rfl) (by decide) (.slice xA (k * 3) xc) (k * 3) (ints (fnS (L.take k))) (by rfl) (own_drewN (HOW.out.alloc _) 1) ⟨wr.heap.size, 0, none⟩ 3 3 [.int .i64 X, .int .i64 Y, .int .i64 Z] (by rfl) (by rfl) (by exact row_new wr [.int .i64 X, .int .i64 Y, .int .i64 Z] _) (pv_one _ _ _) (by omega) (by unfold maxLen; omega) (by omega) (by simp; omega) (wr.heap.size + 1) (by simp) ?_; intro g cap2 w2 own2 gr2 hat hlt2; have HF := Lib.hid (HFR.out g cap2 w2 own2 gr2); clear own2 gr2 hat))
      all_goals
        go_wp2_with fail
        go_roundw
        case rel => exact ⟨k + 1, _, by omega, rfl, by go_num, HF⟩
        case measure => simp [RowKit.intOf]; omega
    · have hkn : k = m := by omega
      subst hkn
      have hall : L.take k = L := List.take_of_length_le (by rw [HM.out]; exact Nat.le_refl _)
      have HRW := Lib.hid (dtell_any 0 x' (k * 3) (fnS L) wr (by omega) (by omega) (by have := Sl.own HR.out.1; rwa [hall] at this) (by omega) hsm.out)
      go_wp2_with (go_at_call 29; refine HRW.out.mono ?_; rintro e w2 ⟨rfl, hb2⟩)
      go_ret
      exact ⟨rfl, (B1.out.trans (HR.out.2.mono B1.out.size)).trans (hb2.mono (by have := B1.out.size; have := HR.out.2.size; omega))⟩

end Go.Proofs.YtobpggpjboonfaaDoor
