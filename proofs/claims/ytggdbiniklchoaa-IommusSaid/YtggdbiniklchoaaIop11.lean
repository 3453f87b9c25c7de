/-
  Contracts of package iommu: mayBe.
-/
import Derived.Test.YtggdbiniklchoaaIopC
namespace Go.Proofs.Ytggdbiniklchoaa
open Go.RowKit
set_option linter.unusedVariables false
set_option maxRecDepth 100000

/-! ### may these be pools? -/
def PoolsOk (M : Int) (ps : List (List Int)) : Prop := (1 ≤ ps.length ∧ ps.length ≤ 4) ∧ (∀ p ∈ ps, 2 ≤ p.length ∧ p.length ≤ 5) ∧ ps.flatten.Nodup ∧ ∀ f ∈ ps.flatten, 0 ≤ f ∧ f < M
instance (M : Int) (ps : List (List Int)) : Decidable (PoolsOk M ps) := by unfold PoolsOk; infer_instance
def okP (M : Int) (ps : List (List Int)) : Bool := decide (PoolsOk M ps)
/-- The frames ahead of the j-th of the i-th pool. -/
def preL (ps : List (List Int)) (i j : Nat) : List Int := (ps.take i).flatten ++ (ps.getD i []).take j
theorem preL_zero (ps : List (List Int)) : preL ps 0 0 = [] := by simp [preL]
theorem preL_next (ps : List (List Int)) (i : Nat) (h : i < ps.length) : preL ps (i + 1) 0 = preL ps i (ps.getD i []).length := by
  unfold preL
  rw [List.take_add_one, List.getElem?_eq_getElem h, List.flatten_append, List.take_zero, List.take_length, List.getD, List.getElem?_eq_getElem h]
  simp only [Option.toList_some, List.flatten_cons, List.flatten_nil, List.append_nil, Option.getD_some]
theorem preL_step (ps : List (List Int)) (i j : Nat) (h : j < (ps.getD i []).length) : preL ps i (j + 1) = preL ps i j ++ [(ps.getD i []).getD j 0] := by
  unfold preL
  rw [List.take_add_one, List.getElem?_eq_getElem h, ← List.append_assoc]
  rw [show (ps.getD i []).getD j 0 = (ps.getD i [])[j] by rw [List.getD, List.getElem?_eq_getElem h]; rfl]
  rfl
theorem preL_all (ps : List (List Int)) : preL ps ps.length 0 = ps.flatten := by simp [preL]
theorem preL_rest (ps : List (List Int)) (i j : Nat) (h : i < ps.length) : ∃ rest, ps.flatten = preL ps i j ++ rest := by
  refine ⟨(ps.getD i []).drop j ++ (ps.drop (i + 1)).flatten, ?_⟩
  unfold preL
  rw [List.append_assoc, ← List.append_assoc (List.take j _), List.take_append_drop]
  conv => lhs; rw [← List.take_append_drop i ps]
  rw [List.flatten_append, List.drop_eq_getElem_cons h, List.flatten_cons]
  simp [List.getD, h]

/-- Those ahead are well. -/
def PreOk (M : Int) (ps : List (List Int)) (i j : Nat) : Prop := (∀ k, k < i → 2 ≤ (ps.getD k []).length ∧ (ps.getD k []).length ≤ 5) ∧ (preL ps i j).Nodup ∧ ∀ f ∈ preL ps i j, 0 ≤ f ∧ f < M
theorem PreOk.zero (M : Int) (ps : List (List Int)) : PreOk M ps 0 0 := by
  refine ⟨fun k h => by omega, ?_, ?_⟩
  · rw [preL_zero]; exact List.nodup_nil
  · rw [preL_zero]; intro f hf; cases hf
theorem PreOk.next {M : Int} {ps : List (List Int)} {i : Nat} (h : PreOk M ps i (ps.getD i []).length) (hi : i < ps.length) (hl : 2 ≤ (ps.getD i []).length ∧ (ps.getD i []).length ≤ 5) : PreOk M ps (i + 1) 0 := by
  refine ⟨fun k hk => ?_, by rw [preL_next ps i hi]; exact h.2.1, by rw [preL_next ps i hi]; exact h.2.2⟩
  rcases Nat.lt_or_ge k i with hk' | hk'
  · exact h.1 k hk'
  · obtain rfl : k = i := by omega
    exact hl
theorem PreOk.step {M : Int} {ps : List (List Int)} {i j : Nat} (h : PreOk M ps i j) (hj : j < (ps.getD i []).length) (h0 : 0 ≤ (ps.getD i []).getD j 0) (h1 : (ps.getD i []).getD j 0 < M) (hn : (preL ps i j).contains ((ps.getD i []).getD j 0) = false) : PreOk M ps i (j + 1) := by
  have hn' : (ps.getD i []).getD j 0 ∉ preL ps i j := by
    intro hm
    rw [List.contains_iff_mem.2 hm] at hn; cases hn
  refine ⟨h.1, ?_, ?_⟩
  · rw [preL_step ps i j hj, List.nodup_append]
    exact ⟨h.2.1, by simp, fun a ha b hb e => hn' (by rw [List.mem_singleton.1 hb] at e; rw [← e]; exact ha)⟩
  · rw [preL_step ps i j hj]
    intro f hf
    rcases List.mem_append.1 hf with hf | hf
    · exact h.2.2 f hf
    · rw [List.mem_singleton.1 hf]; exact ⟨h0, h1⟩
theorem PreOk.all {M : Int} {ps : List (List Int)} (h : PreOk M ps ps.length 0) (h1 : 1 ≤ ps.length) (h4 : ps.length ≤ 4) : okP M ps = true := by
  refine decide_eq_true ⟨⟨h1, h4⟩, fun p hp => ?_, by rw [← preL_all]; exact h.2.1, by rw [← preL_all]; exact h.2.2⟩
  obtain ⟨k, hk, rfl⟩ := List.getElem_of_mem hp
  have := h.1 k hk
  rw [List.getD, List.getElem?_eq_getElem hk] at this
  exact this
theorem bad_len {M : Int} {ps : List (List Int)} {i : Nat} (hi : i < ps.length) (hl : ¬ (2 ≤ (ps.getD i []).length ∧ (ps.getD i []).length ≤ 5)) : okP M ps = false := by
  refine decide_eq_false (fun h => hl ?_)
  have := h.2.1 (ps.getD i []) (by rw [List.getD, List.getElem?_eq_getElem hi]; exact List.getElem_mem hi)
  exact this
theorem bad_frame {M : Int} {ps : List (List Int)} {i j : Nat} (hi : i < ps.length) (hj : j < (ps.getD i []).length) (hl : ¬ (0 ≤ (ps.getD i []).getD j 0 ∧ (ps.getD i []).getD j 0 < M)) : okP M ps = false := by
  refine decide_eq_false (fun h => hl (h.2.2.2 _ ?_))
  obtain ⟨rest, hr⟩ := preL_rest ps i (j + 1) hi
  rw [hr, preL_step ps i j hj]
  simp
theorem bad_twice {M : Int} {ps : List (List Int)} {i j : Nat} (hi : i < ps.length) (hj : j < (ps.getD i []).length) (hl : (preL ps i j).contains ((ps.getD i []).getD j 0) = true) : okP M ps = false := by
  refine decide_eq_false (fun h => ?_)
  have hn := h.2.2.1
  obtain ⟨rest, hr⟩ := preL_rest ps i (j + 1) hi
  rw [hr, preL_step ps i j hj] at hn
  have h1 := (List.nodup_append.1 hn).1
  exact (List.nodup_append.1 h1).2.2 _ (List.contains_iff_mem.1 hl) _ (by simp) rfl
theorem bad_count {M : Int} {ps : List (List Int)} (h : ¬ (1 ≤ ps.length ∧ ps.length ≤ 4)) : okP M ps = false := decide_eq_false (fun e => h e.1)

theorem cell_lt {w : World} {b o : Nat} {u : Value} (h : w.cell? ⟨b, o, none⟩ = some u) : b < w.heap.size := by
  rcases Nat.lt_or_ge b w.heap.size with hb | hb
  · exact hb
  · simp [World.cell?, Array.getElem?_eq_none hb] at h

/-- A round: the row of what is taken. -/
structure Mb (w0 : World) (h : Nat) (us : List Int) (w : World) : Prop where
  led : Blk w h 95 (bls (ledL us))
  b : Below w0.heap.size w0 w
  wh : w0.heap.size ≤ h
theorem Mb.set {w0 w : World} {h : Nat} {us : List Int} (e : Mb w0 h us w) (f : Nat) (hf : f < 64) : Mb w0 h (us ++ [(f : Int)]) (w.setCell ⟨h, f, none⟩ (.bool true)) := by
  refine ⟨?_, e.b.setCell (p := ⟨h, f, none⟩) e.wh _, e.wh⟩
  rw [← ledL_set us f hf]
  exact e.led.set f _
theorem Mb.drewN {w0 w : World} {h : Nat} {us : List Int} (e : Mb w0 h us w) (n : Nat) : Mb w0 h us (w.drewN n) := ⟨e.led.drewN n, bdrewN e.b n, e.wh⟩

set_option maxHeartbeats 4000000 in
theorem mayBe_any (B : Nat) (v : Value) (ps : List (List Int)) (m : Nat) (w : World) (h : PL w B v ps) (hm : m ≤ 64) :
    Calls Try.prog 23 #[v, .int .i64 m] w fun e w' => e = .returned (.bool (okP m ps)) ∧ Below w.heap.size w w' := by
  have hrow := fun i hi => h.row i hi
  obtain ⟨A, cap, hv, hcap⟩ : ∃ A cap, v = .slice A ps.length cap ∧ ps.length ≤ cap := by
    obtain ⟨vs, ⟨_, ⟨rfl, hn⟩ | ⟨b, cap, cur, rfl, _, _, hnc, _⟩⟩, _⟩ := h
    · exact ⟨none, 0, by rw [hn], by omega⟩
    · exact ⟨_, cap, rfl, hnc⟩
  subst hv
  have hbc := @bad_count m ps
  have hmb : Mb w w.heap.size (preL ps 0 0) (w.alloc (.cells zLed 95)) := ⟨by
    have := Blk.new w 95 (bls noLed)
    rw [preL_zero, ← noLed_eq]
    exact this, (Below.refl _ _).alloc (Nat.le_refl _) _, Nat.le_refl _⟩
  have hz := zLed_run
  have hne := zLed_ne
  generalize hN : ps.length = N at *
  have HN := Lib.hid hN; have HROW := Lib.hid hrow; have HBC := Lib.hid hbc
  clear hN hrow h hbc
  by_cases hn1 : N < 1
  · clear hmb hz hne
    go_enter Try.func23, Try.ntmps23
    go_wp2_with fail
    go_ret
    exact ⟨by rw [HBC.out (by omega)]; rfl, Below.refl _ _⟩
  · have d1 : decide ((N : Int) < 1) = false := decide_eq_false (by omega)
    by_cases hn4 : 4 < N
    · have d2 : decide ((4 : Int) < N) = true := decide_eq_true (by omega)
      clear hmb hz hne
      go_enter Try.func23, Try.ntmps23
      go_wp2_with fail
      go_ret
      exact ⟨by rw [HBC.out (by omega)]; rfl, Below.refl _ _⟩
    · have d2 : decide ((4 : Int) < N) = false := decide_eq_false (by omega)
      obtain ⟨b0, cap0, _, hA, _, _⟩ := HROW.out 0 (by omega)
      have hA' : A = some ⟨b0, 0, none⟩ := by injection hA
      subst hA'
      clear hA
      go_enter Try.func23, Try.ntmps23
      go_wp2_with fail
      generalize w.alloc (.cells zLed 95) = w1 at *
      generalize hh : w.heap.size = h at hmb
      have HH := Lib.hid hh; clear hh hz hne
      go_loopw [20] (fun s wq => ∃ (i : Nat), i ≤ N ∧ s = .int .i64 i ∧ Mb w h (preL ps i 0) wq ∧ Hid (PreOk m ps i 0)) (fun s _ => N - (intOf s).toNat)
      case atStart => exact ⟨0, by omega, rfl, hmb, Lib.hid (PreOk.zero m ps)⟩
      case round =>
        clear hmb
        obtain ⟨i, hi, rfl, hmb, HPR⟩ := hrel
        by_cases hlt : i < N
        · obtain ⟨b1, cap1, u, hv, hcell, hown⟩ := HROW.out i hlt
          have hb1 : b1 = b0 := by injection hv with hv; injection hv with hv; injection hv with hv; exact hv.symm
          subst hb1
          have hbl : b1 < w.heap.size := cell_lt hcell
          have hcu := (hmb.b.cell (p := ⟨b1, i, none⟩) hbl).trans hcell
          obtain ⟨A2, cap2, rfl, hc2, _, hA2⟩ := own_open hown
          have HBL := Lib.hid (fun hl => bad_len (M := m) (ps := ps) (i := i) (by rw [HN.out]; exact hlt) hl)
          have HBF := Lib.hid (fun j hj hl => bad_frame (M := m) (ps := ps) (i := i) (j := j) (by rw [HN.out]; exact hlt) hj hl)
          have HBT := Lib.hid (fun j hj hl => bad_twice (M := m) (ps := ps) (i := i) (j := j) (by rw [HN.out]; exact hlt) hj hl)
          have HST := Lib.hid (fun j hj => preL_step ps i j hj)
          have HNX := Lib.hid (preL_next ps i (by rw [HN.out]; exact hlt))
          have HPS := Lib.hid (fun j (h : PreOk m ps i j) hj => h.step hj)
          have HPN := Lib.hid (fun (h : PreOk m ps i (ps.getD i []).length) => h.next (by rw [HN.out]; exact hlt))
          have HA2 := Lib.hid hA2
          generalize ps.getD i [] = pl at *
          clear hA2 hown hcell hv
          have hpl : pl.length = pl.length := rfl
          generalize hn : pl.length = n at hcu HBL HBF HBT HST HNX HPS HPN HA2 hc2
          have HNL := Lib.hid hn
          clear hpl hn
          by_cases hl1 : n < 2
          · have HBX := Lib.hid (HBL.out (by omega))
            go_wp2_with fail
            go_ret
            exact ⟨by rw [HBX.out]; rfl, hmb.b⟩
          · by_cases hl2 : 5 < n
            · have d3 : decide ((n : Int) < 2) = false := decide_eq_false (by omega)
              have HBX := Lib.hid (HBL.out (by omega))
              go_wp2_with fail
              go_ret
              exact ⟨by rw [HBX.out]; rfl, hmb.b⟩
            · have d3 : decide ((n : Int) < 2) = false := decide_eq_false (by omega)
              have d4 : decide ((5 : Int) < n) = false := decide_eq_false (by omega)
              obtain ⟨b2, cs2, hAA, _, hb2, hcell2⟩ := HA2.out (by omega)
              subst hAA
              have HC2 := Lib.hid hcell2; have HB2 := Lib.hid hb2
              clear hcell2 hb2
              go_wp2_with fail
              go_loopw [34] (fun s wq => ∃ (j : Nat), j ≤ n ∧ s = .int .i64 j ∧ Mb w h (preL ps i j) wq ∧ Hid (PreOk m ps i j)) (fun s _ => n - (intOf s).toNat)
              case atStart => exact ⟨0, by omega, rfl, hmb, HPR⟩
              case round =>
                clear hmb HPR hcu
                obtain ⟨j, hj, rfl, hmb, HPR⟩ := hrel
                by_cases hlj : j < n
                · have hc := ((HB2.out.below hmb.b HB2.out.lt).cell j).trans (HC2.out j hlj)
                  have HBFj := Lib.hid (HBF.out j hlj); have HBTj := Lib.hid (HBT.out j hlj); have HSTj := Lib.hid (HST.out j hlj); have HPSj := Lib.hid (HPS.out j HPR.out hlj)
                  generalize pl.getD j 0 = f at *
                  by_cases hf0 : f < 0
                  · have HBX := Lib.hid (HBFj.out (by omega))
                    go_wp2_with fail
                    go_ret
                    exact ⟨by rw [HBX.out]; rfl, hmb.b⟩
                  · have e1 : decide (f < 0) = false := decide_eq_false hf0
                    by_cases hfm : (m : Int) ≤ f
                    · have e2 : decide ((m : Int) ≤ f) = true := decide_eq_true hfm
                      have HBX := Lib.hid (HBFj.out (by omega))
                      go_wp2_with fail
                      go_ret
                      exact ⟨by rw [HBX.out]; rfl, hmb.b⟩
                    · have e2 : decide ((m : Int) ≤ f) = false := decide_eq_false hfm
                      obtain ⟨F, rfl⟩ := Int.eq_ofNat_of_zero_le (by omega : 0 ≤ f)
                      have hF64 : F < 64 := by omega
                      have hcl := hmb.led.bool (f := F) hF64
                      have hfz := hmb.led.frozen F
                      have hll := hmb.led.lt
                      cases hcon : (preL ps i j).contains (F : Int) with
                      | true =>
                        have HBX := Lib.hid (HBTj.out hcon)
                        rw [hcon] at hcl
                        clear hcon
                        go_wp2_with fail
                        go_ret
                        exact ⟨by rw [HBX.out]; rfl, hmb.b⟩
                      | false =>
                        have HP2 := Lib.hid (HPSj.out (by omega) (by omega) hcon)
                        rw [hcon] at hcl
                        clear hcon
                        go_wp2_with fail
                        go_roundw
                        case rel => exact ⟨j + 1, by omega, by go_num, by rw [HSTj.out]; exact hmb.set F hF64, HP2⟩
                        case measure => simp [intOf]; omega
                · obtain rfl : j = n := by omega
                  have HP2 := Lib.hid (HPN.out HPR.out (by omega))
                  clear HPR
                  go_wp2_with fail
                  go_roundw
                  case rel => exact ⟨i + 1, by omega, by go_num, by rw [HNX.out]; exact hmb, HP2⟩
                  case measure => simp [intOf]; omega
        · obtain rfl : i = N := by omega
          have hall : okP m ps = true := by
            have := HPR.out
            rw [← HN.out] at this
            exact this.all (by rw [HN.out]; omega) (by rw [HN.out]; omega)
          have HBX := Lib.hid hall
          clear hall
          go_wp2_with fail
          go_ret
          exact ⟨by rw [HBX.out]; rfl, hmb.b⟩

end Go.Proofs.Ytggdbiniklchoaa
