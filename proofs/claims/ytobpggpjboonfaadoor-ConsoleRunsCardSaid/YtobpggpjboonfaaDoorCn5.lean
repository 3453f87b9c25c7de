/-
  Contracts of package console: split.
-/
import Derived.Test.YtobpggpjboonfaaDoorCn4
namespace Go.Proofs.YtobpggpjboonfaaDoor
open Go.RowKit Go.Lib
set_option linter.unusedVariables false
set_option linter.unusedSimpArgs false
set_option maxRecDepth 100000

theorem cpiece_row {w : World} {B : Nat} {A : Option Addr} {n cap k : Nat} {P : List (Nat × Nat × Nat)} (h : w.ownsRow B 87 3 (.slice A n cap) n (flat P)) (hl : P.length = n) (hk : k < n) :
    ∃ b, A = some ⟨b, 0, none⟩ ∧ b < w.heap.size ∧ w.cell? ⟨b, k * 3, none⟩ = some (.int .i64 (P.getD k (0, 0, 0)).1) ∧ w.cell? ⟨b, k * 3 + 1, none⟩ = some (.int .i64 (P.getD k (0, 0, 0)).2.1) ∧ w.cell? ⟨b, k * 3 + 2, none⟩ = some (.int .i64 (P.getD k (0, 0, 0)).2.2) := by
  rcases h.2 with ⟨hv, hn⟩ | ⟨b, cap, cur, hv, _, hg, hnc, _, hsz, ht⟩
  · omega
  · injection hv with e1 e2 e3
    obtain ⟨p0, p1, p2⟩ := flat_get P k (by omega)
    have eP : P.getD k (0, 0, 0) = P[k]'(by omega) := by simp [List.getD, List.getElem?_eq_getElem (show k < P.length by omega)]
    have hcell : ∀ j, j < n * 3 → w.cell? ⟨b, j, none⟩ = (flat P)[j]? := by
      intro j hj
      rw [cell_of_row w b j cur _ (0, 0) hg, ← ht, List.getElem?_take, if_pos hj]
      simp
    have hlt : b < w.heap.size := by
      rcases Nat.lt_or_ge b w.heap.size with h | h
      · exact h
      · rw [Array.getElem?_eq_none h] at hg; cases hg
    rw [eP]
    exact ⟨b, e1, hlt, by rw [hcell _ (by omega), p0], by rw [hcell _ (by omega), p1], by rw [hcell _ (by omega), p2]⟩

theorem fnS_snoc (L : List (Nat × Nat × Nat)) (k : Nat) (hk : k < L.length) : fnS (L.take (k + 1)) = fnS (L.take k) ++ [((L.getD k (0, 0, 0)).1 : Int), ((L.getD k (0, 0, 0)).2.1 : Int), ((L.getD k (0, 0, 0)).2.2 : Int)] := by
  rw [List.take_add_one, fnS, List.flatMap_append, ← fnS]
  simp [List.getD, List.getElem?_eq_getElem hk]
theorem fnS_len (L : List (Nat × Nat × Nat)) : (fnS L).length = L.length * 3 := by
  induction L with
  | nil => rfl
  | cons p L ih => simp only [fnS, List.flatMap_cons, List.length_append, List.length_cons] at ih ⊢; rw [ih]; simp; omega
/-- Pieces within the memory have small numbers, and there are at most 65 of them. -/
theorem spl_small (n : Nat) : ∀ a, a + n ≤ 4096 → (∀ p ∈ spl a n, p.1 ≤ 4096 ∧ p.2.1 ≤ 4096 ∧ p.2.2 ≤ 4096) := by
  induction n using Nat.strongRecOn with
  | ind n ih =>
    intro a h p hp
    rcases Nat.eq_zero_or_pos n with h0 | h0
    · subst h0; simp [spl_zero] at hp
    · rw [spl_step a n h0] at hp
      rcases List.mem_cons.1 hp with rfl | hp
      · simp only; omega
      · exact ih _ (by omega) _ (by omega) p hp
theorem spl_few0 (n : Nat) : ∀ a, a % 64 = 0 → (spl a n).length ≤ (n + 63) / 64 := by
  induction n using Nat.strongRecOn with
  | ind n ih =>
    intro a ha
    rcases Nat.eq_zero_or_pos n with h0 | h0
    · subst h0; simp [spl_zero]
    · rw [spl_step a n h0, List.length_cons]
      rcases Nat.lt_or_ge 64 n with h | h
      · rw [show min n (64 - a % 64) = 64 by omega]
        have := ih (n - 64) (by omega) (a + 64) (by omega)
        omega
      · rw [show n - min n (64 - a % 64) = 0 by omega, spl_zero]
        simp; omega
theorem spl_few (n a : Nat) : (spl a n).length ≤ 1 + (n + 63) / 64 := by
  rcases Nat.eq_zero_or_pos n with h0 | h0
  · subst h0; simp [spl_zero]
  · rw [spl_step a n h0, List.length_cons]
    rcases Nat.lt_or_ge n (64 - a % 64) with h | h
    · rw [show n - min n (64 - a % 64) = 0 by omega, spl_zero]
      simp
    · rw [show min n (64 - a % 64) = 64 - a % 64 by omega]
      have := spl_few0 (n - (64 - a % 64)) (a + (64 - a % 64)) (by omega)
      omega
theorem fnS_small (L : List (Nat × Nat × Nat)) (h : ∀ p ∈ L, p.1 ≤ 4096 ∧ p.2.1 ≤ 4096 ∧ p.2.2 ≤ 4096) : ∀ x ∈ fnS L, -9223372036854775808 ≤ x ∧ x ≤ 9223372036854775807 := by
  intro x hx
  obtain ⟨p, hp, hx⟩ := List.mem_flatMap.1 hx
  have := h p hp
  simp only [List.mem_cons, List.not_mem_nil, or_false] at hx
  rcases hx with rfl | rfl | rfl <;> omega

set_option maxHeartbeats 1000000 in
theorem tsplit_no (v : Value) (a n : Int) (w : World) (hs : Sl w v 2 1 (ints [a, n])) (h : spB a n = false) :
    Calls Tryd.prog 33 #[v] w (TlA (spS a n) w) := by
  obtain ⟨A, cap, rfl, hc, _, hA⟩ := hs
  obtain ⟨b, o, rfl, hlt, hcell⟩ := hA (by omega)
  have c0 := hcell 0 _ rfl
  have c1 := hcell 1 _ rfl
  rw [Nat.add_zero] at c0
  have hP := Lib.hid (fun W => split_no a n W (of_decide_eq_false h))
  have hE : spS a n = ([], 100) := by unfold spS; rw [h]; rfl
  rw [hE]
  clear hcell hA h
  go_enter Tryd.func33, Tryd.ntmps33
  go_wp2_with fail
  go_region_with (go_at_call 47; refine (hP.out _).mono ?_; rintro e w1 ⟨rfl, rfl⟩)
  all_goals
    go_wp2_with fail
    go_ret2
    exact ⟨rfl, bdrewN (Below.refl _ _) 1⟩

set_option maxHeartbeats 2000000 in
theorem tsplit_yes (v : Value) (a n : Int) (w : World) (he : Env w) (hs : Sl w v 2 1 (ints [a, n])) (h : spB a n = true) :
    Calls Tryd.prog 33 #[v] w (TlA (spS a n) w) := by
  obtain ⟨A, cap, rfl, hc, _, hA⟩ := hs
  obtain ⟨b, o, rfl, hlt, hcell⟩ := hA (by omega)
  have c0 := hcell 0 _ rfl
  have c1 := hcell 1 _ rfl
  rw [Nat.add_zero] at c0
  have hh := of_decide_eq_true h
  have hP := Lib.hid (fun W => split_yes a n W hh.1 hh.2.1 (by omega))
  have hE : spS a n = (rwS (fnS (spl a.toNat n.toNat)), 0) := by unfold spS; rw [h]; rfl
  rw [hE]
  have hsm := Lib.hid (fnS_small _ (spl_small n.toNat a.toNat (by omega)))
  have hfew : (spl a.toNat n.toNat).length ≤ 200 := by
    have h1 := spl_few n.toNat a.toNat
    omega
  have HE := Lib.hid he
  clear hcell hA h hh hE he
  obtain ⟨i0, hi, hz0, hz1, hz2⟩ := info_parts infoInt
  have HI := Lib.hid hi; have HZ0 := Lib.hid hz0; have HZ1 := Lib.hid hz1; have HZ2 := Lib.hid hz2
  clear hi hz0 hz1 hz2
  generalize spl a.toNat n.toNat = L at *
  obtain ⟨m, hm⟩ : ∃ m, L.length = m := ⟨_, rfl⟩
  rw [hm] at hfew
  have HM := Lib.hid hm
  clear hm
  go_enter Tryd.func33, Tryd.ntmps33
  go_wp2_with fail
  go_region_with (go_at_call 47; refine (hP.out _).mono ?_; rintro e w1 ⟨v, rfl, ho, hb⟩; have B1 := Lib.hid ((bdrewN (Below.refl w.heap.size w) 1).trans hb); have O1 := Lib.hid (HM.out ▸ ho); clear hb ho)
  all_goals
    obtain ⟨pA, pc, hv, _, _, _⟩ := Sl.own O1.out
    subst hv
    clear c0 c1
    change Hid (w1.ownsRow w.heap.size 87 3 _ m (flat L)) at O1
    go_wp2_with fail
    go_loopw [6, 8, 24] (fun x _ i wr => ∃ (k : Nat) (x' : Value), k ≤ m ∧ x' = x ∧ i = .int .i64 k ∧ Hid (wr.ownsRow w1.heap.size 3 1 x' (k * 3) (ints (fnS (L.take k))) ∧ Below w1.heap.size w1 wr)) (fun _ _ i _ => m - (intOf i).toNat)
    case atStart => exact ⟨0, _, by omega, rfl, rfl, Lib.hid ⟨World.ownsRow_nil _ _ _ _, Below.refl _ _⟩⟩
    case round =>
      obtain ⟨k, x', hk, rfl, rfl, HR⟩ := hrel
      by_cases hkm : k < m
      · have hor := own_below O1.out HR.out.2
        obtain ⟨pb, rfl, hpb, p0, p1, p2⟩ := cpiece_row hor HM.out hkm
        have HS := Lib.hid (fnS_snoc L k (by rw [HM.out]; exact hkm))
        clear hor
        generalize hx0 : (((L.getD k (0, 0, 0)).1 : Nat) : Int) = X at *
        generalize hx1 : (((L.getD k (0, 0, 0)).2.1 : Nat) : Int) = Y at *
        generalize hx2 : (((L.getD k (0, 0, 0)).2.2 : Nat) : Int) = Z at *
        clear hx0 hx1 hx2
        have HOW := Lib.hid HR.out.1
        have hsz := HR.out.2.size
        have t0 := Blk.new wr 87 [.int .i64 X, .int .i64 Y, .int .i64 Z]
        have q0 : (wr.alloc (.cells #[.int .i64 X, .int .i64 Y, .int .i64 Z] 87)).cell? ⟨wr.heap.size, 0, none⟩ = some (.int .i64 X) := t0.cell 0
        have q1 : (wr.alloc (.cells #[.int .i64 X, .int .i64 Y, .int .i64 Z] 87)).cell? ⟨wr.heap.size, 1, none⟩ = some (.int .i64 Y) := t0.cell 1
        have q2 : (wr.alloc (.cells #[.int .i64 X, .int .i64 Y, .int .i64 Z] 87)).cell? ⟨wr.heap.size, 2, none⟩ = some (.int .i64 Z) := t0.cell 2
        clear t0
        go_wp2_with (at_builtin; refine wpList_append_own _ rfl _ _ 33 rfl w1.heap.size 3 i0 _ 1 8 Tryd.underlying33 HI.out HZ0.out HZ1.out HZ2.out rfl (by decide) _ (k * 3) (ints (fnS (L.take k))) rfl ((HOW.out.alloc _).alloc _) ⟨wr.heap.size + 1, 0, none⟩ 3 3 [.int .i64 X, .int .i64 Y, .int .i64 Z] rfl rfl ?d2 ?d3 ?d4 ?d5 ?d6 ?_)
        case d2 => exact pv_new2 wr _ _ _ _ _
        case d3 => exact pv_one _ _ _
        case d4 => unfold maxLen; omega
        case d5 => omega
        case d6 => simp; omega
        intro v2 w2 hown2 hgrow _
        have HF : Hid (w2.ownsRow w1.heap.size 3 1 v2 ((k + 1) * 3) (ints (fnS (L.take (k + 1)))) ∧ Below w1.heap.size w1 w2) :=
          Lib.hid ⟨by rw [HS.out, ints_append, show (k + 1) * 3 = k * 3 + 3 by omega]; exact hown2, (((HR.out.2.alloc hsz _).alloc (by simp; omega) _)).grown hgrow (by simp; omega) (fun i hi => (HOW.out.lt i hi).1)⟩
        clear hown2 hgrow HOW HS q0 q1 q2 p0 p1 p2 HR
        go_wp2_with fail
        go_roundw
        case rel => exact ⟨k + 1, v2, by omega, rfl, by go_num, HF⟩
        case measure => simp [intOf]; omega
      · have hkn : k = m := by omega
        subst hkn
        have hall : L.take k = L := List.take_of_length_le (by rw [HM.out]; exact Nat.le_refl _)
        have HRW := Lib.hid (row_any x' (k * 3) (fnS L) wr (HE.out.below (B1.out.trans (HR.out.2.mono B1.out.size))) (by have := Sl.own HR.out.1; rwa [hall] at this) (by omega) hsm.out)
        generalize hR : str (rwS (fnS L)) = R at HRW
        have HRR := Lib.hid hR
        clear hR
        go_wp2_with (go_at_call 48; refine HRW.out.mono ?_; rintro e w2 ⟨rfl, hb2⟩)
        go_ret2
        refine ⟨?_, (B1.out.trans (HR.out.2.mono B1.out.size)).trans (hb2.mono (by have := B1.out.size; have := HR.out.2.size; omega))⟩
        show Ending.returned (Value.tuple #[Value.string R, Value.int .i64 0]) = _
        rw [← HRR.out]

end Go.Proofs.YtobpggpjboonfaaDoor
